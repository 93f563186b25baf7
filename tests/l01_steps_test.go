package tests

import (
	"math"
	"testing"

	"loop.example/g03223/impl"
)

// countSteps finds the steps of a finite number from its exponent and fraction.
func countSteps(x float32) int {
	size := math.Abs(float64(x))
	k := int(math.Ldexp(size, 149))
	if size >= 0x1p-126 {
		fraction, power := math.Frexp(size)
		k = (power+125)<<23 + int(math.Ldexp(fraction, 24))
	}
	if x < 0 {
		return -k
	}
	return k
}

func TestP10Constants(t *testing.T) {
	if impl.MaxSteps != 2139095039 || impl.MaxList != 300 {
		t.Error("MaxSteps or MaxList")
	}
}

func TestP10StepsOfNamedNumbers(t *testing.T) {
	for _, c := range []struct {
		x float32
		k int
	}{
		{0, 0}, {minusZero(), 0},
		{0x1p-149, 1}, {-0x1p-149, -1}, {0x3p-149, 3},
		{0x1p-126 - 0x1p-149, 8388607}, {0x1p-126, 8388608}, {-0x1p-126, -8388608}, {0x1p-126 + 0x1p-149, 8388609},
		{0x1p-125, 16777216}, {1, 1065353216}, {-1, -1065353216}, {2, 1073741824}, {0.75, 1061158912},
		{math.MaxFloat32, impl.MaxSteps}, {-math.MaxFloat32, -impl.MaxSteps},
	} {
		if k, ok := impl.StepsOf(c.x); !ok || k != c.k {
			t.Errorf("StepsOf(%g) = %d, %v; not %d", c.x, k, ok, c.k)
		}
	}
	if x, ok := impl.FromSteps(0); !ok || !sameSingle(x, 0) {
		t.Errorf("FromSteps(0) = %g, %v; not 0", x, ok)
	}
}

func TestP10StepsOfOthers(t *testing.T) {
	for _, x := range notFinite() {
		if k, ok := impl.StepsOf(x); ok || k != 0 {
			t.Errorf("StepsOf(%g) = %d, %v", x, k, ok)
		}
		if y, ok := impl.NextUp(x); ok || !sameSingle(y, 0) {
			t.Errorf("NextUp(%g) = %g, %v", x, y, ok)
		}
		if y, ok := impl.NextDown(x); ok || !sameSingle(y, 0) {
			t.Errorf("NextDown(%g) = %g, %v", x, y, ok)
		}
		for _, pair := range [][2]float32{{x, 1}, {1, x}, {x, x}} {
			if k, ok := impl.StepsBetween(pair[0], pair[1]); ok || k != 0 {
				t.Errorf("StepsBetween(%g, %g) = %d, %v", pair[0], pair[1], k, ok)
			}
		}
	}
}

func TestP10FromStepsOutOfRange(t *testing.T) {
	for _, k := range []int{
		impl.MaxSteps + 1, -impl.MaxSteps - 1, impl.MaxSteps + 2, 1<<31 - 1, 1 << 31, 1<<31 + 1, -1 << 31,
		1 << 32, 1<<32 + 1, -1<<32 - 1, 1<<33 + 8388608, math.MaxInt, math.MinInt, math.MinInt + 1,
	} {
		if x, ok := impl.FromSteps(k); ok || !sameSingle(x, 0) {
			t.Errorf("FromSteps(%d) = %g, %v", k, x, ok)
		}
	}
}

func TestP2StepsNumberInOrder(t *testing.T) {
	list := someSteps()
	if list[0] != -impl.MaxSteps || list[len(list)-1] != impl.MaxSteps {
		t.Fatalf("the test goes from %d to %d", list[0], list[len(list)-1])
	}
	below := infinity(-1)
	for _, k := range list {
		x := fromSteps(t, k)
		if !(x > below) || x > math.MaxFloat32 {
			t.Fatalf("FromSteps(%d) = %g follows %g", k, x, below)
		}
		if x == 0 && math.Signbit(float64(x)) {
			t.Errorf("FromSteps(%d) is -0", k)
		}
		below = x
	}
}

func TestP2StepsLeadBack(t *testing.T) {
	for _, k := range someSteps() {
		x := fromSteps(t, k)
		if countSteps(x) != k {
			t.Fatalf("FromSteps(%d) = %g, which has %d steps", k, x, countSteps(x))
		}
		if back, ok := impl.StepsOf(x); !ok || back != k {
			t.Fatalf("StepsOf(FromSteps(%d)) = %d, %v", k, back, ok)
		}
	}
}

func TestP2NextNumbers(t *testing.T) {
	for _, x := range someSingles(t) {
		// The next number by another way; it is 0, not -0, on either side of 0.
		up, down := math.Nextafter32(x, infinity(1))+0, math.Nextafter32(x, infinity(-1))+0
		if y, ok := impl.NextUp(x); x < math.MaxFloat32 && (!ok || !sameSingle(y, up)) {
			t.Fatalf("NextUp(%g) = %g, %v; not %g", x, y, ok, up)
		}
		if y, ok := impl.NextDown(x); x > -math.MaxFloat32 && (!ok || !sameSingle(y, down)) {
			t.Fatalf("NextDown(%g) = %g, %v; not %g", x, y, ok, down)
		}
	}
}

func TestP10NextNumbersAtTheEnds(t *testing.T) {
	if y, ok := impl.NextUp(math.MaxFloat32); ok || !sameSingle(y, 0) {
		t.Errorf("NextUp of the greatest number = %g, %v", y, ok)
	}
	if y, ok := impl.NextDown(-math.MaxFloat32); ok || !sameSingle(y, 0) {
		t.Errorf("NextDown of the least number = %g, %v", y, ok)
	}
	for _, zero := range []float32{0, minusZero()} {
		if y, ok := impl.NextUp(zero); !ok || y != 0x1p-149 {
			t.Errorf("NextUp(%g) = %g, %v", zero, y, ok)
		}
		if y, ok := impl.NextDown(zero); !ok || y != -0x1p-149 {
			t.Errorf("NextDown(%g) = %g, %v", zero, y, ok)
		}
	}
	if y, ok := impl.NextUp(-0x1p-149); !ok || !sameSingle(y, 0) {
		t.Errorf("NextUp of the greatest negative number = %g, %v", y, ok)
	}
	if y, ok := impl.NextDown(0x1p-149); !ok || !sameSingle(y, 0) {
		t.Errorf("NextDown of the least number above 0 = %g, %v", y, ok)
	}
}

func TestP2StepsBetween(t *testing.T) {
	named := []int{0, 1, -1, 8388607, 8388608, -8388608, 1065353216, impl.MaxSteps, -impl.MaxSteps}
	for _, k := range named {
		for _, l := range named {
			if n, ok := impl.StepsBetween(fromSteps(t, k), fromSteps(t, l)); !ok || n != l-k {
				t.Errorf("StepsBetween for %d and %d = %d, %v", k, l, n, ok)
			}
		}
	}
	if n, ok := impl.StepsBetween(minusZero(), 0); !ok || n != 0 {
		t.Errorf("StepsBetween(-0, 0) = %d, %v", n, ok)
	}
}

func TestP10Subnormal(t *testing.T) {
	for _, x := range someSingles(t) {
		k := countSteps(x)
		size := max(k, -k)
		if want := 1 <= size && size <= 8388607; impl.IsSubnormal(x) != want {
			t.Fatalf("IsSubnormal(%g) is not %v", x, want)
		}
	}
	for _, x := range notFinite() {
		if impl.IsSubnormal(x) {
			t.Errorf("IsSubnormal(%g)", x)
		}
	}
}

func TestP2WhatIsFlushedIsNotSubnormal(t *testing.T) {
	for _, x := range append(someSingles(t), notFinite()...) {
		y := impl.FlushSmall(x)
		if impl.IsSubnormal(y) || y != 0 && math.Abs(float64(y)) < 0x1p-126 {
			t.Fatalf("FlushSmall(%g) = %g is subnormal", x, y)
		}
		want := x
		if x != 0 && math.Abs(float64(x)) < 0x1p-126 {
			want = float32(math.Copysign(0, float64(x)))
		}
		if !sameSingle(y, want) {
			t.Fatalf("FlushSmall(%g) = %g, not %g", x, y, want)
		}
	}
	if !sameSingle(impl.FlushSmall(-0x1p-149), minusZero()) || !sameSingle(impl.FlushSmall(0x1p-149), 0) {
		t.Error("FlushSmall does not keep the sign")
	}
}

// halve divides by 2 in double precision, in which the quotient of any single is exact, and narrows.
func halve(x float32, n int) float32 {
	for i := 0; i < n; i++ {
		x = float32(float64(x) / 2)
	}
	return x
}

func TestP10HalveSingle(t *testing.T) {
	for i, x := range append(someSingles(t), notFinite()...) {
		if n := i % 300; !sameSingle(impl.HalveSingle(x, n), halve(x, n)) {
			t.Fatalf("HalveSingle(%g, %d) = %g, not %g", x, n, impl.HalveSingle(x, n), halve(x, n))
		}
		if !sameSingle(impl.HalveSingle(x, 1), halve(x, 1)) {
			t.Fatalf("HalveSingle(%g, 1) = %g, not %g", x, impl.HalveSingle(x, 1), halve(x, 1))
		}
	}
}

func TestP10HalveSingleRoundsEachTime(t *testing.T) {
	// 11 steps become 5.5, which is 6, then 3, then 1.5, which is 2: not 11 / 8, which is 1.
	for _, c := range []struct{ k, n, want int }{
		{1, 1, 0}, {3, 1, 2}, {5, 1, 2}, {7, 1, 4}, {11, 1, 6}, {11, 2, 3}, {11, 3, 2}, {11, 4, 1}, {11, 5, 0},
		{-11, 3, -2}, {-3, 1, -2}, {16777215, 1, 8388608}, {8388609, 1, 4194304}, {8388611, 1, 4194306}, {16777216, 1, 8388608},
	} {
		if k, ok := impl.StepsOf(impl.HalveSingle(fromSteps(t, c.k), c.n)); !ok || k != c.want {
			t.Errorf("%d steps halved %d times are %d, not %d", c.k, c.n, k, c.want)
		}
	}
	if !sameSingle(impl.HalveSingle(-0x1p-149, 1), minusZero()) {
		t.Error("what is halved to 0 does not keep its sign")
	}
}

func TestP10HalveSingleCounts(t *testing.T) {
	for _, n := range []int{0, -1, -400, -401, math.MinInt} {
		for _, x := range []float32{3, -0x1p-149, minusZero(), infinity(-1), notANumber()} {
			if !sameSingle(impl.HalveSingle(x, n), x) {
				t.Errorf("HalveSingle(%g, %d) = %g", x, n, impl.HalveSingle(x, n))
			}
		}
	}
	for _, n := range []int{277, 278, 399, 400, 401, 1000, 1 << 32, 1<<32 + 1, math.MaxInt} {
		for _, x := range []float32{1, -1, 0, minusZero(), infinity(1), infinity(-1), notANumber(), math.MaxFloat32, -math.MaxFloat32} {
			if want := halve(x, min(n, 400)); !sameSingle(impl.HalveSingle(x, n), want) {
				t.Errorf("HalveSingle(%g, %d) = %g, not %g", x, n, impl.HalveSingle(x, n), want)
			}
		}
	}
	if impl.HalveSingle(0x1p127, 276) != 0x1p-149 || impl.HalveSingle(0x1p127, 277) != 0 {
		t.Error("halves down to the least number")
	}
}

func TestP10LosesHalf(t *testing.T) {
	for _, x := range someSingles(t) {
		k := countSteps(x)
		// Below 2^-125, the half of an odd number of steps is between two numbers.
		if want := k%2 != 0 && max(k, -k) < 1<<24; impl.LosesHalf(x) != want {
			t.Fatalf("LosesHalf(%g) is not %v", x, want)
		}
	}
	for _, x := range notFinite() {
		// Infinity is equal to itself, and NaN to nothing.
		if want := math.IsNaN(float64(x)); impl.LosesHalf(x) != want {
			t.Errorf("LosesHalf(%g) is not %v", x, want)
		}
	}
}
