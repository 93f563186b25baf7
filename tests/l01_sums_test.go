package tests

import (
	"math"
	"math/big"
	"testing"

	"loop.example/g03223/impl"
)

// add and sub find the sum and the difference in double precision and narrow it, which gives what single precision does.
func add(a float32, b float32) float32 { return float32(float64(a) + float64(b)) }

func sub(a float32, b float32) float32 { return float32(float64(a) - float64(b)) }

// exact is a number with room for any sum of a few singles.
func exact(x float32) *big.Float {
	return new(big.Float).SetPrec(600).SetFloat64(float64(x))
}

// moderate are numbers of both signs and of many sizes, no sum of two of which is too great.
func moderate(t *testing.T) []float32 {
	list := []float32{0, minusZero(), 1, -1, 3, 0.1, -0.1, 16777216, -16777215, 16777217, 1e30, -1e30, 0x1p126, -0x1p126}
	for _, k := range []int{1, 2, 3, 8388607, 8388608, 8388609, 16777215, 16777217} {
		list = append(list, fromSteps(t, k), fromSteps(t, -k))
	}
	for k := 1234567; k < 254<<23; k += 98765431 {
		list = append(list, fromSteps(t, k), fromSteps(t, -k-7))
	}
	for k := 1065353216 - 9<<23; k < 1065353216+9<<23; k += 12345677 {
		list = append(list, fromSteps(t, k), fromSteps(t, -k-3))
	}
	return list
}

func TestP2TwoSumKeepsWhatIsLost(t *testing.T) {
	lost := 0
	for _, a := range moderate(t) {
		for _, b := range moderate(t) {
			s, e := impl.TwoSum(a, b)
			if !sameSingle(s, add(a, b)) {
				t.Fatalf("TwoSum(%g, %g) begins with %g", a, b, s)
			}
			whole := new(big.Float).SetPrec(600).Add(exact(a), exact(b))
			parts := new(big.Float).SetPrec(600).Add(exact(s), exact(e))
			if whole.Cmp(parts) != 0 {
				t.Fatalf("TwoSum(%g, %g) = %g, %g", a, b, s, e)
			}
			if e != 0 {
				lost++
			}
		}
	}
	if lost == 0 {
		t.Error("no sum lost anything")
	}
}

func TestP10TwoSum(t *testing.T) {
	nan, inf := notANumber(), infinity(1)
	for _, c := range [][4]float32{
		{1, 2, 3, 0}, {16777216, 1, 16777216, 1}, {1, 16777216, 16777216, 1}, {-16777216, -1, -16777216, -1},
		{16777216, 3, 16777220, -1}, {1, 0x1p-149, 1, 0x1p-149}, {0x1p-149, -0x1p-149, 0, 0},
		{0, 0, 0, 0}, {minusZero(), minusZero(), minusZero(), 0}, {0, minusZero(), 0, 0}, {minusZero(), 0, 0, 0},
		{math.MaxFloat32, math.MaxFloat32, inf, nan}, {-math.MaxFloat32, -math.MaxFloat32, -inf, nan},
		{inf, 1, inf, nan}, {1, -inf, -inf, nan}, {inf, -inf, nan, nan}, {nan, 1, nan, nan}, {1, nan, nan, nan},
	} {
		s, e := impl.TwoSum(c[0], c[1])
		if !sameSingle(s, c[2]) || !sameSingle(e, c[3]) {
			t.Errorf("TwoSum(%g, %g) = %g, %g; not %g, %g", c[0], c[1], s, e, c[2], c[3])
		}
	}
}

func TestP10TwoSumInItsOrder(t *testing.T) {
	for _, a := range append(moderate(t), notFinite()...) {
		for _, b := range append(moderate(t), math.MaxFloat32, infinity(1), notANumber()) {
			s := add(a, b)
			v := sub(s, a)
			e := add(sub(a, sub(s, v)), sub(b, v))
			if s1, e1 := impl.TwoSum(a, b); !sameSingle(s1, s) || !sameSingle(e1, e) {
				t.Fatalf("TwoSum(%g, %g) = %g, %g; not %g, %g", a, b, s1, e1, s, e)
			}
		}
	}
}

func forward(list []float32) float32 {
	sum := float32(0)
	for _, x := range list {
		sum = add(sum, x)
	}
	return sum
}

func pairs(list []float32) float32 {
	n := len(list)
	if n == 0 {
		return 0
	}
	if n == 1 {
		return list[0]
	}
	return add(pairs(list[:n/2]), pairs(list[n/2:]))
}

func steady(list []float32) float32 {
	s, c := float32(0), float32(0)
	for _, x := range list {
		y := sub(x, c)
		t := add(s, y)
		s, c = t, sub(sub(t, s), y)
	}
	return s
}

func double(list []float32) float64 {
	sum := 0.0
	for _, x := range list {
		sum = sum + float64(x)
	}
	return sum
}

func checkSums(t *testing.T, list []float32, f float32, p float32, s float32, d float64) {
	t.Helper()
	if x := impl.SumForward(list); !sameSingle(x, f) {
		t.Errorf("SumForward(%v) = %g, not %g", list, x, f)
	}
	if x := impl.SumPairs(list); !sameSingle(x, p) {
		t.Errorf("SumPairs(%v) = %g, not %g", list, x, p)
	}
	if x := impl.SumSteady(list); !sameSingle(x, s) {
		t.Errorf("SumSteady(%v) = %g, not %g", list, x, s)
	}
	if x := impl.SumDouble(list); !sameDouble(x, d) {
		t.Errorf("SumDouble(%v) = %g, not %g", list, x, d)
	}
}

func TestP10SumsOfNamedLists(t *testing.T) {
	zero, nan, inf := minusZero(), notANumber(), infinity(1)
	checkSums(t, nil, 0, 0, 0, 0)
	checkSums(t, []float32{}, 0, 0, 0, 0)
	checkSums(t, []float32{0.1}, 0.1, 0.1, 0.1, float64(float32(0.1)))
	// A sum over elements begins with 0, but SumPairs does not.
	checkSums(t, []float32{zero}, 0, zero, 0, 0)
	checkSums(t, []float32{zero, zero, zero}, 0, zero, 0, 0)
	checkSums(t, []float32{zero, 0}, 0, 0, 0, 0)
	checkSums(t, []float32{16777216, 1, 1}, 16777216, 16777218, 16777218, 16777218)
	// Of three elements, the first one stands alone.
	checkSums(t, []float32{1, 1, 16777216}, 16777218, 16777216, 16777218, 16777218)
	checkSums(t, []float32{1, 16777216, 1}, 16777216, 16777216, 16777218, 16777218)
	checkSums(t, []float32{1, 0x1p-24, -1}, 0, 0x1p-24, 0x1p-24, 0x1p-24)
	checkSums(t, []float32{1, 0x1p-40, -1}, 0, 0, 0, 0x1p-40)
	checkSums(t, []float32{1, 0x1p-60, -1}, 0, 0, 0, 0)
	checkSums(t, []float32{0x1p-149, 0x1p-149}, 0x1p-148, 0x1p-148, 0x1p-148, 0x1p-148)
	checkSums(t, []float32{math.MaxFloat32, math.MaxFloat32, -math.MaxFloat32}, inf, math.MaxFloat32, nan, math.MaxFloat32)
	checkSums(t, []float32{inf}, inf, inf, inf, math.Inf(1))
	checkSums(t, []float32{inf, 1}, inf, inf, nan, math.Inf(1))
	checkSums(t, []float32{1, inf, -inf}, nan, nan, nan, math.NaN())
	checkSums(t, []float32{1, nan, 1}, nan, nan, nan, math.NaN())
}

func TestP10SumsOfAnyLength(t *testing.T) {
	numbers := moderate(t)
	for n := 0; n <= 2*impl.MaxList; n++ {
		list := make([]float32, n)
		for i := range list {
			list[i] = numbers[(i*i+n*7+i*n)%len(numbers)] * 0x1p-20
		}
		checkSums(t, list, forward(list), pairs(list), steady(list), double(list))
	}
}

func TestP10SumsLeaveTheListAlone(t *testing.T) {
	whole := []float32{1, 0x1p-30, -1, 16777216, 7, 9, 11}
	list, before := whole[:4], append([]float32{}, whole...)
	first := []float64{float64(impl.SumForward(list)), float64(impl.SumPairs(list)), float64(impl.SumSteady(list)), impl.SumDouble(list)}
	again := []float64{float64(impl.SumForward(list)), float64(impl.SumPairs(list)), float64(impl.SumSteady(list)), impl.SumDouble(list)}
	for i := range first {
		if !sameDouble(first[i], again[i]) {
			t.Errorf("sum %d is another one when it is asked for again", i)
		}
	}
	for i := range whole {
		if whole[i] != before[i] {
			t.Errorf("element %d, or what is behind the list, was changed", i)
		}
	}
}
