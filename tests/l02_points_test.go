package tests

import (
	"math"
	"math/big"
	"testing"

	"loop.example/g03223/impl"
)

// samePoint is sameSingle for both parts.
func samePoint(a complex64, b complex64) bool {
	return sameSingle(real(a), real(b)) && sameSingle(imag(a), imag(b))
}

// someParts are parts of points of all sorts, finite ones first.
func someParts(t *testing.T) []float32 {
	list := []float32{
		0, minusZero(), 1, -1, 2, 0.1, -0.3, 3, 16777215, -16777213, 4097, 0x1p-12, 1e30, -1e30, 1e-30, -1e-30,
		math.MaxFloat32, -math.MaxFloat32, 0x1p127, 0x1p-126, -0x1p-126,
	}
	for _, k := range []int{1, -1, 2, 3, -5, 8388607, 8388609, 1065353217, -1065353219} {
		list = append(list, fromSteps(t, k))
	}
	return append(list, notFinite()...)
}

func finitePart(x float32) bool { return math.Abs(float64(x)) <= math.MaxFloat32 }

func finitePoint(z complex64) bool { return finitePart(real(z)) && finitePart(imag(z)) }

// roundedProducts finds p q + r s, rounded to double precision once and then narrowed, in which the products lose nothing.
func roundedProducts(p float32, q float32, r float32, s float32) float32 {
	first := new(big.Float).SetPrec(600).Mul(exact(p), exact(q))
	second := new(big.Float).SetPrec(600).Mul(exact(r), exact(s))
	sum := new(big.Float).SetPrec(600).Add(first, second)
	d, _ := sum.Float64()
	return float32(d)
}

func TestP10ConstantsOfPoints(t *testing.T) {
	if impl.MaxPoints != 64 || impl.MaxSide != 8 {
		t.Error("MaxPoints or MaxSide")
	}
}

func TestP10ProductsOfNamedPoints(t *testing.T) {
	inf, nan, zero, most := infinity(1), notANumber(), minusZero(), float32(math.MaxFloat32)
	for _, c := range []struct{ a, b, want complex64 }{
		{complex(1, 2), complex(3, -1), complex(5, 5)},
		{complex(0, 1), complex(0, 1), complex(-1, 0)},
		{complex(3, 4), complex(3, -4), complex(25, 0)},
		{complex(3, 4), 0, 0}, {complex(3, -4), 0, 0},
		{complex(0, 0), complex(-1, 0), complex(zero, 0)},
		{complex(0, 0), complex(-1, -1), complex(0, zero)},
		{complex(zero, 0), complex(1, 0), complex(zero, 0)},
		{complex(0, zero), complex(1, 0), complex(0, 0)},
		{complex(zero, zero), complex(1, 1), complex(0, zero)},
		// In single precision, each of these products would be too great.
		{complex(most, most), complex(most, most), complex(0, inf)},
		{complex(most, -most), complex(most, most), complex(inf, 0)},
		{complex(1e30, 1e30), complex(1e30, 1e30), complex(0, inf)},
		// One product is too small for single precision, but rounds the sum of both to the other side.
		{complex(4097, 1), complex(4097, -0x1p-20), complex(16785410, 4097-0x1p-8)},
		// The sum is rounded to double precision first, and is between two numbers then.
		{complex(24929, 0x1p-15), complex(673, -0x1p-15), complex(16777216, -24256*0x1p-15)},
		{complex(24929, 0x1p-15), complex(673, -0x1p-13), complex(16777218, -99043*0x1p-15)},
		{complex(0x1p-149, 0), complex(0.5, 0), complex(0, 0)},
		{complex(0x1p-149, 0), complex(0.75, 0), complex(0x1p-149, 0)},
		{complex(0x3p-149, 0), complex(0.5, 0), complex(0x1p-148, 0)},
		{complex(-1e-30, 0), complex(1e-30, 0), complex(zero, 0)},
		{complex(most, 0), complex(2, 0), complex(inf, 0)},
		{complex(inf, 0), complex(1, 0), complex(inf, nan)},
		{complex(inf, 1), complex(1, 1), complex(inf, inf)},
		{complex(inf, inf), complex(1, 1), complex(nan, inf)},
		{complex(inf, 0), complex(0, 0), complex(nan, nan)},
		{complex(nan, 0), complex(1, 0), complex(nan, nan)},
		{complex(0, nan), complex(0, 0), complex(nan, nan)},
	} {
		if z := impl.MultiplyPoints(c.a, c.b); !samePoint(z, c.want) {
			t.Errorf("MultiplyPoints(%g, %g) = %g, not %g", c.a, c.b, z, c.want)
		}
	}
}

func TestP10ProductsOfAnyPoints(t *testing.T) {
	list := someParts(t)
	differ := 0
	for _, ar := range list {
		for _, ai := range list {
			for k := range list {
				br, bi := list[k], list[(k*7+3)%len(list)]
				a, b := complex(ar, ai), complex(br, bi)
				z := impl.MultiplyPoints(a, b)
				if !finitePoint(a) || !finitePoint(b) {
					continue
				}
				want := complex(roundedProducts(ar, br, -ai, bi), roundedProducts(ar, bi, ai, br))
				if z != want {
					t.Fatalf("MultiplyPoints(%g, %g) = %g, not %g", a, b, z, want)
				}
				single := sub(float32(float64(ar)*float64(br)), float32(float64(ai)*float64(bi)))
				if single != real(want) {
					differ++
				}
			}
		}
	}
	if differ == 0 {
		t.Error("single precision would do for all products")
	}
}

func TestP10ProductsWithSignsOfZeros(t *testing.T) {
	for _, a := range zeroPoints() {
		for _, b := range append(zeroPoints(), complex(2, 3), complex(-2, 3), complex(2, -3), complex(-2, -3)) {
			want := complex(
				float32(float64(real(a))*float64(real(b))-float64(imag(a))*float64(imag(b))),
				float32(float64(real(a))*float64(imag(b))+float64(imag(a))*float64(real(b))),
			)
			if z := impl.MultiplyPoints(a, b); !samePoint(z, want) {
				t.Errorf("MultiplyPoints(%g, %g) = %g, not %g", a, b, z, want)
			}
			if z := impl.MultiplyPoints(b, a); !samePoint(z, want) {
				t.Errorf("MultiplyPoints(%g, %g) = %g, not %g", b, a, z, want)
			}
		}
	}
}

// zeroPoints are the points that are equal to 0.
func zeroPoints() []complex64 {
	zero := minusZero()
	return []complex64{complex(0, 0), complex(0, zero), complex(zero, 0), complex(zero, zero)}
}

func TestP10EqualPoints(t *testing.T) {
	list := someParts(t)
	for i, x := range list {
		for k, y := range list {
			a, b := complex(x, y), complex(y, x)
			number := !math.IsNaN(float64(x)) && !math.IsNaN(float64(y))
			if impl.EqualPoints(a, a) != number {
				t.Errorf("EqualPoints(%g, %g) is not %v", a, a, number)
			}
			same := number && (i == k || x == 0 && y == 0)
			if impl.EqualPoints(a, b) != same {
				t.Errorf("EqualPoints(%g, %g) is not %v", a, b, same)
			}
		}
	}
	for _, a := range zeroPoints() {
		for _, b := range zeroPoints() {
			if !impl.EqualPoints(a, b) {
				t.Errorf("EqualPoints(%g, %g) is false", a, b)
			}
		}
	}
	for _, c := range [][2]complex64{{1, 2}, {complex(1, 2), complex(1, 3)}, {complex(1, 2), complex(2, 2)}, {0x1p-149, 0}, {0x1p-149i, 0}} {
		if impl.EqualPoints(c[0], c[1]) || impl.EqualPoints(c[1], c[0]) {
			t.Errorf("EqualPoints(%g, %g) is true", c[0], c[1])
		}
	}
}

// distance finds each difference, square and sum in double precision and narrows it.
func distance(a complex64, b complex64) float32 {
	x, y := sub(real(a), real(b)), sub(imag(a), imag(b))
	return add(float32(float64(x)*float64(x)), float32(float64(y)*float64(y)))
}

func TestP10DistancesOfNamedPoints(t *testing.T) {
	inf, nan, most := infinity(1), notANumber(), float32(math.MaxFloat32)
	for _, c := range []struct {
		a, b complex64
		want float32
	}{
		{complex(1, 1), complex(4, 5), 25}, {complex(4, 5), complex(1, 1), 25}, {complex(1, 2), complex(1, 2), 0},
		{0, complex(minusZero(), minusZero()), 0},
		{1e30, 0, inf}, {complex(most, 0), complex(-most, 0), inf}, {complex(0, 1e20), 0, inf},
		{1e-30, 0, 0}, {0x1p-75, 0, 0}, {0x1p-74, 0, 0x1p-148}, {0x1.8p-75, 0, 0x1p-149},
		// The difference is rounded, then the squares, and then their sum.
		{16777216, -1, 0x1p48}, {complex(4097, 4097), 0, 33570816}, {complex(4097, 1), 0, 16785408}, {complex(0x1p12, 1), 0, 16777216}, {complex(0x1p12, 2), 0, 16777220},
		{complex(inf, 0), 0, inf}, {complex(0, -inf), 1, inf}, {complex(inf, 0), complex(inf, 0), nan}, {complex(inf, 0), complex(-inf, 0), inf},
		{complex(inf, nan), 0, nan}, {complex(nan, 0), 0, nan}, {0, complex(0, nan), nan},
	} {
		if d := impl.DistanceOf(c.a, c.b); !sameSingle(d, c.want) {
			t.Errorf("DistanceOf(%g, %g) = %g, not %g", c.a, c.b, d, c.want)
		}
	}
}

func TestP10DistancesOfAnyPoints(t *testing.T) {
	list := someParts(t)
	for _, ar := range list {
		for _, ai := range list {
			for k := range list {
				a, b := complex(ar, ai), complex(list[k], list[(k*5+2)%len(list)])
				if d := impl.DistanceOf(a, b); !sameSingle(d, distance(a, b)) {
					t.Fatalf("DistanceOf(%g, %g) = %g, not %g", a, b, d, distance(a, b))
				}
			}
		}
	}
}
