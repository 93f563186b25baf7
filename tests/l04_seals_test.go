package tests

import (
	"math"
	"math/rand/v2"
	"slices"
	"testing"

	"loop.example/g03223/impl"
)

// oppositeOf turns the sign bit, of zeros and infinities, too.
func oppositeOf(x float32) float32 {
	return math.Float32frombits(math.Float32bits(x) ^ 1<<31)
}

// sealSample is what the last sample should be replaced by: each part is added, in double precision and narrowed each time, on its own.
func sealSample(f impl.Frame) complex64 {
	x, y := float32(0), float32(0)
	for _, z := range f[:7] {
		x, y = add(x, real(z)), add(y, imag(z))
	}
	return complex(oppositeOf(x), oppositeOf(y))
}

func partIsNaN(z complex64) bool {
	return math.IsNaN(float64(real(z))) || math.IsNaN(float64(imag(z)))
}

func checkSeal(t *testing.T, f impl.Frame, seal complex64) {
	t.Helper()
	want := withSample(f, 7, seal)
	sealed := impl.SealFrame(f)
	if !sameFrame(sealed, want) {
		t.Errorf("SealFrame(%v) = %v, not %v", f, sealed, want)
	}
	if impl.IsSealed(sealed) == partIsNaN(seal) {
		t.Errorf("IsSealed(%v) is %v", sealed, partIsNaN(seal))
	}
}

func TestP10NamedSeals(t *testing.T) {
	inf, nan, zero, most, least := infinity(1), notANumber(), minusZero(), float32(math.MaxFloat32), float32(0x1p-149)
	both := complex(zero, zero)
	for _, c := range []struct {
		f    impl.Frame
		seal complex64
	}{
		{impl.Frame{1, 2}, complex(-3, zero)}, {impl.Frame{1i, 2i, 3i}, complex(zero, -6)}, {impl.Frame{1, 2, 3, 4, 5, 6, 7, 100}, complex(-28, zero)},
		{impl.Frame{1 - 2i, 2 - 4i, 0, 0, 0, 0, 4 + 1i, 9 + 9i}, -7 + 5i},
		// The sum begins with 0, so that of -0 alone is 0, the negative of which is -0.
		{impl.Frame{}, both}, {impl.Frame{both, both, both, both, both, both, both, both}, both}, {impl.Frame{0, both, 0, 0, both}, both}, {impl.Frame{3 + 4i, -3 - 4i}, both},
		{impl.Frame{0, 0, 0, 0, 0, 0, 0, 5}, both}, {impl.Frame{complex(zero, 1)}, complex(zero, -1)},
		// One sample in each place, the last of which is not among those that are added.
		{impl.Frame{5i}, complex(zero, -5)}, {impl.Frame{0, 5}, complex(-5, zero)}, {impl.Frame{0, 0, 0, 0, 0, 5}, complex(-5, zero)}, {impl.Frame{0, 0, 0, 0, 0, 0, 5}, complex(-5, zero)},
		{impl.Frame{1, 0, 0, 0, 0, 0, 0, complex(inf, nan)}, complex(-1, zero)}, {impl.Frame{1, 0, 0, 0, 0, 0, 0, complex(nan, inf)}, complex(-1, zero)},
		// Each sum is rounded, from the first sample on: other orders, and more digits, give other sums.
		{impl.Frame{16777216, 1, 1, -16777216}, both}, {impl.Frame{1, 1, 16777216, -16777216}, complex(-2, zero)}, {impl.Frame{16777216i, 1i, 1i, 1i, 1i, 1i, 1i}, complex(zero, -16777216)},
		{impl.Frame{0.1, 0.2, 0.3}, complex(-(float32(0.1) + float32(0.2) + float32(0.3)), zero)}, {impl.Frame{1, 0x1p-24, 0x1p-24}, complex(-1, zero)}, {impl.Frame{0x1p-24, 0x1p-24, 1}, complex(-1-0x1p-23, zero)},
		{impl.Frame{complex(most, -most), complex(most, -most), complex(-most, most)}, complex(-inf, inf)}, {impl.Frame{complex(most, 0), complex(-most, 0), complex(most, 0)}, complex(-most, zero)},
		// Subnormal numbers are kept.
		{impl.Frame{complex(least, -least)}, complex(-least, least)}, {impl.Frame{complex(least, 0), complex(least, 0), complex(least, 0)}, complex(-3*least, zero)},
		{impl.Frame{complex(0x1p-126, 0), complex(-least, 0)}, complex(least-0x1p-126, zero)}, {impl.Frame{complex(least, 0), 1, -1}, both}, {impl.Frame{1, -1, complex(0, least)}, complex(zero, -least)},
		// Infinities, and NaN, stay in their part.
		{impl.Frame{complex(inf, 1), 2i}, complex(-inf, -3)}, {impl.Frame{complex(1, -inf), 2}, complex(-3, inf)}, {impl.Frame{complex(inf, 0), complex(inf, 0)}, complex(-inf, zero)},
		{impl.Frame{complex(inf, 1), complex(-inf, 2)}, complex(nan, -3)}, {impl.Frame{complex(1, inf), 0, 0, complex(1, -inf)}, complex(-2, nan)}, {impl.Frame{complex(nan, 1), 1}, complex(nan, -1)},
		{impl.Frame{0, 0, 0, 0, 0, 0, complex(1, nan)}, complex(-1, nan)}, {impl.Frame{complex(nan, nan)}, complex(nan, nan)}, {impl.Frame{complex(inf, -inf)}, complex(-inf, inf)},
	} {
		checkSeal(t, c.f, c.seal)
	}
}

// randomFrame has parts of all sorts, of which few are not finite.
func randomFrame(choice *rand.Rand, parts []float32) impl.Frame {
	f := impl.Frame{}
	for k := range f {
		f[k] = complex(parts[choice.IntN(len(parts))], parts[choice.IntN(len(parts))])
	}
	return f
}

func TestP10SealFrame(t *testing.T) {
	choice := rand.New(rand.NewPCG(9, 10))
	parts := someParts(t)
	finite := slices.DeleteFunc(slices.Clone(parts), func(x float32) bool { return !finitePart(x) })
	sealed := 0
	for i := range 20000 {
		f := randomFrame(choice, finite)
		if i%4 == 0 {
			f = randomFrame(choice, parts)
		}
		checkSeal(t, f, sealSample(f))
		if !partIsNaN(sealSample(f)) {
			sealed++
		}
		if again := impl.SealFrame(impl.SealFrame(f)); !sameFrame(again, impl.SealFrame(f)) {
			t.Fatalf("SealFrame of a sealed frame is %v", again)
		}
		if impl.IsSealed(f) != (f[7] == sealSample(f)) {
			t.Fatalf("IsSealed(%v) is %v", f, impl.IsSealed(f))
		}
	}
	if sealed == 0 || sealed == 20000 {
		t.Errorf("%d frames are sealed", sealed)
	}
}

// TestP10SealsWithASampleChanged changes one part a little, which no seal overlooks, as the sums of these are exact.
func TestP10SealsWithASampleChanged(t *testing.T) {
	for _, f := range []impl.Frame{{1, 2i, 3, 4, 5, 6 - 1i, 7}, {0.5, 0.25, -3i}, {complex(0x1p-149, 0)}} {
		sealed := impl.SealFrame(f)
		if !impl.IsSealed(sealed) {
			t.Fatalf("%v is not sealed", sealed)
		}
		for k, z := range sealed {
			for _, other := range []complex64{z + 1, z - 1, z + 1i, z - 1i, complex(notANumber(), imag(z)), complex(real(z), notANumber()), complex(infinity(1), imag(z)), complex(real(z), infinity(-1))} {
				if changed := withSample(sealed, k, other); impl.IsSealed(changed) {
					t.Errorf("%v is sealed", changed)
				}
			}
		}
		z := sealed[7]
		up, _ := impl.NextUp(real(z))
		down, _ := impl.NextDown(imag(z))
		if impl.IsSealed(withSample(sealed, 7, complex(up, imag(z)))) || impl.IsSealed(withSample(sealed, 7, complex(real(z), down))) || impl.IsSealed(withSample(sealed, 7, -z)) {
			t.Errorf("%v, with the last sample changed, is sealed", sealed)
		}
	}
}

func TestP10SealsAreEqualNotTheSame(t *testing.T) {
	inf := infinity(1)
	for _, z := range zeroPoints() {
		for _, f := range []impl.Frame{{}, {1 + 1i, -1 - 1i}, {complex(minusZero(), 0)}} {
			if !impl.IsSealed(withSample(f, 7, z)) {
				t.Errorf("%v with %g is not sealed", f, z)
			}
		}
	}
	for _, c := range []struct {
		z    complex64
		want bool
	}{
		{complex(-inf, 0), true}, {complex(-inf, minusZero()), true}, {complex(inf, 0), false}, {complex(-math.MaxFloat32, 0), false}, {complex(-inf, 1), false}, {complex(notANumber(), 0), false},
	} {
		f := impl.Frame{complex(inf, 0), 1, 0, 0, 0, 0, 0, c.z}
		if impl.IsSealed(f) != c.want {
			t.Errorf("IsSealed(%v) is not %v", f, c.want)
		}
	}
	for _, f := range notNumberFrames() {
		// A frame in which the last sample alone has NaN is not sealed, but can be.
		sealed := impl.SealFrame(f)
		if impl.IsSealed(f) || impl.IsSealed(sealed) == partIsNaN(sealSample(f)) {
			t.Errorf("IsSealed(%v) or IsSealed(%v) is wrong", f, sealed)
		}
	}
}

func TestP10TurnFrame(t *testing.T) {
	choice := rand.New(rand.NewPCG(11, 12))
	parts := someParts(t)
	for range 5000 {
		f := randomFrame(choice, parts)
		turn := complex(parts[choice.IntN(len(parts))], parts[choice.IntN(len(parts))])
		want := impl.Frame{}
		for k, z := range f {
			want[k] = impl.MultiplyPoints(z, turn)
		}
		if turned := impl.TurnFrame(f, turn); !sameFrame(turned, want) {
			t.Fatalf("TurnFrame(%v, %g) = %v, not %v", f, turn, turned, want)
		}
	}
}

func TestP10NamedTurnsOfFrames(t *testing.T) {
	zero, inf, nan, most := minusZero(), infinity(1), notANumber(), float32(math.MaxFloat32)
	f := impl.Frame{1, 2i, 3 + 4i, 0, 5, -6i, 7, 8}
	for _, c := range []struct {
		f    impl.Frame
		turn complex64
		want impl.Frame
	}{
		{f, 1, f},
		{f, 1i, impl.Frame{1i, -2, -4 + 3i, 0, 5i, 6, 7i, 8i}},
		{f, -1, impl.Frame{-1, complex(zero, -2), -3 - 4i, complex(zero, 0), -5, 6i, -7, -8}},
		{impl.Frame{}, -1 - 1i, impl.Frame{complex(0, zero), complex(0, zero), complex(0, zero), complex(0, zero), complex(0, zero), complex(0, zero), complex(0, zero), complex(0, zero)}},
		{impl.Frame{1, 1, 1, 1, 1, 1, 1, 1i}, 2 + 3i, impl.Frame{2 + 3i, 2 + 3i, 2 + 3i, 2 + 3i, 2 + 3i, 2 + 3i, 2 + 3i, -3 + 2i}},
		{impl.Frame{complex(most, most)}, complex(most, most), impl.Frame{complex(0, inf)}},
		{impl.Frame{complex(0x1p-149, 0), complex(0x3p-149, 0)}, 0.5, impl.Frame{0, complex(0x1p-148, 0)}},
	} {
		turned := impl.TurnFrame(c.f, c.turn)
		if !sameFrame(turned, c.want) {
			t.Errorf("TurnFrame(%v, %g) = %v, not %v", c.f, c.turn, turned, c.want)
		}
	}
	for _, turn := range []complex64{complex(nan, 0), complex(0, nan), complex(inf, inf)} {
		for _, z := range impl.TurnFrame(impl.Frame{}, turn) {
			if !partIsNaN(z) {
				t.Errorf("0, turned by %g, is %g", turn, z)
			}
		}
	}
}

func TestP10TurnBack(t *testing.T) {
	f := impl.Frame{1, 2, 3, 4, 5i, 6, 7, complex(minusZero(), 8)}
	want := impl.Frame{complex(minusZero(), 8), 7, 6, 5i, 4, 3, 2, 1}
	if back := impl.TurnBack(f); !sameFrame(back, want) {
		t.Errorf("TurnBack(%v) = %v", f, back)
	}
	for _, f := range allFrames(t) {
		back := impl.TurnBack(f)
		for k := range f {
			if !samePoint(back[k], f[7-k]) {
				t.Fatalf("TurnBack(%v) = %v", f, back)
			}
		}
	}
}

func TestP4FramesTurnedBackTwice(t *testing.T) {
	for i, f := range append(allFrames(t), frameAt(1), frameAt(2), frameAt(3)) {
		if twice := impl.TurnBack(impl.TurnBack(f)); !sameFrame(twice, f) {
			t.Fatalf("the frame %d is %v when it is turned back twice, not %v", i, twice, f)
		}
	}
}
