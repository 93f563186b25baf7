package tests

import (
	"math"
	"math/rand/v2"
	"slices"
	"testing"

	"loop.example/g03223/impl"
)

// product is made of products in double precision, none of which is rounded.
func product(a complex64, b complex64) complex64 {
	x, y, p, q := float64(real(a)), float64(imag(a)), float64(real(b)), float64(imag(b))
	return complex(float32(float64(x*p)-float64(y*q)), float32(float64(x*q)+float64(y*p)))
}

// flushedProduct is found in double precision, in which the product of two singles is exact, and narrowed.
func flushedProduct(x float32, level float32) float32 {
	y := float32(float64(x) * float64(level))
	if math.Abs(float64(y)) < 0x1p-126 {
		return float32(math.Copysign(0, float64(y)))
	}
	return y
}

// higher is the level of a meter after one part.
func higher(level float32, part float32) float32 {
	if part < 0 {
		part = -part
	}
	if part > level {
		return part
	}
	return level
}

// stepped is what StepModule should return, for a module that is valid.
func stepped(m impl.Module, z complex64) (impl.Module, complex64) {
	out := z
	switch m.Kind {
	case 1:
		out, m.State = m.State, product(m.State, m.Turn)
	case 2:
		out, m.State = product(z, m.State), product(m.State, m.Turn)
	case 3:
		out = complex(flushedProduct(real(z), m.Level), flushedProduct(imag(z), m.Level))
	case 4:
		m.Ring, out = pushedRing(m.Ring, z)
	case 6:
		out, m.Count = 0, -1
		if i, ok := nearest(m.Table.Points, z); ok {
			out, m.Count = m.Table.Points[i], m.Table.Labels[i]
		}
	case 7:
		m.Level = higher(higher(m.Level, real(z)), imag(z))
	case 8:
		if m.Left == 0 {
			m.State, m.Left = z, m.Count
		}
		out, m.Left = m.State, m.Left-1
	}
	return m, out
}

func checkStep(t *testing.T, m impl.Module, z complex64, want impl.Module, wantOut complex64) impl.Module {
	t.Helper()
	r, out, ok := impl.StepModule(m, z)
	if !ok || !samePoint(out, wantOut) || !sameModule(r, want) {
		t.Fatalf("StepModule(%v, %g) = %v, %g, %v; not %v, %g", m, z, r, out, ok, want, wantOut)
	}
	if !impl.IsModule(r) {
		t.Fatalf("StepModule(%v, %g) = %v, which is not valid", m, z, r)
	}
	return r
}

func TestP10StepsOfAllModules(t *testing.T) {
	for _, m := range append(goodModules(), plainModules()...) {
		for _, z := range samplesOfAllSorts() {
			want, out := stepped(m, z)
			checkStep(t, m, z, want, out)
		}
	}
}

func TestP10StepsOfSourcesAndMixers(t *testing.T) {
	inf, nan, zero, least := infinity(1), notANumber(), minusZero(), float32(0x1p-149)
	for _, c := range []struct{ turn, state, z, next, mixed complex64 }{
		{1i, 1, 5, 1i, 5}, {1i, 1i, 2 - 3i, -1, 3 + 2i}, {-1, 2, 1, -2, 2}, {0, 3 - 1i, 1, complex(0, 0), 3 - 1i}, {2, complex(greatest, 0), 0, complex(inf, 0), 0},
		{0.5, complex(least, -least), 1, complex(0, zero), complex(least, -least)}, {0.75, complex(least, 3*least), 2, complex(least, 2*least), complex(2*least, 6*least)},
		// Not only the product, but the sample and the state keep the signs of zeros, and NaN.
		{1, complex(zero, zero), -1, complex(0, zero), complex(0, 0)}, {1, complex(nan, 1), 1, complex(nan, nan), complex(nan, nan)}, {complex(inf, 0), 1, 1, complex(inf, nan), 1}, {complex(nan, 0), 2, 1, complex(nan, nan), 2},
		// In single precision, the two products would be too great.
		{complex(1e30, 1e30), complex(1e30, 1e30), complex(1e30, 1e30), complex(0, inf), complex(0, inf)}, {complex(4097, -0x1p-20), complex(4097, 1), complex(4097, -0x1p-20), complex(16785410, 4097-0x1p-8), complex(16785410, 4097-0x1p-8)},
	} {
		checkStep(t, impl.NewSource(c.turn, c.state), c.z, impl.NewSource(c.turn, c.next), c.state)
		mixer := impl.Module{Kind: 2, Turn: c.turn, State: c.state}
		next := impl.Module{Kind: 2, Turn: c.turn, State: c.next}
		checkStep(t, mixer, c.z, next, c.mixed)
	}
	// A source does not hear its input.
	for _, z := range samplesOfAllSorts() {
		checkStep(t, impl.NewSource(1i, 2), z, impl.NewSource(1i, 2i), 2)
	}
}

func TestP10StepsOfGains(t *testing.T) {
	inf, nan, zero, least, normal := infinity(1), notANumber(), minusZero(), float32(0x1p-149), float32(0x1p-126)
	for _, c := range []struct {
		level  float32
		z, out complex64
	}{
		{2, 1.5 - 3i, 3 - 6i}, {-1, 2 - 1i, -2 + 1i}, {1, complex(zero, 0), complex(zero, 0)}, {0, -1 + 1i, complex(zero, 0)}, {zero, -1 + 1i, complex(0, zero)}, {-1, 0, complex(zero, zero)},
		{1, complex(least, -least), complex(0, zero)}, {-1, complex(least, -least), complex(zero, 0)}, {least, 1 - 1i, complex(0, zero)}, {-least, 1 - 1i, complex(zero, 0)},
		{least, complex(0x1p23, -0x1p23), complex(normal, -normal)}, {least, complex(0x1.fffffcp22, -0x1.fffffcp22), complex(0, zero)}, {0.5, complex(normal, -2*normal), complex(0, -normal)}, {-0.5, complex(normal, normal+least), complex(zero, zero)},
		{-normal, complex(1, -0x1.fffffcp-1), complex(-normal, 0)}, {normal, complex(0x1.fffffcp-1, 1), complex(0, normal)},
		// The product is rounded before it is flushed: it becomes the least number that is not subnormal.
		{least, complex(0x1.fffffep22, -0x1.fffffep22), complex(normal, -normal)}, {0x1.fffffep-1, complex(0x1p-126, 0x1.fffffcp-127), complex(normal, 0)}, {0x1.fffffep-64, complex(0x1p-63, -0x1.fffffcp-64), complex(normal, zero)},
		{least, complex(least, -least), complex(0, zero)}, {least, complex(0.5, -0.5), complex(0, zero)}, {greatest, complex(least, 1), complex(greatest*least, greatest)},
		{inf, 1 - 1i, complex(inf, -inf)}, {-inf, complex(1, inf), complex(-inf, -inf)}, {inf, complex(0, least), complex(nan, inf)}, {-inf, complex(zero, -least), complex(nan, inf)}, {inf, complex(nan, 2), complex(nan, inf)},
		{nan, 1, complex(nan, nan)}, {nan, complex(zero, inf), complex(nan, nan)}, {0, complex(inf, -2), complex(nan, zero)}, {0, complex(2, nan), complex(0, nan)}, {2, complex(greatest, -greatest), complex(inf, -inf)}, {1, complex(nan, inf), complex(nan, inf)},
		{3, complex(0.1, 16777215), complex(float32(0.1)*float32(3), 50331644)},
	} {
		checkStep(t, impl.NewGain(c.level), c.z, impl.NewGain(c.level), c.out)
	}
}

func TestP10StepsOfGainsByAnyNumbers(t *testing.T) {
	flushed := 0
	parts := someParts(t)
	for _, level := range append(parts, allLevels()...) {
		for i, x := range parts {
			z := complex(x, parts[(i*5+2)%len(parts)])
			want, out := stepped(impl.NewGain(level), z)
			checkStep(t, impl.NewGain(level), z, want, out)
			if plain := float64(x) * float64(level); real(out) == 0 && math.Abs(plain) > 0x1p-149 {
				flushed++
			}
		}
	}
	if flushed < 20 {
		t.Errorf("only %d products are flushed", flushed)
	}
}

func TestP10StepsOfDelays(t *testing.T) {
	for n := 1; n <= 16; n++ {
		for at := range n {
			items := someSamples(n)
			m := delayOf(at, items...)
			for i := range 3 * n {
				z := sampleAt(i)
				items = append(items, z)
				want := delayOf((at+i+1)%n, items[i+1:]...)
				if m = checkStep(t, m, z, want, items[i]); m.Ring.At != (at+i+1)%n || m.Ring.Count != n {
					t.Fatalf("a delay of %d has At %d and Count %d after %d steps", n, m.Ring.At, m.Ring.Count, i+1)
				}
			}
		}
	}
}

// TestP5DelaysDelay steps new delays: first there are as many samples of 0 as there are places, and then what was put in.
func TestP5DelaysDelay(t *testing.T) {
	for n := 1; n <= 16; n++ {
		m, ok := impl.NewDelay(n)
		if !ok {
			t.Fatalf("NewDelay(%d) fails", n)
		}
		list := append(make([]complex64, n), samplesOfAllSorts()...)
		for i, z := range samplesOfAllSorts() {
			r, out, ok := impl.StepModule(m, z)
			if !ok || !samePoint(out, list[i]) {
				t.Fatalf("a delay by %d has the output %g, %v in step %d", n, out, ok, i)
			}
			m = r
		}
	}
}

func TestP10StepsOfSums(t *testing.T) {
	for _, z := range samplesOfAllSorts() {
		checkStep(t, impl.NewSum(), z, impl.NewSum(), z)
	}
}

func TestP10StepsOfSlicers(t *testing.T) {
	inf, nan, zero := infinity(1), notANumber(), minusZero()
	type table = impl.Table
	labelled := table{Points: []complex64{complex(zero, zero), 2, -2, 2i}, Labels: []int{math.MinInt, -1, 0, math.MaxInt}}
	far := table{Points: []complex64{complex(greatest, 0), complex(-greatest, 0), 1}, Labels: []int{4, 5, 6}}
	for _, c := range []struct {
		table table
		z     complex64
		out   complex64
		label int
	}{
		{labelled, 0, complex(zero, zero), math.MinInt}, {labelled, 3, 2, -1}, {labelled, -3 + 1i, -2, 0}, {labelled, 0.5 + 9i, 2i, math.MaxInt},
		// The first one of those that are equally near.
		{labelled, 1, complex(zero, zero), math.MinInt}, {labelled, 2 + 2i, 2, -1}, {labelled, -2 + 2i, -2, 0}, {labelled, 0x1p-149, complex(zero, zero), math.MinInt},
		{table{Points: []complex64{3, 1}, Labels: []int{8, 9}}, 2, 3, 8}, {table{Points: []complex64{1, 3}, Labels: []int{8, 9}}, 2, 1, 8}, {table{Points: []complex64{0x1p-149, 0}, Labels: []int{8, 9}}, 0, 0x1p-149, 8},
		// Infinite distances are numbers, NaN is none.
		{labelled, complex(inf, 0), complex(zero, zero), math.MinInt}, {labelled, complex(-inf, inf), complex(zero, zero), math.MinInt}, {labelled, 1e30, complex(zero, zero), math.MinInt},
		{far, 0, 1, 6}, {far, 1e30, complex(greatest, 0), 4}, {far, complex(-greatest, 0), complex(-greatest, 0), 5}, {far, complex(0, 1e25), complex(greatest, 0), 4},
		{labelled, complex(nan, 0), 0, -1}, {labelled, complex(0, nan), 0, -1}, {labelled, complex(nan, inf), 0, -1}, {far, complex(inf, nan), 0, -1},
		{table{}, 0, 0, -1}, {table{}, 1 - 1i, 0, -1}, {table{}, complex(nan, zero), 0, -1}, {table{}, complex(inf, zero), 0, -1}, {table{Points: []complex64{5i}, Labels: []int{0}}, 100, 5i, 0},
	} {
		for _, count := range allCounts() {
			before := impl.Module{Kind: 6, Table: c.table, Count: count}
			after := impl.Module{Kind: 6, Table: c.table, Count: c.label}
			checkStep(t, before, c.z, after, c.out)
		}
	}
}

func TestP10StepsOfMeters(t *testing.T) {
	inf, nan, zero, least := infinity(1), notANumber(), minusZero(), float32(0x1p-149)
	for _, c := range []struct {
		level float32
		z     complex64
		next  float32
	}{
		{0, 3 - 2i, 3}, {0, -3 + 2i, 3}, {0, 2 - 3i, 3}, {0, -2 - 3i, 3}, {0, 3 + 3i, 3}, {2.5, 3 - 2i, 3}, {2.5, 2 - 3i, 3}, {2.5, 2 + 2.5i, 2.5}, {3, -3 - 3i, 3}, {5, 3 - 4i, 5}, {1, -2 - 1.5i, 2}, {1, 1.5 - 2i, 2},
		{0, 0, 0}, {0, complex(zero, zero), 0}, {1, complex(zero, 0), 1}, {0, complex(nan, nan), 0}, {0, complex(nan, -2), 2}, {0, complex(-2, nan), 2}, {3, complex(nan, -2), 3}, {3, complex(nan, 4), 4}, {3, complex(-4, nan), 4}, {3, complex(nan, nan), 3},
		{0, complex(-inf, 1), inf}, {2, complex(3, -inf), inf}, {inf, complex(inf, -inf), inf}, {inf, complex(nan, 1), inf}, {inf, 5, inf}, {greatest, complex(nan, inf), inf}, {0, complex(nan, -inf), inf},
		// Levels are not flushed.
		{0, complex(-least, 0), least}, {0, complex(0, least), least}, {least, complex(zero, -2*least), 2 * least}, {2 * least, complex(least, -least), 2 * least}, {0, complex(greatest, -greatest), greatest},
	} {
		checkStep(t, impl.Module{Kind: 7, Level: c.level}, c.z, impl.Module{Kind: 7, Level: c.next}, c.z)
	}
}

func TestP10StepsOfMetersByAnyNumbers(t *testing.T) {
	for _, level := range goodSizes() {
		for _, x := range allLevels() {
			for _, y := range allLevels() {
				m, z := impl.Module{Kind: 7, Level: level}, complex(x, y)
				want, out := stepped(m, z)
				checkStep(t, m, z, want, out)
			}
		}
	}
}

func TestP10StepsOfHolds(t *testing.T) {
	type module = impl.Module
	state := complex(minusZero(), notANumber())
	for count := 1; count <= 100; count++ {
		for _, z := range []complex64{0, 5 - 1i, complex(infinity(-1), minusZero())} {
			checkStep(t, module{Kind: 8, State: state, Count: count}, z, module{Kind: 8, State: z, Count: count, Left: count - 1}, z)
			for left := 1; left < count; left++ {
				checkStep(t, module{Kind: 8, State: state, Count: count, Left: left}, z, module{Kind: 8, State: state, Count: count, Left: left - 1}, state)
			}
		}
	}
}

// TestP5HoldsHold steps new holds: each sample that they take is held as often as they count.
func TestP5HoldsHold(t *testing.T) {
	for _, n := range []int{1, 2, 3, 7, 99, 100} {
		m, ok := impl.NewHold(n)
		for i := range 350 {
			r, out, fine := impl.StepModule(m, sampleAt(i))
			if !ok || !fine || !samePoint(out, sampleAt(i-i%n)) || r.Left != n-1-i%n {
				t.Fatalf("a hold of %d has the output %g, %v in step %d, and becomes %v", n, out, fine, i, r)
			}
			m = r
		}
	}
}

// TestP5StepsKeepModulesValid steps, resets and controls modules of all kinds by samples of all sorts, many times.
func TestP5StepsKeepModulesValid(t *testing.T) {
	choice := rand.New(rand.NewPCG(5, 6))
	samples := slices.Concat(samplesOfAllSorts(), notFinitePoints(), someSamples(30))
	for _, m := range plainModules() {
		for i := range 300 {
			z := samples[choice.IntN(len(samples))]
			want, out := stepped(m, z)
			m = checkStep(t, m, z, want, out)
			if r, ok := impl.ResetModule(m); ok && i%40 == 39 {
				m = r
			}
			if r, ok := impl.ControlModule(m, z); ok && i%25 == 24 {
				m = r
			}
			if !impl.IsModule(m) || !validModule(m) {
				t.Fatalf("%v is not valid after %d steps", m, i)
			}
		}
	}
}
