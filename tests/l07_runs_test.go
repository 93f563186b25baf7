package tests

import (
	"math/rand/v2"
	"slices"
	"testing"

	"loop.example/g03223/impl"
)

func sameSamples(a []complex64, b []complex64) bool { return slices.EqualFunc(a, b, samePoint) }

// sumOver begins with 0 in both parts.
func sumOver(list []complex64) complex64 {
	reals, imags := []float32{}, []float32{}
	for _, z := range list {
		reals, imags = append(reals, real(z)), append(imags, imag(z))
	}
	return complex(forward(reals), forward(imags))
}

// plainStep is a step that is found without an order: whoever needs an output asks for it, and gets what it becomes.
type plainStep struct {
	before  impl.Rack
	in      int
	sample  complex64
	becomes func(i int, z complex64) complex64
	after   []impl.Module
	outputs []complex64
	done    []bool
}

func (s *plainStep) output(i int) complex64 {
	if m := s.before.Modules[i]; m.Kind == 4 {
		return s.becomes(i, m.Ring.Store[m.Ring.At])
	}
	s.take(i)
	return s.becomes(i, s.outputs[i])
}

func (s *plainStep) take(i int) {
	if s.done[i] {
		return
	}
	list := []complex64{}
	if i == s.in {
		list = append(list, s.sample)
	}
	for _, from := range feedsOf(s.before, i) {
		list = append(list, s.output(from))
	}
	s.after[i], s.outputs[i] = stepped(s.before.Modules[i], sumOver(list))
	s.done[i] = true
}

// steppedRack returns a valid rack after a step, and the outputs of all modules.
func steppedRack(r impl.Rack, in int, sample complex64) (impl.Rack, []complex64) {
	return alteredStep(r, in, sample, func(i int, z complex64) complex64 { return z })
}

// alteredStep is steppedRack where outputs become others.
func alteredStep(r impl.Rack, in int, sample complex64, becomes func(i int, z complex64) complex64) (impl.Rack, []complex64) {
	n := len(r.Modules)
	s := plainStep{before: r, in: in, sample: sample, becomes: becomes, after: make([]impl.Module, n), outputs: make([]complex64, n), done: make([]bool, n)}
	outputs := make([]complex64, n)
	for i := range n {
		s.take(i)
		outputs[i] = s.output(i)
	}
	return impl.Rack{Modules: s.after, Cables: r.Cables}, outputs
}

// ranRack is what RunRack should return, for a rack, a plug and a number of steps that are valid.
func ranRack(r impl.Rack, p impl.Plug, input []complex64, n int) (impl.Rack, []complex64) {
	heard := []complex64{}
	for i := range n {
		sample := complex64(0)
		if i < len(input) {
			sample = input[i]
		}
		next, outputs := steppedRack(r, p.In, sample)
		r, heard = next, append(heard, outputs[p.Out])
	}
	return r, heard
}

func checkRun(t *testing.T, r impl.Rack, p impl.Plug, input []complex64, n int) []complex64 {
	t.Helper()
	want, wantHeard := ranRack(r, p, input, n)
	got, heard, ok := impl.RunRack(r, p, input, n)
	if !ok || !sameRack(got, want) || !sameSamples(heard, wantHeard) {
		t.Fatalf("RunRack(%v, %v, %g, %d) = %v, %g, %v; not %v, %g", r, p, input, n, got, heard, ok, want, wantHeard)
	}
	if !impl.IsRack(got) {
		t.Fatalf("RunRack(%v, %v, %g, %d) = %v, which is not valid", r, p, input, n, got)
	}
	return heard
}

// checkHeard runs r for as many steps as there are outputs in want.
func checkHeard(t *testing.T, r impl.Rack, p impl.Plug, input []complex64, want ...complex64) {
	t.Helper()
	if heard := checkRun(t, r, p, input, len(want)); !sameSamples(heard, want) {
		t.Fatalf("RunRack(%v, %v, %g) has the outputs %g, not %g", r, p, input, heard, want)
	}
}

func samples(list ...complex64) []complex64 { return list }

// giving is a module whose output is z for 99 steps, whatever its input is.
func giving(z complex64) impl.Module { return impl.Module{Kind: 8, State: z, Count: 100, Left: 99} }

// sumRack has modules that give these samples, and a sum behind them, with cables from modules to it.
func sumRack(list []complex64, feeds ...int) impl.Rack {
	r := impl.Rack{}
	for _, z := range list {
		r.Modules = append(r.Modules, giving(z))
	}
	r.Modules = append(r.Modules, impl.NewSum())
	for _, i := range feeds {
		r = withCables(r, i, len(list))
	}
	return r
}

// calmModule is of the same kind as m, with numbers that stay finite for long, and whose sums are rounded.
func calmModule(m impl.Module, i int) impl.Module {
	third := complex(float32(i+1)/3, float32(2-i)/7)
	switch m.Kind {
	case 1, 2:
		return impl.Module{Kind: m.Kind, Turn: complex(0.6, float32(i%5)/6), State: third}
	case 3:
		return impl.Module{Kind: 3, Level: float32(i%7)/6 - 0.55}
	case 4:
		list := []complex64{}
		for k := range i%5 + 1 {
			list = append(list, complex(real(third)+float32(k), imag(third)/float32(k+1)))
		}
		return delayOf(i%len(list), list...)
	case 6:
		return slicerOf(i, 0.3, -0.7i, third, complex(imag(third), 0.9), -2-1i)
	case 8:
		return impl.Module{Kind: 8, State: third, Count: i%4 + 1, Left: i % (i%4 + 1)}
	}
	return m
}

func calmRack(r impl.Rack) impl.Rack {
	calm := impl.Rack{Cables: r.Cables}
	for i, m := range r.Modules {
		calm.Modules = append(calm.Modules, calmModule(m, i))
	}
	return calm
}

// runRacks are valid and have modules, most of them calm ones.
func runRacks() []impl.Rack {
	list, choice := []impl.Rack{}, rand.New(rand.NewPCG(19, 20))
	for i, r := range manyRacks() {
		if len(r.Modules) == 0 {
			continue
		}
		list = append(list, calmRack(r))
		if i%3 == 0 {
			list = append(list, r)
		}
	}
	for range 100 {
		list = append(list, calmRack(randomRack(choice, true)))
	}
	return list
}

func randomPlug(choice *rand.Rand, r impl.Rack) impl.Plug {
	n := len(r.Modules)
	return impl.Plug{In: choice.IntN(n+1) - 1, Out: choice.IntN(n)}
}

// randomInput has samples that are rounded in sums, and now and then one of another sort.
func randomInput(choice *rand.Rand, n int) []complex64 {
	list, odd := []complex64{}, samplesOfAllSorts()
	for range n {
		z := complex(choice.Float32()-0.5, 3*choice.Float32())
		if choice.IntN(40) == 0 {
			z = odd[choice.IntN(len(odd))]
		}
		list = append(list, z)
	}
	return list
}

func TestP10ConstantsOfRuns(t *testing.T) {
	if impl.MaxRun != 500 || impl.MaxCuts != 50 {
		t.Error("MaxRun or MaxCuts")
	}
}

func TestP10RunRack(t *testing.T) {
	choice := rand.New(rand.NewPCG(21, 22))
	all, finite := 0, 0
	for _, r := range runRacks() {
		for _, n := range []int{0, 1, 2, 3, 9, 25} {
			input := randomInput(choice, choice.IntN(n+8))
			for _, z := range checkRun(t, r, randomPlug(choice, r), input, n) {
				all++
				if finitePoint(z) && z != 0 {
					finite++
				}
			}
		}
	}
	if finite < all/2 {
		t.Errorf("%d of %d outputs are finite, and not 0", finite, all)
	}
}

// TestP10RunsOfSmallRacks has all plugs of each rack of up to three gains and delays.
func TestP10RunsOfSmallRacks(t *testing.T) {
	input := samples(0.1-3i, 7, complex(minusZero(), 2), 5i)
	for k, r := range smallRacks() {
		if !impl.IsRack(r) {
			continue
		}
		r = calmRack(r)
		for in := -1; in < len(r.Modules); in++ {
			for out := range r.Modules {
				checkRun(t, r, impl.Plug{In: in, Out: out}, input[:(k+in+out+1)%5], 6)
			}
		}
	}
}

func TestP10RunsOfAllModules(t *testing.T) {
	for _, m := range append(goodModules(), plainModules()...) {
		// Not only fed by a sum: with -0 in a part of the sample, the two inputs are not the same.
		r := impl.Rack{Modules: []impl.Module{m, giving(complex(minusZero(), 2.5)), delayOf(0, 1, 2)}, Cables: cablesOf(1, 0, 0, 2)}
		checkRun(t, r, impl.Plug{In: 0, Out: 0}, samples(3-4i, complex(notANumber(), 1)), 3)
		checkRun(t, r, impl.Plug{In: -1, Out: 2}, nil, 4)
	}
}

func TestP10LongRuns(t *testing.T) {
	choice := rand.New(rand.NewPCG(23, 24))
	for i, r := range runRacks() {
		if i%20 == 0 {
			for _, n := range []int{499, 500} {
				checkRun(t, r, randomPlug(choice, r), randomInput(choice, 490+choice.IntN(20)), n)
			}
		}
	}
	turning := impl.Rack{Modules: []impl.Module{impl.NewSource(1i, 1)}}
	heard := checkRun(t, turning, impl.Plug{In: -1}, nil, 500)
	for i, z := range heard {
		if z != []complex64{1, 1i, -1, -1i}[i%4] {
			t.Fatalf("the output of step %d is %g", i, z)
		}
	}
	if len(heard) != 500 {
		t.Errorf("%d outputs in 500 steps", len(heard))
	}
	// A run of no steps changes nothing, and does not ask for input.
	for _, r := range runRacks() {
		got, heard, ok := impl.RunRack(r, impl.Plug{In: 0}, samples(5, 6), 0)
		if !ok || len(heard) != 0 || !sameRack(got, r) {
			t.Fatalf("RunRack(%v) for 0 steps = %v, %g, %v", r, got, heard, ok)
		}
	}
}

func TestP10InputsOfNothing(t *testing.T) {
	zero, plug := minusZero(), impl.Plug{In: -1}
	for _, c := range []struct {
		m    impl.Module
		want []complex64
	}{
		{impl.NewSource(1i, 3), samples(3, 3i, -3)}, {impl.NewMixer(1i), samples(0, 0)}, {impl.Module{Kind: 2, Turn: 1, State: complex(-2, 0)}, samples(complex(zero, 0), complex(zero, 0))},
		{impl.NewGain(2), samples(0, 0)}, {impl.NewGain(-2), samples(complex(zero, zero), complex(zero, zero))}, {impl.NewGain(infinity(1)), samples(complex(notANumber(), notANumber()))},
		{delayOf(1, 5, 6i), samples(5, 6i, 0, 0, 0)}, {impl.NewSum(), samples(0, 0)}, {impl.NewMeter(), samples(0, 0)}, {slicerOf(4, 2, 1i, -5), samples(1i, 1i)}, {slicerOf(4), samples(0, 0)},
		{impl.Module{Kind: 8, State: 7, Count: 3, Left: 2}, samples(7, 7, 0, 0)},
	} {
		checkHeard(t, impl.Rack{Modules: []impl.Module{c.m}}, plug, nil, c.want...)
		// Cables to other modules do not matter, nor does an input that is not added.
		other := impl.Rack{Modules: []impl.Module{c.m, giving(9), impl.NewSum()}, Cables: cablesOf(1, 2, 0, 2)}
		checkHeard(t, other, plug, samples(4, 4, 4), c.want...)
		checkHeard(t, other, impl.Plug{In: 2}, samples(4, 4, 4), c.want...)
	}
}

func TestP10SumsOfCables(t *testing.T) {
	const big = 16777216
	inf, nan, zero, least := infinity(1), notANumber(), minusZero(), float32(0x1p-149)
	for _, c := range []struct {
		list  []complex64
		feeds []int
		want  complex64
	}{
		{samples(5), nil, 0}, {samples(5 - 1i), []int{0}, 5 - 1i}, {samples(5 - 1i), []int{0, 0, 0}, 15 - 3i}, {samples(1, 2i, 4), []int{0, 1, 2}, 5 + 2i}, {samples(1, 2i, 4), []int{2, 0, 2}, 9},
		// The order of the cables counts, not that of the modules.
		{samples(big, 1, 1), []int{0, 1, 2}, big}, {samples(big, 1, 1), []int{1, 2, 0}, big + 2}, {samples(big, 1, 1), []int{1, 0, 2}, big}, {samples(1, 1, big), []int{0, 1, 2}, big + 2}, {samples(1, 1, big), []int{2, 0, 1}, big}, {samples(big, 1), []int{1, 1, 0}, big + 2}, {samples(big, 1), []int{0, 1, 1}, big}, {samples(big, 1), []int{1, 0, 1}, big},
		{samples(big*1i, 1i), []int{1, 1, 0}, (big + 2) * 1i}, {samples(big*1i, 1i), []int{0, 1, 1}, big * 1i}, {samples(complex(big, 1), complex(1, big)), []int{0, 1, 1}, complex(big, 2*big)}, {samples(complex(big, 1), complex(1, big)), []int{1, 1, 0}, complex(big+2, 2*big)},
		{samples(1e30, -1e30, 1), []int{0, 1, 2}, 1}, {samples(1e30, -1e30, 1), []int{0, 2, 1}, 0}, {samples(1e30, -1e30, 1), []int{2, 0, 1}, 0}, {samples(complex(greatest, 0)), []int{0, 0}, complex(inf, 0)},
		{samples(complex(greatest, 0), complex(-greatest, 0)), []int{0, 0, 1}, complex(inf, 0)}, {samples(complex(greatest, 0), complex(-greatest, 0)), []int{0, 1, 0}, complex(greatest, 0)}, {samples(complex(0, greatest), complex(0, -greatest)), []int{1, 1, 0}, complex(0, -inf)},
		// A sum of one element is that element, but for the sign of a 0.
		{samples(complex(zero, zero)), []int{0}, 0}, {samples(complex(zero, 1)), []int{0}, 1i}, {samples(complex(-1, zero)), []int{0}, -1}, {samples(complex(zero, zero)), []int{0, 0}, 0}, {samples(complex(least, -least)), []int{0}, complex(least, -least)},
		{samples(complex(inf, -inf)), []int{0}, complex(inf, -inf)}, {samples(complex(nan, zero)), []int{0}, complex(nan, 0)}, {samples(complex(zero, nan)), []int{0}, complex(0, nan)}, {samples(complex(-greatest, greatest)), []int{0}, complex(-greatest, greatest)},
		{samples(complex(inf, 1), complex(-inf, 1)), []int{0, 1}, complex(nan, 2)}, {samples(complex(1, inf), complex(1, -inf)), []int{0, 1}, complex(2, nan)}, {samples(complex(inf, 1)), []int{0, 0}, complex(inf, 2)}, {samples(complex(nan, 1), 5), []int{0, 1}, complex(nan, 1)}, {samples(complex(nan, 1), 5), []int{1, 0, 1}, complex(nan, 1)},
		// Nothing is flushed.
		{samples(complex(least, least)), []int{0, 0}, complex(2*least, 2*least)}, {samples(complex(0x1p-126, 0), complex(-0x1.fffffcp-127, 0)), []int{0, 1}, complex(least, 0)}, {samples(complex(0, least), complex(0, -least)), []int{0, 1}, 0},
	} {
		r := sumRack(c.list, c.feeds...)
		checkHeard(t, r, impl.Plug{In: -1, Out: len(c.list)}, samples(1, 2, 3), c.want, c.want, c.want)
	}
	heard := checkRun(t, calmRack(crowdedRack()), impl.Plug{In: -1, Out: 4}, nil, 20)
	if !finitePoint(heard[19]) {
		t.Error("the sum over 40 cables is not finite")
	}
}

func TestP10SumsWithAPlug(t *testing.T) {
	const big = 16777216
	inf, nan, zero, least := infinity(1), notANumber(), minusZero(), float32(0x1p-149)
	for _, c := range []struct {
		list   []complex64
		feeds  []int
		sample complex64
		want   complex64
	}{
		// A module without cables.
		{nil, nil, 5 - 2i, 5 - 2i}, {samples(9), nil, 5 - 2i, 5 - 2i}, {nil, nil, complex(zero, zero), 0}, {nil, nil, complex(zero, -3), -3i}, {nil, nil, complex(least, -least), complex(least, -least)}, {nil, nil, complex(inf, nan), complex(inf, nan)}, {nil, nil, complex(nan, zero), complex(nan, 0)}, {nil, nil, complex(zero, -inf), complex(0, -inf)},
		// The sample is the first element, before the cables.
		{samples(1), []int{0, 0}, big, big}, {samples(1, big), []int{0, 1}, 1, big + 2}, {samples(big, -big), []int{0, 1}, 1, 0}, {samples(1, big), []int{1, 0}, 1, big}, {samples(1i), []int{0, 0}, big * 1i, big * 1i}, {samples(-1e30, 1), []int{0, 1}, 1e30, 1}, {samples(-1e30, 1), []int{1, 0}, 1e30, 0},
		{samples(complex(greatest, 0), complex(-greatest, 0)), []int{0, 1}, complex(greatest, 0), complex(inf, 0)}, {samples(complex(-greatest, 0), complex(greatest, 0)), []int{0, 1}, complex(greatest, 0), complex(greatest, 0)},
		{samples(complex(zero, zero)), []int{0}, complex(zero, zero), 0}, {samples(complex(least, 0)), []int{0}, complex(0, least), complex(least, least)}, {samples(complex(inf, 0)), []int{0}, complex(-inf, 3), complex(nan, 3)}, {samples(complex(1, nan)), []int{0}, 2 + 2i, complex(3, nan)}, {samples(1+1i, 4), []int{1, 0, 1}, 2i, 9 + 3i},
	} {
		r, n := sumRack(c.list, c.feeds...), len(c.list)
		plain := sumOver(nil)
		for _, i := range c.feeds {
			plain = sumOver(samples(plain, c.list[i]))
		}
		checkHeard(t, r, impl.Plug{In: n, Out: n}, samples(c.sample, c.sample), c.want, c.want, plain)
		// The same without the plug: the input is not added at all.
		checkHeard(t, r, impl.Plug{In: -1, Out: n}, samples(c.sample, c.sample), plain, plain)
	}
}
