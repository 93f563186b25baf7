package tests

import (
	"math"
	"math/rand/v2"
	"slices"
	"testing"

	"loop.example/g03223/impl"
)

// The kinds of faults, as the document numbers them.
const (
	mute  = 1
	stick = 2
	flush = 3
)

// flushedPart keeps NaN, of which nothing is less.
func flushedPart(x float32) float32 {
	if math.Abs(float64(x)) < 0x1p-126 {
		return float32(math.Copysign(0, float64(x)))
	}
	return x
}

func flushedSample(z complex64) complex64 {
	return complex(flushedPart(real(z)), flushedPart(imag(z)))
}

// faultyOutputs tell what outputs become in a step, where last is what they became in the step before.
func faultyOutputs(list []impl.Fault, step int, last []complex64) func(i int, z complex64) complex64 {
	return func(i int, z complex64) complex64 {
		for _, f := range list {
			if f.Module != i || step < f.From || step >= f.To {
				continue
			}
			switch f.Kind {
			case mute:
				z = 0
			case stick:
				z = last[i]
			case flush:
				z = flushedSample(z)
			}
		}
		return z
	}
}

// faultyRun is what RunFaults should return, for arguments that are valid.
func faultyRun(r impl.Rack, p impl.Plug, input []complex64, list []impl.Fault, n int) (impl.Rack, []complex64) {
	heard, last := []complex64{}, make([]complex64, len(r.Modules))
	for step := range n {
		sample := complex64(0)
		if step < len(input) {
			sample = input[step]
		}
		r, last = alteredStep(r, p.In, sample, faultyOutputs(list, step, last))
		heard = append(heard, last[p.Out])
	}
	return r, heard
}

// firstOther is the first index of a sample that is not the same, or the number of samples.
func firstOther(a []complex64, b []complex64) int {
	for i := range a {
		if !samePoint(a[i], b[i]) {
			return i
		}
	}
	return len(a)
}

// firstFrom is the first step of n in which there is a fault, or n.
func firstFrom(list []impl.Fault, n int) int {
	first := n
	for _, f := range list {
		if f.From < f.To {
			first = min(first, f.From)
		}
	}
	return first
}

func checkFaults(t *testing.T, r impl.Rack, p impl.Plug, input []complex64, list []impl.Fault, n int) []complex64 {
	t.Helper()
	want, wantHeard := faultyRun(r, p, input, list, n)
	got, heard, ok := impl.RunFaults(r, p, input, list, n)
	if !ok || !sameRack(got, want) || !sameSamples(heard, wantHeard) || !impl.IsRack(got) {
		t.Fatalf("RunFaults(%v, %v, %g, %v, %d) = %v, %g, %v; not %v, %g", r, p, input, list, n, got, heard, ok, want, wantHeard)
	}
	_, sound := ranRack(r, p, input, n)
	if i, ok := impl.FirstFault(r, p, input, list, n); !ok || i != firstOther(heard, sound) {
		t.Fatalf("FirstFault(%v, %v, %g, %v, %d) = %d, %v; not %d", r, p, input, list, n, i, ok, firstOther(heard, sound))
	}
	checkBeforeFaults(t, r, p, input, list, n)
	return heard
}

// checkBeforeFaults runs a rack up to the first fault, with faults and without.
func checkBeforeFaults(t *testing.T, r impl.Rack, p impl.Plug, input []complex64, list []impl.Fault, n int) {
	t.Helper()
	first := firstFrom(list, n)
	got, heard, ok := impl.RunFaults(r, p, input, list, first)
	want, sound, okToo := impl.RunRack(r, p, input, first)
	if !ok || !okToo || !sameRack(got, want) || !sameSamples(heard, sound) {
		t.Fatalf("RunFaults(%v, %v, %g, %v, %d) = %v, %g, %v; without faults %v, %g", r, p, input, list, first, got, heard, ok, want, sound)
	}
	_, whole, ok := impl.RunFaults(r, p, input, list, n)
	if i, fine := impl.FirstFault(r, p, input, list, n); !ok || !fine || i < first || !sameSamples(whole[:first], sound) {
		t.Fatalf("the faults %v in %v make a difference in step %d, before they begin: %g, and without them %g", list, r, i, whole, sound)
	}
}

// faultsOf makes faults of the numbers Kind, Module, From and To of each.
func faultsOf(numbers ...int) []impl.Fault {
	list := []impl.Fault{}
	for f := range slices.Chunk(numbers, 4) {
		list = append(list, impl.Fault{Kind: f[0], Module: f[1], From: f[2], To: f[3]})
	}
	return list
}

// checkFaulty runs r for as many steps as there are outputs in want.
func checkFaulty(t *testing.T, r impl.Rack, p impl.Plug, input []complex64, list []impl.Fault, want ...complex64) {
	t.Helper()
	if heard := checkFaults(t, r, p, input, list, len(want)); !sameSamples(heard, want) {
		t.Fatalf("RunFaults(%v, %v, %g, %v) has the outputs %g, not %g", r, p, input, list, heard, want)
	}
}

// TestP11FaultsOfOneModule has modules that are listened to, and are stepped as without the fault.
func TestP11FaultsOfOneModule(t *testing.T) {
	type modules = []impl.Module
	doubling := modulesRack(modules{impl.NewSource(2, 1)})
	turning := modulesRack(modules{{Kind: 2, Turn: 1i, State: 1}, giving(1)}, 1, 0)
	ones, in0, out0 := samples(1, 2, 3, 4, 5, 6), impl.Plug{}, impl.Plug{In: -1}
	for _, c := range []struct {
		r     impl.Rack
		p     impl.Plug
		input []complex64
		list  []impl.Fault
		want  []complex64
	}{
		{doubling, out0, nil, nil, samples(1, 2, 4, 8, 16)}, {doubling, out0, nil, faultsOf(mute, 0, 1, 3), samples(1, 0, 0, 8, 16)}, {doubling, out0, nil, faultsOf(mute, 0, 0, 1), samples(0, 2, 4)}, {doubling, out0, nil, faultsOf(mute, 0, 0, 500), samples(0, 0, 0, 0)}, {doubling, out0, nil, faultsOf(mute, 0, 4, 500), samples(1, 2, 4, 8, 0)},
		// It sticks at what it became in the step before, or at 0.
		{doubling, out0, nil, faultsOf(stick, 0, 2, 4), samples(1, 2, 2, 2, 16)}, {doubling, out0, nil, faultsOf(stick, 0, 2, 3), samples(1, 2, 2, 8)}, {doubling, out0, nil, faultsOf(stick, 0, 0, 2), samples(0, 0, 4, 8)}, {doubling, out0, nil, faultsOf(stick, 0, 0, 1), samples(0, 2, 4)}, {doubling, out0, nil, faultsOf(stick, 0, 0, 500), samples(0, 0, 0, 0)}, {doubling, out0, nil, faultsOf(stick, 0, 1, 500), samples(1, 1, 1, 1)}, {doubling, out0, nil, faultsOf(stick, 0, 1, 2, stick, 0, 3, 5), samples(1, 1, 4, 4, 4, 32)},
		// Nothing is flushed here.
		{doubling, out0, nil, faultsOf(flush, 0, 0, 500), samples(1, 2, 4, 8, 16)}, {turning, out0, nil, faultsOf(flush, 0, 0, 500), samples(1, 1i, -1, -1i)},
		{turning, out0, nil, faultsOf(mute, 0, 1, 3), samples(1, 0, 0, -1i, 1)}, {turning, out0, nil, faultsOf(stick, 0, 1, 3), samples(1, 1, 1, -1i, 1)}, {turning, out0, nil, faultsOf(stick, 0, 2, 4), samples(1, 1i, 1i, 1i, 1)}, {turning, out0, nil, faultsOf(mute, 1, 1, 3), samples(1, 0, complex(minusZero(), 0), -1i, 1)},
		{modulesRack(modules{impl.NewGain(2)}), in0, ones, faultsOf(mute, 0, 1, 3), samples(2, 0, 0, 8)}, {modulesRack(modules{impl.NewGain(2)}), in0, ones, faultsOf(stick, 0, 1, 3), samples(2, 2, 2, 8)}, {modulesRack(modules{impl.NewSum()}), in0, ones, faultsOf(mute, 0, 1, 3), samples(1, 0, 0, 4)}, {modulesRack(modules{impl.NewSum()}), in0, ones, faultsOf(stick, 0, 1, 3), samples(1, 1, 1, 4)},
		{modulesRack(modules{delayOf(0, 7, 8)}), in0, ones, faultsOf(mute, 0, 1, 3), samples(7, 0, 0, 2, 3)}, {modulesRack(modules{delayOf(0, 7, 8)}), in0, ones, faultsOf(stick, 0, 1, 3), samples(7, 7, 7, 2, 3)}, {modulesRack(modules{delayOf(0, 7, 8)}), in0, ones, faultsOf(stick, 0, 0, 1), samples(0, 8, 1, 2)},
		{modulesRack(modules{slicerOf(0, 1, 3, 5)}), in0, ones, faultsOf(mute, 0, 1, 3), samples(1, 0, 0, 3, 5, 5)}, {modulesRack(modules{slicerOf(0, 1, 3, 5)}), in0, ones, faultsOf(stick, 0, 3, 5), samples(1, 1, 3, 3, 3, 5)}, {modulesRack(modules{impl.NewMeter()}), in0, ones, faultsOf(mute, 0, 1, 3), samples(1, 0, 0, 4)}, {modulesRack(modules{impl.NewMeter()}), in0, ones, faultsOf(stick, 0, 1, 3), samples(1, 1, 1, 4)},
		{modulesRack(modules{{Kind: 8, Count: 2}}), in0, ones, faultsOf(mute, 0, 1, 3), samples(1, 0, 0, 3, 5, 5)}, {modulesRack(modules{{Kind: 8, Count: 2}}), in0, ones, faultsOf(stick, 0, 2, 3), samples(1, 1, 1, 3, 5)}, {modulesRack(modules{{Kind: 8, Count: 2}}), in0, ones, faultsOf(stick, 0, 2, 5), samples(1, 1, 1, 1, 1, 5)},
		// Faults that are not at this module, and in no step.
		{turning, impl.Plug{In: -1, Out: 1}, nil, faultsOf(mute, 0, 0, 9, stick, 0, 2, 7), samples(1, 1, 1, 1)}, {doubling, out0, nil, faultsOf(mute, 0, 1, 1, stick, 0, 2, 2, mute, 0, 0, 0, mute, 0, 500, 500, stick, 0, 500, 500), samples(1, 2, 4, 8)}, {doubling, out0, nil, faultsOf(mute, 0, 4, 9, mute, 0, 5, 9, mute, 0, 499, 500), samples(1, 2, 4, 8)},
	} {
		checkFaulty(t, c.r, c.p, c.input, c.list, c.want...)
	}
}

// TestP11FaultsOfWhatCablesGet has modules behind a fault, and loops.
func TestP11FaultsOfWhatCablesGet(t *testing.T) {
	type modules = []impl.Module
	sum, source := impl.NewSum(), impl.NewSource(2, 1)
	for _, c := range []struct {
		r       impl.Rack
		in, out int
		input   []complex64
		list    []impl.Fault
		want    []complex64
	}{
		{modulesRack(modules{source, impl.NewGain(3)}, 0, 1), -1, 1, nil, faultsOf(mute, 0, 1, 3), samples(3, 0, 0, 24)}, {modulesRack(modules{impl.NewGain(3), source}, 1, 0), -1, 0, nil, faultsOf(stick, 1, 1, 3), samples(3, 3, 3, 24)}, {modulesRack(modules{source, sum, sum}, 0, 1, 0, 1, 1, 2, 0, 2), -1, 2, nil, faultsOf(stick, 0, 1, 2), samples(3, 3, 12)}, {modulesRack(modules{source, sum, sum}, 0, 1, 0, 1, 1, 2, 0, 2), -1, 2, nil, faultsOf(mute, 1, 1, 2), samples(3, 2, 12)},
		// What is added to the input of a module is no output, and stays; nor does a fault reach what comes from other modules.
		{modulesRack(modules{source, sum}, 0, 1), 1, 1, samples(10, 20, 30, 40), faultsOf(mute, 0, 1, 3), samples(11, 20, 30, 48)}, {modulesRack(modules{source, sum}, 0, 1), 0, 1, samples(10, 20, 30), faultsOf(mute, 0, 1, 2), samples(1, 0, 4)}, {modulesRack(modules{source, giving(1i), sum}, 0, 2, 1, 2), -1, 2, nil, faultsOf(mute, 0, 1, 2, stick, 0, 3, 4), samples(1+1i, 1i, 4+1i, 4+1i)},
		// A delay behind a fault gives later what it gets.
		{modulesRack(modules{source, delayOf(0, 7, 8)}, 0, 1), -1, 1, nil, faultsOf(mute, 0, 1, 3), samples(7, 8, 1, 0, 0, 8)}, {modulesRack(modules{source, {Kind: 8, Count: 2}}, 0, 1), -1, 1, nil, faultsOf(mute, 0, 2, 3), samples(1, 1, 0, 0, 16, 16)}, {modulesRack(modules{source, slicerOf(0, 1, 5)}, 0, 1), -1, 1, nil, faultsOf(mute, 0, 3, 4), samples(1, 1, 5, 1, 5)},
		// A delay whose listeners come before it, and behind it.
		{modulesRack(modules{sum, delayOf(0, 1, 2, 3)}, 1, 0), -1, 0, nil, faultsOf(mute, 1, 1, 2), samples(1, 0, 3, 0)}, {modulesRack(modules{sum, delayOf(0, 1, 2, 3)}, 1, 0), -1, 0, nil, faultsOf(stick, 1, 1, 2), samples(1, 1, 3, 0)}, {modulesRack(modules{delayOf(0, 1, 2, 3), sum}, 0, 1), -1, 1, nil, faultsOf(stick, 0, 1, 3), samples(1, 1, 1, 0)}, {modulesRack(modules{sum, delayOf(0, 1, 2, 3)}, 1, 0), -1, 0, nil, faultsOf(stick, 1, 0, 2), samples(0, 0, 3, 0)},
		{modulesRack(modules{sum, delayOf(0, 1, 2, 3), sum, giving(1i)}, 1, 0, 3, 2, 2, 1), -1, 0, nil, faultsOf(mute, 1, 2, 4), samples(1, 2, 0, 0, 1i)}, {modulesRack(modules{sum, delayOf(0, 1, 2, 3), sum}, 1, 0, 1, 2), -1, 2, nil, faultsOf(mute, 1, 0, 1), samples(0, 2, 3, 0)},
		// Within a loop, what a delay gives comes back to it.
		{modulesRack(modules{delayOf(0, 1, 2, 3)}, 0, 0), -1, 0, nil, faultsOf(mute, 0, 1, 2), samples(1, 0, 3, 1, 0, 3)}, {modulesRack(modules{delayOf(0, 1, 2, 3)}, 0, 0), -1, 0, nil, faultsOf(stick, 0, 1, 2), samples(1, 1, 3, 1, 1, 3)}, {modulesRack(modules{delayOf(0, 1, 2, 3)}, 0, 0), -1, 0, nil, faultsOf(stick, 0, 0, 1), samples(0, 2, 3, 0, 2)}, {modulesRack(modules{delayOf(0, 1, 2, 3)}, 0, 0), 0, 0, samples(10, 20, 30), faultsOf(stick, 0, 2, 3), samples(1, 2, 2, 11, 22, 32)},
		{modulesRack(modules{sum, delayOf(0, 1, 2)}, 1, 0, 0, 1), -1, 0, nil, faultsOf(mute, 1, 1, 2), samples(1, 0, 1, 0)}, {modulesRack(modules{sum, delayOf(0, 1, 2)}, 1, 0, 0, 1), -1, 1, nil, faultsOf(mute, 0, 1, 2), samples(1, 2, 1, 0, 1, 0)}, {modulesRack(modules{delayOf(0, 1), delayOf(0, 5)}, 0, 1, 1, 0), -1, 0, nil, faultsOf(mute, 1, 1, 2), samples(1, 5, 0, 5, 0)}, {modulesRack(modules{delayOf(0, 1), delayOf(0, 5)}, 0, 1, 1, 0), -1, 1, nil, faultsOf(stick, 0, 1, 2), samples(5, 1, 1, 1)}, {modulesRack(modules{delayOf(0, 1), delayOf(0, 5)}, 0, 1, 1, 0), -1, 1, nil, faultsOf(stick, 1, 1, 2), samples(5, 5, 5, 5)},
	} {
		checkFaulty(t, c.r, impl.Plug{In: c.in, Out: c.out}, c.input, c.list, c.want...)
	}
}

// TestP11SeveralFaultsOfOneOutput has them one after the other in the list, whatever their kinds and their steps.
func TestP11SeveralFaultsOfOneOutput(t *testing.T) {
	least, zero := float32(0x1p-149), minusZero()
	small := complex(least, -least)
	doubling, out0 := modulesRack([]impl.Module{impl.NewSource(2, 1)}), impl.Plug{In: -1}
	subnormal := modulesRack([]impl.Module{{Kind: 4, Ring: ringOf(4, 0, 1i, small, 2*small, 3)}})
	for _, c := range []struct {
		r    impl.Rack
		list []impl.Fault
		want []complex64
	}{
		{doubling, faultsOf(mute, 0, 1, 2, stick, 0, 1, 2), samples(1, 1, 4)}, {doubling, faultsOf(stick, 0, 1, 2, mute, 0, 1, 2), samples(1, 0, 4)}, {doubling, faultsOf(mute, 0, 1, 2, stick, 0, 1, 3), samples(1, 1, 1, 8)}, {doubling, faultsOf(stick, 0, 1, 3, mute, 0, 1, 2), samples(1, 0, 0, 8)}, {doubling, faultsOf(stick, 0, 1, 4, mute, 0, 2, 3), samples(1, 1, 0, 0, 16)}, {doubling, faultsOf(mute, 0, 2, 3, stick, 0, 1, 4), samples(1, 1, 1, 1, 16)},
		// It sticks at what another fault made of the output in the step before.
		{doubling, faultsOf(mute, 0, 1, 2, stick, 0, 2, 4), samples(1, 0, 0, 0, 16)}, {doubling, faultsOf(stick, 0, 2, 4, mute, 0, 1, 2), samples(1, 0, 0, 0, 16)}, {doubling, faultsOf(stick, 0, 1, 2, stick, 0, 2, 3), samples(1, 1, 1, 8)}, {doubling, faultsOf(stick, 0, 1, 3, stick, 0, 2, 4, stick, 0, 1, 3), samples(1, 1, 1, 1, 16)}, {doubling, faultsOf(mute, 0, 0, 1, stick, 0, 1, 2), samples(0, 0, 4)},
		{subnormal, nil, samples(1i, small, 2*small, 3, 0)}, {subnormal, faultsOf(flush, 0, 1, 2), samples(1i, complex(0, zero), 2*small, 3)}, {subnormal, faultsOf(flush, 0, 0, 500), samples(1i, complex(0, zero), complex(0, zero), 3, 0)}, {subnormal, faultsOf(flush, 0, 1, 2, stick, 0, 2, 4), samples(1i, complex(0, zero), complex(0, zero), complex(0, zero), 0)}, {subnormal, faultsOf(stick, 0, 2, 3), samples(1i, small, small, 3)},
		{subnormal, faultsOf(stick, 0, 2, 3, flush, 0, 2, 3), samples(1i, small, complex(0, zero), 3)}, {subnormal, faultsOf(flush, 0, 2, 3, stick, 0, 2, 3), samples(1i, small, small, 3)}, {subnormal, faultsOf(flush, 0, 2, 3, stick, 0, 2, 4), samples(1i, small, small, small, 0)}, {subnormal, faultsOf(stick, 0, 2, 4, flush, 0, 3, 4), samples(1i, small, small, complex(0, zero), 0)}, {subnormal, faultsOf(flush, 0, 1, 4, stick, 0, 2, 3), samples(1i, complex(0, zero), complex(0, zero), 3)},
		{subnormal, faultsOf(flush, 0, 1, 2, mute, 0, 1, 2), samples(1i, 0, 2*small)}, {subnormal, faultsOf(mute, 0, 1, 2, flush, 0, 1, 2), samples(1i, 0, 2*small)}, {subnormal, faultsOf(mute, 0, 1, 2, flush, 0, 1, 3, stick, 0, 2, 3), samples(1i, 0, 0, 3)}, {subnormal, faultsOf(flush, 0, 1, 3, stick, 0, 2, 3, mute, 0, 1, 3), samples(1i, 0, 0, 3)}, {subnormal, faultsOf(stick, 0, 1, 2, flush, 0, 1, 2, flush, 0, 1, 2), samples(1i, 1i, 2*small)},
	} {
		checkFaulty(t, c.r, out0, nil, c.list, c.want...)
		// The same, listened to behind a sum, in which -0 is 0.
		behind, want := withCables(withModules(c.r, impl.NewSum()), 0, 1), []complex64{}
		for _, z := range c.want {
			want = append(want, sumOver(samples(z)))
		}
		checkFaulty(t, behind, impl.Plug{In: -1, Out: 1}, nil, c.list, want...)
	}
}

func TestP10FlushedOutputs(t *testing.T) {
	least, most := float32(0x1p-149), float32(0x1.fffffcp-127)
	parts := []float32{0, minusZero(), least, -least, 2 * least, most, -most, 0x1p-127, -0x1p-127, 0x1p-126, -0x1p-126, 0x1.000002p-126, 1, -1, greatest, -greatest, infinity(1), infinity(-1), notANumber()}
	for _, x := range parts {
		for _, y := range parts {
			z := complex(x, y)
			want := flushedSample(z)
			for _, m := range []impl.Module{giving(z), impl.NewSource(1, z), delayOf(0, z, z, z), {Kind: 8, Count: 100, Left: 3, State: z}} {
				heard := checkFaults(t, modulesRack([]impl.Module{m}), impl.Plug{In: -1}, nil, faultsOf(flush, 0, 0, 1), 2)
				if !samePoint(heard[0], want) {
					t.Fatalf("the output %g of %v is flushed to %g", z, m, heard[0])
				}
				checkFaults(t, modulesRack([]impl.Module{m, impl.NewSum(), impl.NewMeter(), delayOf(0, 5)}, 0, 1, 0, 2, 0, 3), impl.Plug{In: -1, Out: 1}, nil, faultsOf(flush, 0, 1, 3), 4)
			}
			// The output is flushed, and not what comes in.
			r := modulesRack([]impl.Module{giving(z), impl.NewMeter(), impl.NewSum(), delayOf(0, 5)}, 0, 1, 1, 2, 2, 3)
			checkFaults(t, r, impl.Plug{In: 1, Out: 2}, samples(z, 3), faultsOf(flush, 1, 0, 3), 3)
			checkFaults(t, r, impl.Plug{In: -1, Out: 3}, nil, faultsOf(flush, 2, 0, 2), 4)
		}
	}
}

// TestP11RacksUnderFaults tells what modules become: the one with the fault as without it, and those behind as they are fed.
func TestP11RacksUnderFaults(t *testing.T) {
	five := giving(5)
	for i, c := range []struct {
		m      impl.Module
		list   []impl.Fault
		sound  impl.Module
		behind float32
	}{
		{impl.NewMeter(), faultsOf(mute, 1, 0, 2), impl.Module{Kind: 7, Level: 5}, 0}, {impl.NewMeter(), faultsOf(mute, 1, 0, 1), impl.Module{Kind: 7, Level: 5}, 5}, {impl.NewMeter(), faultsOf(mute, 0, 0, 2), impl.Module{Kind: 7}, 0}, {impl.NewMeter(), faultsOf(stick, 1, 0, 2), impl.Module{Kind: 7, Level: 5}, 0}, {impl.NewMeter(), faultsOf(stick, 0, 0, 2), impl.Module{Kind: 7}, 0},
		{impl.Module{Kind: 8, Count: 3}, faultsOf(mute, 1, 0, 2), impl.Module{Kind: 8, Count: 3, Left: 1, State: 5}, 0}, {impl.Module{Kind: 8, Count: 3}, faultsOf(mute, 0, 0, 1), impl.Module{Kind: 8, Count: 3, Left: 1}, 0}, {slicerOf(9, 1, 6), faultsOf(mute, 1, 0, 2), impl.Module{Kind: 6, Table: tableOf(1, 6), Count: tableOf(1, 6).Labels[1]}, 0}, {slicerOf(9, 1, 6), faultsOf(mute, 0, 0, 2), impl.Module{Kind: 6, Table: tableOf(1, 6), Count: tableOf(1, 6).Labels[0]}, 1},
		{impl.NewSource(2, 1), faultsOf(mute, 1, 0, 2), impl.NewSource(2, 4), 0}, {impl.NewSource(2, 1), faultsOf(stick, 1, 1, 2), impl.NewSource(2, 4), 1}, {impl.Module{Kind: 2, Turn: 2, State: 1}, faultsOf(mute, 1, 0, 2), impl.Module{Kind: 2, Turn: 2, State: 4}, 0}, {impl.Module{Kind: 2, Turn: 2, State: 1}, faultsOf(stick, 1, 1, 2), impl.Module{Kind: 2, Turn: 2, State: 4}, 5},
		{delayOf(0, 1, 2, 3), faultsOf(mute, 1, 0, 2), delayOf(2, 3, 5, 5), 0}, {delayOf(0, 1, 2, 3), faultsOf(mute, 0, 0, 2), delayOf(2, 3, 0, 0), 2}, {delayOf(0, 1, 2, 3), faultsOf(stick, 1, 1, 2), delayOf(2, 3, 5, 5), 1}, {impl.NewGain(2), faultsOf(mute, 1, 0, 2), impl.NewGain(2), 0}, {impl.NewSum(), faultsOf(stick, 1, 0, 2), impl.NewSum(), 0},
	} {
		r := modulesRack([]impl.Module{five, c.m, impl.NewMeter()}, 0, 1, 1, 2)
		for out := range 3 {
			checkFaults(t, r, impl.Plug{In: -1, Out: out}, nil, c.list, 2)
		}
		got, _, ok := impl.RunFaults(r, impl.Plug{In: -1, Out: 2}, nil, c.list, 2)
		if !ok || !sameModule(got.Modules[1], c.sound) || !sameModule(got.Modules[2], impl.Module{Kind: 7, Level: c.behind}) {
			t.Errorf("in case %d, with the faults %v, the rack becomes %v", i, c.list, got)
		}
	}
}

func randomFault(choice *rand.Rand, r impl.Rack, n int) impl.Fault {
	from := choice.IntN(choice.IntN(n+2) + 1)
	return impl.Fault{Kind: 1 + choice.IntN(3), Module: choice.IntN(len(r.Modules)), From: from, To: from + choice.IntN(n+2)}
}

// tinyRack has subnormal numbers in what its sources, delays, slicers and holds give.
func tinyRack(r impl.Rack) impl.Rack {
	r = copyOfRack(r)
	for i, m := range r.Modules {
		if m.Kind == 1 || m.Kind == 8 {
			r.Modules[i].State *= 0x1p-127
		}
		for k := range m.Ring.Store {
			m.Ring.Store[k] *= 0x1p-127
		}
		for k := range m.Table.Points {
			m.Table.Points[k] *= 0x1p-127
		}
	}
	return r
}

func TestP11RandomFaults(t *testing.T) {
	choice := rand.New(rand.NewPCG(65, 66))
	all, other, early := 0, 0, 0
	for i, made := range runRacks() {
		for k, n := range []int{1, 2, 5, 12, 30} {
			r, list := made, []impl.Fault{}
			if (i+k)%2 == 0 {
				if r = tinyRack(made); !validRack(r) {
					continue
				}
			}
			for range choice.IntN([]int{2, 5, 21}[choice.IntN(3)]) {
				list = append(list, randomFault(choice, r, n))
			}
			p, input := randomPlug(choice, r), randomInput(choice, choice.IntN(n+8))
			checkFaults(t, r, p, input, list, n)
			first, ok := impl.FirstFault(r, p, input, list, n)
			all++
			if ok && first < n {
				other++
			}
			if ok && first < n && first == firstFrom(list, n) {
				early++
			}
		}
	}
	if other < all/4 || early < all/10 {
		t.Errorf("in %d of %d runs faults make a difference, and in %d as soon as they begin", other, all, early)
	}
}

// TestP11EachFaultAtEachKind listens to the module that has the fault, to the one that feeds it, and to those behind it.
func TestP11EachFaultAtEachKind(t *testing.T) {
	input := samples(0.3-1i, 2, complex(0x1p-149, -0x1p-127), 4, -5i, complex(minusZero(), 0x1p-140), 7, 8)
	for i, letter := range "oxgd+tmh" {
		for _, m := range []impl.Module{calmModule(moduleAt(letter, i), i), moduleAt(letter, i)} {
			plain := modulesRack([]impl.Module{impl.NewSum(), m, impl.NewMeter(), delayOf(0, 1, 2i)}, 0, 1, 1, 2, 2, 3)
			for _, r := range []impl.Rack{plain, withCables(plain, 3, 1), withCables(plain, 3, 0), tinyRack(plain), renumbered(plain, []int{3, 2, 1, 0})} {
				if !validRack(r) {
					t.Fatalf("%v is not valid", r)
				}
				at := slices.IndexFunc(r.Modules, func(other impl.Module) bool { return other.Kind == m.Kind })
				for kind := mute; kind <= flush; kind++ {
					for _, steps := range [][2]int{{0, 1}, {0, 4}, {0, 500}, {2, 3}, {3, 6}, {2, 500}, {7, 8}, {8, 9}, {4, 4}} {
						for out := range 4 {
							checkFaults(t, r, impl.Plug{In: out - 1, Out: out}, input, faultsOf(kind, at, steps[0], steps[1]), 8)
							checkFaults(t, r, impl.Plug{Out: out}, input, faultsOf(kind, at, steps[0], steps[1]), 8)
						}
					}
				}
			}
		}
	}
}

// TestP11FaultsOfAllModules has each module with each kind of fault at it, at what feeds it, and at what it feeds.
func TestP11FaultsOfAllModules(t *testing.T) {
	for _, m := range append(goodModules(), plainModules()...) {
		r := modulesRack([]impl.Module{impl.NewSum(), m, delayOf(0, 0x1p-149, complex(minusZero(), 0x1p-130)), giving(complex(0x1p-140, 2.5))}, 3, 1, 1, 0, 1, 2, 2, 1)
		for kind := mute; kind <= flush; kind++ {
			for module := range 3 {
				checkFaults(t, r, impl.Plug{In: 1, Out: module}, samples(3-4i, complex(0x1p-149, 1)), faultsOf(kind, module, 0, 1, 1+(kind+module)%3, module, 1, 3, kind, 1, 2, 4), 4)
			}
		}
	}
}

func TestP11LongRunsWithFaults(t *testing.T) {
	choice := rand.New(rand.NewPCG(67, 68))
	for i, r := range runRacks() {
		if i%12 == 0 {
			list := []impl.Fault{}
			for range 20 {
				f := randomFault(choice, r, 400)
				f.To = min(f.To, 500)
				list = append(list, f)
			}
			checkFaults(t, r, randomPlug(choice, r), randomInput(choice, 480+choice.IntN(40)), list, 500)
		}
	}
}

// TestP11RunsGoOnBehindFaults runs on without faults, from the rack that a run with faults has left.
func TestP11RunsGoOnBehindFaults(t *testing.T) {
	choice := rand.New(rand.NewPCG(69, 70))
	for _, r := range runRacks() {
		list, end := []impl.Fault{}, 0
		for range 1 + choice.IntN(5) {
			f := randomFault(choice, r, 6)
			list, end = append(list, f), max(end, f.To)
		}
		p, input, n := randomPlug(choice, r), randomInput(choice, choice.IntN(20)), end+5
		whole, heard, ok := impl.RunFaults(r, p, input, list, n)
		left, first, okToo := impl.RunFaults(r, p, input, list, end)
		got, rest, fine := impl.RunRack(left, p, restFrom(input, end), 5)
		if !ok || !okToo || !fine || !sameRack(got, whole) || !sameSamples(append(first, rest...), heard) {
			t.Fatalf("%v, with the faults %v, becomes %v and gives %g; not %v and %g, %g", r, list, whole, heard, got, first, rest)
		}
	}
}
