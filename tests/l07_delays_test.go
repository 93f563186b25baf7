package tests

import (
	"math/rand/v2"
	"slices"
	"testing"

	"loop.example/g03223/impl"
)

// modulesRack has these modules, and cables with these ends.
func modulesRack(modules []impl.Module, ends ...int) impl.Rack {
	return impl.Rack{Modules: modules, Cables: cablesOf(ends...)}
}

func TestP10DelaysInRuns(t *testing.T) {
	type modules = []impl.Module
	sum, zero := impl.NewSum(), minusZero()
	for _, c := range []struct {
		r           impl.Rack
		in, out     int
		input, want []complex64
	}{
		// A delay is listened to, and to its input is added.
		{modulesRack(modules{delayOf(0, 1, 2, 3)}), 0, 0, samples(10, 20, 30, 40, 50), samples(1, 2, 3, 10, 20, 30)}, {modulesRack(modules{delayOf(2, 1, 2, 3)}), 0, 0, samples(10, 20, 30, 40), samples(1, 2, 3, 10, 20, 30, 40, 0, 0)},
		{modulesRack(modules{delayOf(0, 1)}), 0, 0, samples(10, 20), samples(1, 10, 20, 0)}, {modulesRack(modules{delayOf(0, 1)}), -1, 0, samples(10, 20), samples(1, 0, 0)}, {modulesRack(modules{delayOf(0, complex(zero, zero))}), 0, 0, samples(complex(zero, zero)), samples(complex(zero, zero), 0)},
		{modulesRack(modules{delayOf(0, complex(notANumber(), zero), 2)}), 0, 0, samples(7), samples(complex(notANumber(), zero), 2, 7)},
		// It feeds a module before it, and one behind it.
		{modulesRack(modules{sum, delayOf(0, 1, 2)}, 1, 0), -1, 0, nil, samples(1, 2, 0)}, {modulesRack(modules{delayOf(0, 1, 2), sum}, 0, 1), -1, 1, nil, samples(1, 2, 0)}, {modulesRack(modules{delayOf(1, 1, 2), sum}, 0, 1), 0, 1, samples(5, 6), samples(1, 2, 5, 6, 0)}, {modulesRack(modules{sum, delayOf(0, complex(zero, 4))}, 1, 0), -1, 0, nil, samples(4i, 0)},
		// What it gets comes from a module behind it, or before it.
		{modulesRack(modules{delayOf(0, 1), sum}, 1, 0), 1, 0, samples(5, 6), samples(1, 5, 6, 0)}, {modulesRack(modules{sum, delayOf(0, 1)}, 0, 1), 0, 1, samples(5, 6), samples(1, 5, 6, 0)},
		{modulesRack(modules{delayOf(0, 1, 2), impl.NewGain(-1), giving(3)}, 2, 1, 1, 0), -1, 0, nil, samples(1, 2, -3, -3)},
		// Around a loop, with the modules in each order.
		{modulesRack(modules{sum, delayOf(0, 1, 2)}, 1, 0, 0, 1), 0, 0, samples(10, 20, 30, 40), samples(11, 22, 41, 62, 41)}, {modulesRack(modules{delayOf(0, 1, 2), sum}, 1, 0, 0, 1), 1, 1, samples(10, 20, 30, 40), samples(11, 22, 41, 62, 41)}, {modulesRack(modules{delayOf(0, 1, 2), sum}, 1, 0, 0, 1), 1, 0, samples(10, 20, 30, 40), samples(1, 2, 11, 22, 41)},
		// From itself.
		{modulesRack(modules{delayOf(0, 1, 2, 3)}, 0, 0), -1, 0, nil, samples(1, 2, 3, 1, 2, 3, 1)}, {modulesRack(modules{delayOf(1, 1, 2, 3)}, 0, 0, 0, 0), -1, 0, nil, samples(1, 2, 3, 2, 4, 6, 4, 8, 12)}, {modulesRack(modules{delayOf(0, 1)}, 0, 0), 0, 0, samples(10, 20), samples(1, 11, 31, 31)}, {modulesRack(modules{delayOf(0, complex(zero, zero))}, 0, 0), -1, 0, nil, samples(complex(zero, zero), 0, 0)},
		// From another delay, with a lesser index or a greater one, and from each other.
		{modulesRack(modules{delayOf(0, 1), delayOf(0, 5)}, 0, 1), 0, 1, samples(10, 20, 30), samples(5, 1, 10, 20, 30, 0)}, {modulesRack(modules{delayOf(0, 1), delayOf(0, 5)}, 1, 0), 1, 0, samples(10, 20, 30), samples(1, 5, 10, 20, 30, 0)}, {modulesRack(modules{delayOf(0, 1), delayOf(0, 5)}, 0, 1, 1, 0), -1, 0, nil, samples(1, 5, 1, 5)}, {modulesRack(modules{delayOf(0, 1), delayOf(0, 5)}, 0, 1, 1, 0), -1, 1, nil, samples(5, 1, 5, 1)},
		{modulesRack(modules{delayOf(0, 1), delayOf(0, 5)}, 0, 1, 1, 0, 1, 1), -1, 1, nil, samples(5, 6, 11, 17, 28)}, {modulesRack(modules{delayOf(0, 1), delayOf(0, 5), sum}, 0, 1, 1, 0, 0, 2, 1, 2, 1, 2), -1, 2, nil, samples(11, 7, 11)}, {modulesRack(modules{sum, delayOf(1, 1, 2), delayOf(0, 5)}, 1, 2, 2, 1, 2, 0, 1, 0, 1, 0), -1, 0, nil, samples(7, 5, 12, 7, 5)},
	} {
		checkHeard(t, c.r, impl.Plug{In: c.in, Out: c.out}, c.input, c.want...)
	}
}

// TestP10RunsFollowTheOrder has modules that are fed by those behind them: what they get is of the same step.
func TestP10RunsFollowTheOrder(t *testing.T) {
	type modules = []impl.Module
	input := samples(5, 6i, 7-1i)
	for _, back := range []bool{false, true} {
		r := modulesRack(slices.Repeat(modules{impl.NewSum()}, 16))
		r.Cables = chainOf(16, back).Cables
		first, last := 0, 15
		if back {
			first, last = 15, 0
		}
		for i := range 16 {
			checkHeard(t, r, impl.Plug{In: first, Out: i}, input, 5, 6i, 7-1i, 0)
			checkHeard(t, r, impl.Plug{In: i, Out: last}, input, 5, 6i, 7-1i, 0)
			checkHeard(t, r, impl.Plug{In: i, Out: i}, input, 5, 6i, 7-1i, 0)
			if i != first {
				checkHeard(t, r, impl.Plug{In: i, Out: first}, input, 0, 0, 0, 0)
			}
		}
	}
	source, meter := impl.NewSource(2, 1), impl.NewMeter()
	for _, c := range []struct {
		r    impl.Rack
		out  int
		want []complex64
	}{
		{modulesRack(modules{impl.NewGain(10), source}, 1, 0), 0, samples(10, 20, 40, 80)}, {modulesRack(modules{meter, impl.NewGain(10), source}, 2, 1, 1, 0), 0, samples(10, 20, 40, 80)}, {modulesRack(modules{impl.NewGain(10), meter, source}, 2, 0, 0, 1), 1, samples(10, 20, 40, 80)},
		{modulesRack(modules{impl.NewMixer(-1), impl.NewGain(10), source}, 2, 1, 2, 0, 1, 0), 0, samples(11, -22, 44, -88)}, {modulesRack(modules{{Kind: 8, Count: 2}, source}, 1, 0), 0, samples(1, 1, 4, 4, 16)}, {modulesRack(modules{slicerOf(0, 3, 9, 30), source}, 1, 0), 0, samples(3, 3, 3, 9, 9, 30)},
		{modulesRack(modules{impl.NewSum(), meter, impl.NewSum(), source}, 3, 2, 2, 0, 2, 1, 1, 0, 3, 0), 0, samples(3, 6, 12)}, {modulesRack(modules{impl.NewSum(), delayOf(0, 100), impl.NewSum(), source}, 3, 2, 2, 0, 2, 1, 1, 0, 3, 0), 0, samples(102, 5, 10)},
	} {
		checkHeard(t, c.r, impl.Plug{In: -1, Out: c.out}, nil, c.want...)
	}
}

// TestP7DelaysDelay sends samples through rows of new delays, with indices that ascend and that descend.
func TestP7DelaysDelay(t *testing.T) {
	choice, input := rand.New(rand.NewPCG(25, 26)), []complex64{}
	for i := range 40 {
		input = append(input, sampleAt(i))
	}
	for _, sizes := range [][]int{{1}, {2}, {16}, {1, 1}, {3, 1, 4}, {16, 16, 16}, {1, 2, 3, 4, 5, 6, 7}, slices.Repeat([]int{1}, 16), slices.Repeat([]int{16}, 16)} {
		order := choice.Perm(len(sizes))
		for _, places := range [][]int{someOrders(len(sizes))[0], someOrders(len(sizes))[1], order} {
			r, all := impl.Rack{Modules: make([]impl.Module, len(sizes))}, 0
			for k, size := range sizes {
				r.Modules[places[k]], _ = impl.NewDelay(size)
				all += size
				if k > 0 {
					r = withCables(r, places[k-1], places[k])
				}
			}
			plug := impl.Plug{In: places[0], Out: places[len(places)-1]}
			_, heard, ok := impl.RunRack(r, plug, input, all+len(input)+3)
			want := make([]complex64, all)
			for _, z := range input {
				want = append(want, sumOver(samples(z)))
			}
			if want = append(want, 0, 0, 0); !ok || !sameSamples(heard, want) {
				t.Fatalf("delays by %d, in the places %d, give %g, %v", sizes, places, heard, ok)
			}
		}
	}
}

// TestP7SumsAddAndDelaysDelayTheSum holds traces of all modules against each other.
func TestP7SumsAddAndDelaysDelayTheSum(t *testing.T) {
	sums, delays := 0, 0
	for _, r := range runRacks() {
		traces, ok := impl.TraceRack(r, 30)
		if !ok || len(traces) != len(r.Modules) {
			t.Fatalf("TraceRack(%v) has %d traces, %v", r, len(traces), ok)
		}
		for i, m := range r.Modules {
			late := 0
			switch m.Kind {
			case 4:
				late = len(m.Ring.Store)
				delays++
			case 5:
				sums++
			default:
				continue
			}
			for k := range 30 - late {
				list := []complex64{}
				for _, from := range feedsOf(r, i) {
					list = append(list, traces[from][k])
				}
				if !samePoint(traces[i][k+late], sumOver(list)) {
					t.Fatalf("the module %d of %v gives %g in step %d, which is not the sum over %g", i, r, traces[i][k+late], k+late, list)
				}
			}
		}
	}
	if sums < 100 || delays < 100 {
		t.Errorf("only %d sums and %d delays", sums, delays)
	}
}

// TestP6NumberingMakesNoDifferenceToRuns runs racks, and the same ones with other numbers.
func TestP6NumberingMakesNoDifferenceToRuns(t *testing.T) {
	choice := rand.New(rand.NewPCG(27, 28))
	for _, r := range runRacks() {
		input, p := randomInput(choice, 10), randomPlug(choice, r)
		after, heard, ok := impl.RunRack(r, p, input, 15)
		for _, order := range someOrders(len(r.Modules)) {
			other := impl.Plug{In: slices.Index(order, p.In), Out: slices.Index(order, p.Out)}
			got, heardToo, okToo := impl.RunRack(renumbered(r, order), other, input, 15)
			if !ok || !okToo || !sameSamples(heard, heardToo) || !sameRack(got, renumbered(after, order)) {
				t.Fatalf("%v with the plug %v gives %g, and in the order %v %g", r, p, heard, order, heardToo)
			}
		}
	}
}
