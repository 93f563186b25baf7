package tests

import (
	"math/rand/v2"
	"slices"
	"testing"

	"loop.example/g03223/impl"
)

// tracesOf is what TraceRack should return, for a valid rack and number of steps.
func tracesOf(r impl.Rack, n int) [][]complex64 {
	traces := make([][]complex64, len(r.Modules))
	for range n {
		next, outputs := steppedRack(r, -1, complex(notANumber(), 5))
		r = next
		for i, z := range outputs {
			traces[i] = append(traces[i], z)
		}
	}
	return traces
}

func checkTraces(t *testing.T, r impl.Rack, n int, want [][]complex64) {
	t.Helper()
	if traces, ok := impl.TraceRack(r, n); !ok || !slices.EqualFunc(traces, want, sameSamples) {
		t.Fatalf("TraceRack(%v, %d) = %g, %v; not %g", r, n, traces, ok, want)
	}
}

func TestP10TraceRack(t *testing.T) {
	for i, r := range append(runRacks(), manyRacks()...) {
		for _, n := range []int{0, 1, 2, 10 + i%8} {
			checkTraces(t, r, n, tracesOf(r, n))
		}
		if i%50 == 0 {
			checkTraces(t, r, 500, tracesOf(r, 500))
			checkTraces(t, r, 499, tracesOf(r, 499))
		}
	}
}

func TestP10NamedTraces(t *testing.T) {
	type modules = []impl.Module
	zero, least := minusZero(), float32(0x1p-149)
	for _, c := range []struct {
		r    impl.Rack
		n    int
		want [][]complex64
	}{
		{impl.Rack{}, 0, nil}, {impl.Rack{}, 1, nil}, {impl.Rack{}, 500, nil}, {fullRack(), 0, make([][]complex64, 16)}, {rackOf("g"), 0, [][]complex64{{}}}, {rackOf("g"), 1, [][]complex64{{0}}},
		{modulesRack(modules{impl.NewSource(1i, 1), impl.NewGain(2), impl.NewSum()}, 0, 1, 0, 2, 1, 2), 3, [][]complex64{{1, 1i, -1}, {2, 2i, -2}, {3, 3i, -3}}}, {modulesRack(modules{impl.NewSum(), impl.NewGain(-1), impl.NewMeter()}, 1, 2), 2, [][]complex64{{0, 0}, {complex(zero, zero), complex(zero, zero)}, {0, 0}}},
		{modulesRack(modules{delayOf(0, 1, complex(least, zero)), impl.NewGain(1), impl.NewSum()}, 0, 1, 0, 2), 3, [][]complex64{{1, complex(least, zero), 0}, {1, 0, 0}, {1, complex(least, 0), 0}}}, {modulesRack(modules{delayOf(0, 1), delayOf(0, 5)}, 0, 1, 1, 0), 4, [][]complex64{{1, 5, 1, 5}, {5, 1, 5, 1}}},
		// All modules are traced, those that feed nothing, and those that are fed by none.
		{modulesRack(modules{impl.NewSum(), impl.NewSource(2, 3), giving(7), giving(complex(zero, infinity(-1)))}, 1, 0), 2, [][]complex64{{3, 6}, {3, 6}, {7, 7}, {complex(zero, infinity(-1)), complex(zero, infinity(-1))}}},
	} {
		checkTraces(t, c.r, c.n, c.want)
		checkTraces(t, c.r, c.n, tracesOf(c.r, c.n))
	}
}

// TestP7TracesAreWhatIsHeard listens to each module in a run of its own, without a plug, and with a plug that nothing hears.
func TestP7TracesAreWhatIsHeard(t *testing.T) {
	for k, r := range runRacks() {
		n := 8 + k%9
		traces, ok := impl.TraceRack(r, n)
		for i := range r.Modules {
			_, heard, fine := impl.RunRack(r, impl.Plug{In: -1, Out: i}, samples(1, 2, 3), n)
			if !ok || !fine || !sameSamples(heard, traces[i]) {
				t.Fatalf("TraceRack(%v, %d) gives %g for the module %d, of which %g is heard", r, n, traces[i], i, heard)
			}
		}
	}
}

// quietFrom is what QuietFrom should return for these outputs.
func quietFrom(heard []complex64) int {
	for i := range heard {
		if !slices.ContainsFunc(heard[i:], func(z complex64) bool { return real(z) != 0 || imag(z) != 0 }) {
			return i
		}
	}
	return len(heard)
}

func checkQuiet(t *testing.T, r impl.Rack, p impl.Plug, input []complex64, n int, want int) {
	t.Helper()
	if i, ok := impl.QuietFrom(r, p, input, n); !ok || i != want {
		t.Fatalf("QuietFrom(%v, %v, %g, %d) = %d, %v; not %d", r, p, input, n, i, ok, want)
	}
}

func TestP10QuietFrom(t *testing.T) {
	choice := rand.New(rand.NewPCG(33, 34))
	for i, r := range runRacks() {
		for _, n := range []int{0, 1, 2, 12 + i%5} {
			p, input := randomPlug(choice, r), randomInput(choice, choice.IntN(n+4))
			_, heard := ranRack(r, p, input, n)
			checkQuiet(t, r, p, input, n, quietFrom(heard))
		}
	}
	// Racks that become quiet, or are quiet at times, more often.
	for range 2000 {
		input := make([]complex64, choice.IntN(12))
		for i := range input {
			input[i] = samples(0, 0, 0, 1, -1i, complex(minusZero(), 0))[choice.IntN(6)]
		}
		r, n := modulesRack([]impl.Module{impl.NewSum(), delayOf(0, 0, 0), delayOf(0, 0), impl.NewGain(-1)}, 0, 1, 1, 3, 2, 3, 0, 2), choice.IntN(15)
		p := impl.Plug{In: choice.IntN(4), Out: choice.IntN(4)}
		_, heard := ranRack(r, p, input, n)
		checkQuiet(t, r, p, input, n, quietFrom(heard))
	}
}

func TestP10NamedQuiet(t *testing.T) {
	zero, nan, least := minusZero(), notANumber(), float32(0x1p-149)
	sum, minus := modulesRack([]impl.Module{impl.NewSum()}), modulesRack([]impl.Module{impl.NewGain(-1)})
	for _, c := range []struct {
		r     impl.Rack
		input []complex64
		n     int
		want  int
	}{
		// All outputs are 0, some are, the last one is not, and there are none.
		{sum, nil, 5, 0}, {sum, samples(0, 0), 1, 0}, {sum, samples(0, 0, 0, 7), 3, 0}, {sum, samples(1), 1, 1}, {sum, samples(0, 1), 2, 2}, {sum, samples(1, 2, 0, 0, 3), 5, 5}, {sum, samples(1, 2, 0, 0, 3), 4, 2}, {sum, samples(1, 2, 0, 0, 3), 6, 5}, {sum, samples(1, 2, 0, 0, 3), 500, 5}, {sum, samples(0, 0, 3, 0, 0), 5, 3}, {sum, samples(1), 0, 0}, {sum, nil, 0, 0}, {minus, nil, 0, 0}, {sum, nil, 500, 0}, {sum, append(make([]complex64, 499), 1), 500, 500}, {sum, append(make([]complex64, 498), 1), 500, 499},
		// Either part counts.
		{sum, samples(1i), 3, 1}, {sum, samples(1, 1i, 0), 3, 2}, {sum, samples(1i, -1), 3, 2}, {sum, samples(complex(least, 0), complex(0, -least)), 4, 2},
		// -0 is equal to 0, a subnormal number is not, unless it is flushed, and NaN is equal to nothing.
		{minus, nil, 4, 0}, {minus, samples(1, 0), 4, 1}, {minus, samples(1, complex(zero, zero), 0), 3, 1}, {minus, samples(1, complex(least, -least)), 3, 1}, {modulesRack([]impl.Module{delayOf(0, 1, complex(zero, zero), complex(0, zero), complex(zero, 0))}), nil, 4, 1},
		{sum, samples(complex(nan, 0)), 1, 1}, {sum, samples(complex(0, nan)), 1, 1}, {sum, samples(complex(nan, nan), 0), 3, 1}, {sum, samples(0, 0, complex(zero, nan)), 5, 3}, {sum, samples(complex(infinity(1), 0), complex(0, infinity(-1))), 5, 2}, {minus, samples(complex(nan, 0), complex(0, nan)), 2, 2},
	} {
		checkQuiet(t, c.r, impl.Plug{}, c.input, c.n, c.want)
	}
	// Only the module that is listened to counts.
	both := modulesRack([]impl.Module{impl.NewSum(), giving(5)}, 1, 0)
	checkQuiet(t, both, impl.Plug{In: 0, Out: 1}, samples(-5, -5), 4, 4)
	checkQuiet(t, both, impl.Plug{In: 0, Out: 0}, samples(1, -5, -5, -5), 4, 1)
	checkQuiet(t, both, impl.Plug{In: -1, Out: 0}, samples(-5, -5, -5, -5), 4, 4)
}
