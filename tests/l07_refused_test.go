package tests

import (
	"math"
	"slices"
	"testing"

	"loop.example/g03223/impl"
)

// checkRunRefused asks all functions that are given a plug and a number of steps.
func checkRunRefused(t *testing.T, r impl.Rack, p impl.Plug, input []complex64, n int) {
	t.Helper()
	if got, heard, ok := impl.RunRack(r, p, input, n); ok || !noRack(got) || len(heard) != 0 {
		t.Fatalf("RunRack(%v, %v, %g, %d) = %v, %g, %v", r, p, input, n, got, heard, ok)
	}
	if i, ok := impl.QuietFrom(r, p, input, n); ok || i != 0 {
		t.Fatalf("QuietFrom(%v, %v, %g, %d) = %d, %v", r, p, input, n, i, ok)
	}
	checkCutRefused(t, r, p, input, []int{n})
}

func checkCutRefused(t *testing.T, r impl.Rack, p impl.Plug, input []complex64, cuts []int) {
	t.Helper()
	if got, heard, ok := impl.RunCut(r, p, input, cuts); ok || !noRack(got) || len(heard) != 0 {
		t.Fatalf("RunCut(%v, %v, %g, %d) = %v, %g, %v", r, p, input, cuts, got, heard, ok)
	}
}

func TestP10RunsOfRacksThatAreNotValid(t *testing.T) {
	for _, r := range badRacks() {
		for _, p := range []impl.Plug{{}, {In: -1}, {In: len(r.Modules) - 1, Out: len(r.Modules) - 1}} {
			for _, n := range []int{0, 1, 500, -1, 501} {
				checkRunRefused(t, r, p, samples(5, 6), n)
			}
			for _, cuts := range [][]int{nil, {0}, {2, 0, 3}, {-1}, make([]int, 50), make([]int, 51)} {
				checkCutRefused(t, r, p, samples(5, 6), cuts)
			}
		}
		for _, n := range []int{0, 1, 2, 500, -1, 501} {
			if traces, ok := impl.TraceRack(r, n); ok || len(traces) != 0 {
				t.Fatalf("TraceRack(%v, %d) = %g, %v", r, n, traces, ok)
			}
		}
		reset, ok := impl.ResetRack(r)
		tellers, told, okToo := impl.TellRack(r)
		if ok || okToo || !noRack(reset) || len(tellers) != 0 || len(told) != 0 {
			t.Fatalf("ResetRack or TellRack(%v) has a result: %v; %d, %g", r, reset, tellers, told)
		}
	}
}

// checkRunTaken is checkRunRefused where nothing is refused.
func checkRunTaken(t *testing.T, r impl.Rack, p impl.Plug, n int) {
	t.Helper()
	_, heard, one := impl.RunRack(r, p, nil, n)
	_, cut, two := impl.RunCut(r, p, nil, []int{n})
	_, three := impl.QuietFrom(r, p, nil, n)
	if !one || !two || !three || len(heard) != n || len(cut) != n {
		t.Fatalf("a run of %v by %d, with %v, is %v, %v, %v", r, n, p, one, two, three)
	}
}

func TestP10PlugsThatAreNotValid(t *testing.T) {
	for _, r := range []impl.Rack{rackOf("g"), rackOf("d", 0, 0), rackOf("og", 0, 1), fullRack(), chainOf(15, true)} {
		n := len(r.Modules)
		for _, out := range append(oddIndices(n), -2, -16) {
			for _, in := range []int{-1, 0, n - 1, out} {
				checkRunRefused(t, r, impl.Plug{In: in, Out: out}, samples(1, 2), 3)
				checkRunRefused(t, r, impl.Plug{In: in, Out: out}, nil, 0)
				checkCutRefused(t, r, impl.Plug{In: in, Out: out}, nil, nil)
			}
		}
		for _, in := range append(oddIndices(n), -2, -3, -16) {
			for _, out := range []int{0, n - 1} {
				if in == -1 {
					checkRunTaken(t, r, impl.Plug{In: in, Out: out}, 3)
					continue
				}
				checkRunRefused(t, r, impl.Plug{In: in, Out: out}, samples(1, 2), 3)
				checkRunRefused(t, r, impl.Plug{In: in, Out: out}, nil, 0)
				checkCutRefused(t, r, impl.Plug{In: in, Out: out}, nil, nil)
			}
		}
		for in := -1; in < n; in++ {
			for out := range n {
				checkRunTaken(t, r, impl.Plug{In: in, Out: out}, 2)
			}
		}
	}
}

// TestP10PlugsOfNoModules has a rack to which no plug fits, as nothing can be listened to.
func TestP10PlugsOfNoModules(t *testing.T) {
	for _, in := range []int{-2, -1, 0, 1, 16, math.MaxInt, math.MinInt} {
		for _, out := range []int{-2, -1, 0, 1, 16, math.MaxInt, math.MinInt} {
			for _, n := range []int{0, 1, 500} {
				checkRunRefused(t, impl.Rack{}, impl.Plug{In: in, Out: out}, samples(1), n)
			}
			checkCutRefused(t, impl.Rack{}, impl.Plug{In: in, Out: out}, nil, nil)
		}
	}
}

// oddLengths are no numbers of steps, also where an integer of 32 bits or of 16 would be one.
func oddLengths() []int {
	const most, least = math.MaxInt, math.MinInt
	list := []int{1000, 1 << 16, 1<<16 + 1, 1<<31 - 1, 1 << 31, -1 << 31, 1 << 32, 1<<32 + 3, 1<<32 + 500, 1<<32 - 1, -1 << 32, 3 - 1<<32, 1 << 62, -1 << 62}
	for k := range 12 {
		list = append(list, -1-k, 501+k, most-k, least+k, most-500-k, least+500+k)
	}
	return list
}

func TestP10NumbersOfSteps(t *testing.T) {
	for _, r := range []impl.Rack{rackOf("g"), rackOf("odg", 0, 1, 1, 2, 2, 1)} {
		for _, n := range oddLengths() {
			checkRunRefused(t, r, impl.Plug{In: -1}, nil, n)
			checkRunRefused(t, r, impl.Plug{}, samples(1, 2, 3), n)
			if traces, ok := impl.TraceRack(r, n); ok || len(traces) != 0 {
				t.Fatalf("TraceRack(%v, %d) has %d traces, %v", r, n, len(traces), ok)
			}
			if traces, ok := impl.TraceRack(impl.Rack{}, n); ok || len(traces) != 0 {
				t.Fatalf("TraceRack of no modules and %d has %d traces, %v", n, len(traces), ok)
			}
		}
		for n := range 501 {
			checkRunTaken(t, r, impl.Plug{In: n%2 - 1}, n)
			if traces, ok := impl.TraceRack(r, n); !ok || len(traces) != len(r.Modules) || len(traces[0]) != n {
				t.Fatalf("TraceRack(%v, %d) has %d traces, %v", r, n, len(traces), ok)
			}
		}
	}
}

func TestP10CutsThatAreNotValid(t *testing.T) {
	const most, least, half = math.MaxInt, math.MinInt, 1 << 62
	r, plug := rackOf("odg", 0, 1, 1, 2, 2, 1), impl.Plug{In: 2, Out: 1}
	tens := slices.Repeat([]int{10}, 50)
	for _, cuts := range [][]int{
		// More than 50 of them.
		make([]int, 51), make([]int, 52), make([]int, 1000), slices.Repeat([]int{1}, 51), append(slices.Repeat([]int{1}, 50), 0), append(make([]int, 50), 5), append(tens, 0), slices.Repeat([]int{10}, 51),
		// One is below 0, whatever the sum is.
		{-1}, {-1, 1}, {5, -1}, {5, -1, 5}, {5, -5}, {0, -1, 0}, {3, 4, -2, 6}, {500, -1, 1}, {501, -1}, {-1, 501}, {600, -200}, {-200, 600}, {least}, {least, least}, {most, least}, {most, least, 1}, {least, most, 1}, {1, least, most}, {most, -most}, {-most, most, 5}, {1 << 32, -1 << 32}, append(make([]int, 49), -1), append([]int{-1}, make([]int, 49)...),
		// The sum is more than 500.
		{501}, {500, 1}, {1, 500}, {250, 251}, {0, 501, 0}, {499, 1, 1}, {400, 100, 0, 1}, append(slices.Repeat([]int{10}, 49), 11), append([]int{11}, tens[:49]...), {1000}, {most}, {most - 1, 1}, {1, most - 1}, {half}, {1<<32 + 5}, {1 << 32}, {1<<32 - 1, 1}, {1 << 31, 1 << 31, 7}, {65536}, {65535, 1, 4},
		// The sum is greater than the greatest integer, and what is left of it in 64 bits may be from 0 to 500.
		{most, 1}, {1, most}, {most, most}, {most, most, 2}, {most, most, 7}, {7, most, most}, {most, 5, most}, {half, half}, {half, half, half, half}, {half, half, half, half, 9}, {9, half, half, half, half}, {half, half, 1, half, half, 499}, {most, most, most, most, 4}, {most, 502, most}, {500, most - 499}, {most - 500, 501}, {half + 1, half + 1, half + 1, half + 1},
	} {
		for _, input := range [][]complex64{nil, samples(1, 2, 3)} {
			checkCutRefused(t, r, plug, input, cuts)
			checkCutRefused(t, r, impl.Plug{In: -1}, input, cuts)
			checkCutRefused(t, rackOf("g"), impl.Plug{}, input, cuts)
		}
	}
	for _, n := range oddLengths() {
		checkCutRefused(t, r, plug, nil, []int{n})
		checkCutRefused(t, r, plug, nil, []int{4, n, 5})
		checkCutRefused(t, r, plug, nil, append(make([]int, 49), n))
	}
	// These are valid, and close to those above.
	for _, cuts := range [][]int{nil, {0}, {500}, {499, 1}, {250, 250}, {0, 500, 0}, {500, 0}, tens, make([]int, 50), append(make([]int, 49), 500)} {
		if _, heard, ok := impl.RunCut(r, plug, nil, cuts); !ok || len(heard) != sumOfCuts(cuts) {
			t.Errorf("RunCut by %d has %d outputs, %v", cuts, len(heard), ok)
		}
	}
}
