package tests

import (
	"testing"

	"loop.example/g03223/impl"
)

// checkFirst asks for the first step in which faults make a difference, for all lengths of a run up to n.
func checkFirst(t *testing.T, r impl.Rack, p impl.Plug, input []complex64, list []impl.Fault, n int, want int) {
	t.Helper()
	for steps := range n + 1 {
		checkFaults(t, r, p, input, list, steps)
		if i, ok := impl.FirstFault(r, p, input, list, steps); !ok || i != min(want, steps) {
			t.Fatalf("FirstFault(%v, %v, %g, %v, %d) = %d, %v; not %d", r, p, input, list, steps, i, ok, min(want, steps))
		}
	}
}

func TestP11FirstDifferences(t *testing.T) {
	type modules = []impl.Module
	least, zero, sum := float32(0x1p-149), minusZero(), impl.NewSum()
	doubling := modulesRack(modules{impl.NewSource(2, 1), sum, sum}, 0, 1)
	for _, c := range []struct {
		r       impl.Rack
		in, out int
		input   []complex64
		list    []impl.Fault
		want    int
	}{
		{doubling, -1, 0, nil, nil, 99}, {doubling, -1, 0, nil, faultsOf(mute, 0, 0, 1), 0}, {doubling, -1, 0, nil, faultsOf(mute, 0, 0, 500), 0}, {doubling, -1, 0, nil, faultsOf(mute, 0, 3, 4), 3}, {doubling, -1, 0, nil, faultsOf(mute, 0, 3, 500), 3}, {doubling, -1, 0, nil, faultsOf(mute, 0, 7, 8), 7}, {doubling, -1, 0, nil, faultsOf(mute, 0, 8, 9), 8}, {doubling, -1, 0, nil, faultsOf(stick, 0, 0, 1), 0}, {doubling, -1, 0, nil, faultsOf(stick, 0, 5, 6), 5}, {doubling, -1, 0, nil, faultsOf(mute, 0, 6, 7, stick, 0, 4, 5, mute, 0, 5, 6), 4},
		{doubling, -1, 1, nil, faultsOf(mute, 0, 3, 4), 3}, {doubling, -1, 1, nil, faultsOf(stick, 1, 3, 4), 3}, {doubling, -1, 1, nil, faultsOf(mute, 1, 5, 6, mute, 0, 4, 5), 4},
		// In no step, at a module that is not heard, and where nothing is changed.
		{doubling, -1, 0, nil, faultsOf(mute, 0, 0, 0, mute, 0, 3, 3, mute, 0, 500, 500), 99}, {doubling, -1, 0, nil, faultsOf(mute, 1, 0, 500, mute, 2, 0, 500), 99}, {doubling, -1, 2, nil, faultsOf(mute, 0, 0, 500, stick, 1, 0, 500, mute, 2, 0, 500), 99}, {doubling, -1, 0, nil, faultsOf(flush, 0, 0, 500), 99}, {doubling, -1, 0, nil, faultsOf(mute, 0, 3, 4, flush, 0, 1, 9), 3},
		{modulesRack(modules{giving(5)}), -1, 0, nil, faultsOf(stick, 0, 1, 500), 99}, {modulesRack(modules{giving(5)}), -1, 0, nil, faultsOf(stick, 0, 0, 1), 0}, {modulesRack(modules{sum}), -1, 0, nil, faultsOf(mute, 0, 0, 500, stick, 0, 2, 8), 99}, {modulesRack(modules{giving(0)}), -1, 0, nil, faultsOf(mute, 0, 0, 9, stick, 0, 0, 9, flush, 0, 0, 9), 99},
		{modulesRack(modules{sum}), 0, 0, samples(0, 0, 0, 7), faultsOf(mute, 0, 1, 9), 3}, {modulesRack(modules{sum}), 0, 0, samples(5, 5, 5, 7), faultsOf(stick, 0, 1, 9), 3}, {modulesRack(modules{sum}), 0, 0, samples(1, 2, 1, 1, complex(1, least)), faultsOf(flush, 0, 0, 9), 4}, {modulesRack(modules{sum}), 0, 0, samples(1, 2, complex(-least, 1), 1), faultsOf(flush, 0, 1, 9), 2},
		// One fault takes back what another one does.
		{modulesRack(modules{giving(5)}), -1, 0, nil, faultsOf(mute, 0, 1, 4, stick, 0, 1, 9), 99}, {modulesRack(modules{giving(5)}), -1, 0, nil, faultsOf(stick, 0, 1, 9, mute, 0, 3, 4), 3}, {modulesRack(modules{giving(5)}), -1, 0, nil, faultsOf(mute, 0, 0, 1, stick, 0, 1, 9), 0},
		// The sign of 0 is a difference, also where the other part is the same.
		{modulesRack(modules{giving(complex(zero, 0))}), -1, 0, nil, faultsOf(mute, 0, 2, 9), 2}, {modulesRack(modules{giving(complex(0, zero))}), -1, 0, nil, faultsOf(mute, 0, 2, 9), 2}, {modulesRack(modules{giving(complex(zero, zero))}), -1, 0, nil, faultsOf(mute, 0, 0, 1), 0}, {modulesRack(modules{giving(complex(zero, zero))}), -1, 0, nil, faultsOf(flush, 0, 0, 9, stick, 0, 1, 9), 99}, {modulesRack(modules{giving(complex(zero, 0)), sum}, 0, 1), -1, 1, nil, faultsOf(mute, 0, 0, 9), 99}, {modulesRack(modules{giving(complex(zero, 0)), impl.NewGain(-1)}, 0, 1), -1, 1, nil, faultsOf(mute, 1, 4, 9), 4},
		// NaN is the same as NaN, part by part.
		{modulesRack(modules{giving(complex(notANumber(), 1))}), -1, 0, nil, faultsOf(stick, 0, 1, 9, flush, 0, 0, 9), 99}, {modulesRack(modules{giving(complex(notANumber(), notANumber()))}), -1, 0, nil, faultsOf(stick, 0, 1, 9), 99}, {modulesRack(modules{giving(complex(notANumber(), 1))}), -1, 0, nil, faultsOf(mute, 0, 2, 9), 2}, {modulesRack(modules{giving(complex(notANumber(), least))}), -1, 0, nil, faultsOf(flush, 0, 3, 9), 3}, {modulesRack(modules{giving(complex(-least, notANumber()))}), -1, 0, nil, faultsOf(flush, 0, 3, 9), 3},
		{modulesRack(modules{sum, giving(complex(notANumber(), notANumber()))}, 1, 0), 0, 0, samples(1, 2, 3, 4), faultsOf(stick, 0, 1, 9), 99}, {modulesRack(modules{sum, giving(complex(notANumber(), 0))}, 1, 0), 0, 0, samples(1, 2, 3i, 4i), faultsOf(stick, 0, 1, 9), 2}, {modulesRack(modules{giving(complex(infinity(1), infinity(-1)))}), -1, 0, nil, faultsOf(stick, 0, 1, 9, flush, 0, 0, 9), 99},
		// Through delays, the difference comes later, and loops keep it.
		{modulesRack(modules{impl.NewSource(2, 1), delayOf(0, 7, 8)}, 0, 1), -1, 1, nil, faultsOf(mute, 0, 1, 2), 3}, {modulesRack(modules{impl.NewSource(2, 1), delayOf(0, 7, 8), delayOf(0, 9)}, 0, 1, 1, 2), -1, 2, nil, faultsOf(mute, 0, 1, 2), 4}, {modulesRack(modules{delayOf(0, 1, 2, 3), sum, delayOf(0, 5, 6, 7)}, 0, 0, 0, 2), -1, 2, nil, faultsOf(mute, 0, 1, 2), 4}, {modulesRack(modules{impl.NewSource(2, 1), {Kind: 8, Count: 3}}, 0, 1), -1, 1, nil, faultsOf(mute, 0, 1, 6), 3},
	} {
		checkFirst(t, c.r, impl.Plug{In: c.in, Out: c.out}, c.input, c.list, 8, c.want)
	}
}

// TestP11LastDifferences has long runs, with the first difference in the first step, in the last one, or nowhere.
func TestP11LastDifferences(t *testing.T) {
	r, p := modulesRack([]impl.Module{impl.NewSource(1i, 1)}), impl.Plug{In: -1}
	for _, n := range []int{0, 1, 2, 100, 499, 500} {
		for _, from := range []int{0, 1, n / 2, n - 2, n - 1, n, n + 1, 498, 499, 500} {
			if from < 0 || from > 500 {
				continue
			}
			for _, to := range []int{from, from + 1, 500} {
				if to > 500 {
					continue
				}
				want := n
				if from < to {
					want = min(from, n)
				}
				for _, kind := range []int{mute, stick} {
					checkFaults(t, r, p, nil, faultsOf(kind, 0, from, to), n)
					if i, ok := impl.FirstFault(r, p, nil, faultsOf(kind, 0, from, to), n); !ok || i != want {
						t.Fatalf("with a fault from %d to %d, FirstFault for %d steps is %d, %v", from, to, n, i, ok)
					}
				}
			}
		}
	}
}

// validFault is whether a fault may be in the list for a rack of n modules.
func validFault(f impl.Fault, n int) bool {
	return f.Kind > 0 && f.Kind < 4 && f.Module >= 0 && f.Module < n && f.From >= 0 && f.From <= f.To && f.To <= 500
}

// oddFaults are each wrong in one thing for a rack of n modules, and some in several.
func oddFaults(n int) []impl.Fault {
	list := []impl.Fault{{}, {Kind: 4}, {Kind: 1, Module: -1, From: -1, To: -1}, {Kind: 1, From: 501, To: 502}, {Kind: 2, From: 5, To: 4}, {Kind: 3, From: 500, To: 499}, {Kind: 1, From: 1}}
	for _, kind := range append(oddKinds(), 4, 5, 6, 7, 8) {
		if kind < 1 || kind > 3 {
			list = append(list, impl.Fault{Kind: kind, From: 1, To: 3}, impl.Fault{Kind: kind, Module: n - 1})
		}
	}
	for _, i := range oddIndices(n) {
		list = append(list, impl.Fault{Kind: 1, Module: i, To: 5}, impl.Fault{Kind: 2, Module: i})
	}
	for _, at := range oddLengths() {
		list = append(list, impl.Fault{Kind: 3, From: at, To: at}, impl.Fault{Kind: 1, To: at}, impl.Fault{Kind: 2, From: at, To: 500}, impl.Fault{Kind: 2, From: at}, impl.Fault{Kind: 3, From: 500, To: at})
	}
	return list
}

func TestP10AreFaults(t *testing.T) {
	for _, r := range []impl.Rack{rackOf("g"), rackOf("od", 0, 1, 1, 1), fullRack(), chainOf(15, true)} {
		size := len(r.Modules)
		for n := range 60 {
			if impl.AreFaults(r, make([]impl.Fault, n)) != (n == 0) {
				t.Fatalf("AreFaults of %d faults of no kind is not %v", n, n == 0)
			}
			list := []impl.Fault{}
			for k := range n {
				list = append(list, impl.Fault{Kind: 1 + k%3, Module: k % size, From: k * 8, To: min(k*9, 500)})
			}
			if impl.AreFaults(r, list) != (n <= 20) {
				t.Fatalf("AreFaults of %d faults is not %v", n, n <= 20)
			}
		}
		for kind := -1; kind <= 5; kind++ {
			for module := -2; module <= size+2; module++ {
				for _, from := range []int{-1, 0, 1, 2, 250, 499, 500, 501} {
					for _, to := range []int{-1, 0, 1, 2, 3, 251, 499, 500, 501} {
						f := impl.Fault{Kind: kind, Module: module, From: from, To: to}
						if impl.AreFaults(r, []impl.Fault{f}) != validFault(f, size) {
							t.Fatalf("AreFaults of %v in %v is not %v", f, r, validFault(f, size))
						}
					}
				}
			}
		}
		// One of several is not valid, whatever its place is.
		for _, f := range oddFaults(size) {
			for _, n := range []int{1, 2, 5, 19, 20} {
				for _, k := range []int{0, n / 2, n - 1} {
					list := make([]impl.Fault, 0, n)
					for range n {
						list = append(list, impl.Fault{Kind: 2, Module: size - 1, To: 500})
					}
					list[k] = f
					if impl.AreFaults(r, list) {
						t.Fatalf("AreFaults of %v in %v is true", list, r)
					}
				}
			}
		}
		if !impl.AreFaults(r, nil) || impl.AreFaults(r, make([]impl.Fault, 100000)) {
			t.Error("AreFaults of no faults, or of far too many")
		}
	}
	for _, r := range badRacks() {
		if impl.AreFaults(r, nil) || impl.AreFaults(r, faultsOf(1, 0, 0, 5)) || impl.AreFaults(r, make([]impl.Fault, 21)) {
			t.Fatalf("AreFaults of %v, which is not valid, is true", r)
		}
	}
	// A rack of no modules has no faults.
	if !impl.AreFaults(impl.Rack{}, nil) || impl.AreFaults(impl.Rack{}, faultsOf(1, 0, 0, 0)) || impl.AreFaults(impl.Rack{}, faultsOf(1, -1, 0, 0)) {
		t.Error("AreFaults of a rack of no modules")
	}
}
