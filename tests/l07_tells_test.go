package tests

import (
	"math"
	"slices"
	"testing"

	"loop.example/g03223/impl"
)

func checkSameRacks(t *testing.T, a impl.Rack, b impl.Rack, want bool) {
	t.Helper()
	if impl.SameRacks(a, b) != want || impl.SameRacks(b, a) != want {
		t.Fatalf("SameRacks(%v, %v) is not %v", a, b, want)
	}
}

// TestP10SameRacks has racks that are valid and others, many of which differ in little.
func TestP10SameRacks(t *testing.T) {
	list, same := slices.Concat(namedRacks(), loopRacks(), smallRacks()[:150]), 0
	for i, r := range badRacks() {
		if i%7 == 0 {
			list = append(list, r)
		}
	}
	for i, a := range list {
		checkSameRacks(t, a, copyOfRack(a), true)
		for _, b := range list[:i] {
			want := sameRack(a, b)
			checkSameRacks(t, a, b, want)
			if want {
				same++
			}
		}
	}
	if same < 10 {
		t.Errorf("only %d pairs of %d racks are the same", same, len(list))
	}
}

func TestP10NamedSameRacks(t *testing.T) {
	type rack = impl.Rack
	r := rackOf("odg+th", 0, 1, 1, 1, 1, 2, 2, 3, 0, 3, 0, 1)
	other := func(ends ...int) rack { return rack{Modules: r.Modules, Cables: cablesOf(ends...)} }
	for _, b := range []rack{
		// Other cables: none, fewer, more, other ends, and the same ones in another order, or in the other direction.
		{Modules: r.Modules}, other(0, 1, 1, 1, 1, 2, 2, 3, 0, 3), withCables(r, 0, 1), other(0, 1, 1, 1, 1, 2, 2, 3, 0, 4, 0, 1), other(0, 1, 1, 1, 1, 2, 2, 3, 1, 3, 0, 1), other(1, 1, 0, 1, 1, 2, 2, 3, 0, 3, 0, 1), other(0, 1, 1, 1, 1, 2, 2, 3, 0, 1, 0, 3), other(1, 0, 1, 1, 1, 2, 2, 3, 0, 3, 0, 1), other(0, 1, 1, 1, 1, 2, 2, 3, 0, 3, 1<<32, 1),
		// Other modules.
		{Cables: r.Cables}, {Modules: r.Modules[:5], Cables: r.Cables}, withModules(r, impl.NewSum()), withModules(r, impl.Module{}), withModule(r, 0, moduleAt('o', 1)), withModule(r, 5, moduleAt('h', 4)), withModule(r, 3, impl.Module{}), withModule(r, 1, delayOf(1, 2-0.25i, complex(0, minusZero()), complex(1, 1))), withModule(r, 1, delayOf(1, 2-0.25i, 0, complex(notANumber(), 1))), withModule(r, 4, slicerOf(5, 5-1i, 200, 300i)),
		withModule(withModule(r, 0, r.Modules[1]), 1, r.Modules[0]), {},
	} {
		checkSameRacks(t, r, b, false)
		checkSameRacks(t, b, copyOfRack(b), true)
	}
	checkSameRacks(t, r, withModule(r, 1, delayOf(1, 2-0.25i, complex(0, minusZero()), complex(math.Float32frombits(0xff800001), 1))), true)
	// Nothing, in any way.
	checkSameRacks(t, rack{}, rack{Modules: []impl.Module{}, Cables: []impl.Cable{}}, true)
	checkSameRacks(t, rackOf("g"), rack{Modules: rackOf("g").Modules, Cables: []impl.Cable{}}, true)
	// Racks that are not valid are the same if all in them is.
	for _, bad := range badRacks() {
		checkSameRacks(t, bad, copyOfRack(bad), true)
		checkSameRacks(t, bad, withModules(bad, impl.Module{}), false)
		checkSameRacks(t, bad, withCables(bad, -5, 70), false)
	}
}

// resetRack is what ResetRack should return, for a valid rack.
func resetRack(r impl.Rack) impl.Rack {
	fresh := impl.Rack{Cables: r.Cables}
	for _, m := range r.Modules {
		if reset, _, _ := namedPowers(m.Kind); reset {
			m = resetModule(m)
		}
		fresh.Modules = append(fresh.Modules, m)
	}
	return fresh
}

// toldRack is what TellRack should return, for a valid rack.
func toldRack(r impl.Rack) ([]int, []complex64) {
	tellers, told := []int{}, []complex64{}
	for i, m := range r.Modules {
		if _, _, tell := namedPowers(m.Kind); tell {
			tellers, told = append(tellers, i), append(told, toldSample(m))
		}
	}
	return tellers, told
}

func checkResetAndTold(t *testing.T, r impl.Rack) {
	t.Helper()
	want := resetRack(r)
	got, ok := impl.ResetRack(r)
	if !ok || !sameRack(got, want) || !impl.IsRack(got) {
		t.Fatalf("ResetRack(%v) = %v, %v; not %v", r, got, ok, want)
	}
	wantTellers, wantTold := toldRack(r)
	tellers, told, ok := impl.TellRack(r)
	if !ok || !slices.Equal(tellers, wantTellers) || !sameSamples(told, wantTold) {
		t.Fatalf("TellRack(%v) = %d, %g, %v; not %d, %g", r, tellers, told, ok, wantTellers, wantTold)
	}
}

func TestP10ResetRackAndTellRack(t *testing.T) {
	for _, r := range append(runRacks(), manyRacks()...) {
		checkResetAndTold(t, r)
	}
	for _, r := range smallRacks() {
		if impl.IsRack(r) {
			checkResetAndTold(t, r)
		}
	}
	for m := range slices.Chunk(append(goodModules(), plainModules()...), 16) {
		checkResetAndTold(t, impl.Rack{Modules: m})
	}
}

func TestP10NamedResetsAndTells(t *testing.T) {
	zero, nan := minusZero(), notANumber()
	for _, c := range []struct {
		r, reset impl.Rack
		tellers  []int
		told     []complex64
	}{
		{impl.Rack{}, impl.Rack{}, nil, nil},
		// No module has a power, or none that is used here.
		{rackOf("+"), rackOf("+"), nil, nil}, {rackOf("+g", 0, 1), rackOf("+g", 0, 1), nil, nil}, {rackOf("gg+", 2, 0, 1, 0), rackOf("gg+", 2, 0, 1, 0), nil, nil},
		// Some have one, and some the other.
		{modulesRack([]impl.Module{impl.NewSource(2, complex(zero, nan))}), modulesRack([]impl.Module{impl.NewSource(2, complex(zero, nan))}), []int{0}, samples(complex(zero, nan))}, {modulesRack([]impl.Module{delayOf(1, 5, 6i)}, 0, 0), modulesRack([]impl.Module{delayOf(1, 0, 0)}, 0, 0), nil, nil},
		{modulesRack([]impl.Module{impl.NewSum(), {Kind: 2, Turn: 1i, State: 5i}, impl.NewGain(3)}, 1, 2, 0, 2), modulesRack([]impl.Module{impl.NewSum(), {Kind: 2, Turn: 1i, State: 1}, impl.NewGain(3)}, 1, 2, 0, 2), []int{1}, samples(5i)},
		// All kinds, in any order.
		{
			modulesRack([]impl.Module{{Kind: 8, State: 4, Count: 9, Left: 5}, {Kind: 7, Level: 3}, slicerOf(-7, 1, 2i), impl.NewSum(), delayOf(2, 1, 2, 3), impl.NewGain(zero), {Kind: 2, Turn: 2, State: 3i}, impl.NewSource(1, 2)}, 7, 0, 4, 4, 6, 5, 0, 1),
			modulesRack([]impl.Module{{Kind: 8, Count: 9}, {Kind: 7}, slicerOf(0, 1, 2i), impl.NewSum(), delayOf(2, 0, 0, 0), impl.NewGain(zero), {Kind: 2, Turn: 2, State: 1}, impl.NewSource(1, 2)}, 7, 0, 4, 4, 6, 5, 0, 1),
			[]int{0, 1, 2, 6, 7}, samples(4, 3, -7, 3i, 2),
		},
		{modulesRack([]impl.Module{{Kind: 7, Level: infinity(1)}, slicerOf(16777217), {Kind: 8, State: complex(nan, zero), Count: 1}}), modulesRack([]impl.Module{{Kind: 7}, slicerOf(0), {Kind: 8, Count: 1}}), []int{0, 1, 2}, samples(complex(infinity(1), 0), 16777216, complex(nan, zero))},
	} {
		checkResetAndTold(t, c.r)
		reset, ok := impl.ResetRack(c.r)
		tellers, told, okToo := impl.TellRack(c.r)
		if !ok || !okToo || !sameRack(reset, c.reset) || !slices.Equal(tellers, c.tellers) || !sameSamples(told, c.told) {
			t.Errorf("%v is reset to %v, %v, and tells %d, %g, %v", c.r, reset, ok, tellers, told, okToo)
		}
	}
}

// TestP10RacksTellAfterRuns asks racks that were run, and runs racks that were reset.
func TestP10RacksTellAfterRuns(t *testing.T) {
	for i, r := range runRacks() {
		ran, _, ok := impl.RunRack(r, impl.Plug{In: i % len(r.Modules)}, samples(2, 3-1i, 4), 5)
		if !ok {
			t.Fatalf("a run of %v fails", r)
		}
		checkResetAndTold(t, ran)
		reset, _ := impl.ResetRack(ran)
		checkRun(t, reset, impl.Plug{In: 0, Out: len(r.Modules) - 1}, samples(5, 6i), 6)
	}
}
