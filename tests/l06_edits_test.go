package tests

import (
	"slices"
	"testing"

	"loop.example/g03223/impl"
)

// onlyValidRack is r, or the zero value beside false if r or the rack it was made of is not valid.
func onlyValidRack(r impl.Rack, from impl.Rack) (impl.Rack, bool) {
	if !validRack(from) || !validRack(r) {
		return impl.Rack{}, false
	}
	return r, true
}

// addedModule is what AddModule should return, but for the index.
func addedModule(r impl.Rack, m impl.Module) (impl.Rack, bool) {
	return onlyValidRack(withModules(r, m), r)
}

// addedCable is what AddCable should return.
func addedCable(r impl.Rack, from int, to int) (impl.Rack, bool) {
	return onlyValidRack(withCables(r, from, to), r)
}

// droppedCable is what DropCable should return.
func droppedCable(r impl.Rack, k int) (impl.Rack, bool) {
	rest := impl.Rack{Modules: r.Modules}
	for i, c := range r.Cables {
		if i != k {
			rest.Cables = append(rest.Cables, c)
		}
	}
	if len(rest.Cables) == len(r.Cables) {
		return impl.Rack{}, false
	}
	return onlyValidRack(rest, r)
}

// droppedModule is what DropModule should return: it looks for the places of the modules among those that remain.
func droppedModule(r impl.Rack, i int) (impl.Rack, bool) {
	rest, remain := impl.Rack{}, []int{}
	for k, m := range r.Modules {
		if k != i {
			rest.Modules, remain = append(rest.Modules, m), append(remain, k)
		}
	}
	if len(remain) == len(r.Modules) || !validRack(r) {
		return impl.Rack{}, false
	}
	for _, c := range r.Cables {
		from, to := slices.Index(remain, c.From), slices.Index(remain, c.To)
		if from >= 0 && to >= 0 {
			rest.Cables = append(rest.Cables, impl.Cable{From: from, To: to})
		}
	}
	return onlyValidRack(rest, r)
}

// swappedModule is what SwapModule should return.
func swappedModule(r impl.Rack, i int, m impl.Module) (impl.Rack, bool) {
	if i < 0 || i >= len(r.Modules) {
		return impl.Rack{}, false
	}
	return onlyValidRack(withModule(r, i, m), r)
}

// checkRack holds a result against the one that is due, which is the zero value beside false.
func checkRack(t *testing.T, name string, of impl.Rack, got impl.Rack, ok bool, want impl.Rack, wantOK bool) {
	t.Helper()
	if ok != wantOK || !sameRack(got, want) || !wantOK && !noRack(want) {
		t.Fatalf("%s of %v is %v, %v; not %v, %v", name, of, got, ok, want, wantOK)
	}
	if impl.IsRack(got) != validRack(got) || ok && !impl.IsRack(got) {
		t.Fatalf("%s of %v is %v, which is valid: %v", name, of, got, impl.IsRack(got))
	}
}

func checkAddModule(t *testing.T, r impl.Rack, m impl.Module, want impl.Rack, wantOK bool) {
	t.Helper()
	got, i, ok := impl.AddModule(r, m)
	checkRack(t, "AddModule", r, got, ok, want, wantOK)
	if ok && i != len(r.Modules) || !ok && i != 0 {
		t.Fatalf("AddModule(%v, %v) has the index %d", r, m, i)
	}
}

func checkAddCable(t *testing.T, r impl.Rack, from int, to int, want impl.Rack, wantOK bool) {
	t.Helper()
	got, ok := impl.AddCable(r, from, to)
	checkRack(t, "AddCable", r, got, ok, want, wantOK)
}

func checkDropCable(t *testing.T, r impl.Rack, k int, want impl.Rack, wantOK bool) {
	t.Helper()
	got, ok := impl.DropCable(r, k)
	checkRack(t, "DropCable", r, got, ok, want, wantOK)
}

func checkDropModule(t *testing.T, r impl.Rack, i int, want impl.Rack, wantOK bool) {
	t.Helper()
	got, ok := impl.DropModule(r, i)
	checkRack(t, "DropModule", r, got, ok, want, wantOK)
}

func checkSwap(t *testing.T, r impl.Rack, i int, m impl.Module, want impl.Rack, wantOK bool) {
	t.Helper()
	got, ok := impl.SwapModule(r, i, m)
	checkRack(t, "SwapModule", r, got, ok, want, wantOK)
}

func TestP10AddModule(t *testing.T) {
	for _, r := range manyRacks() {
		for _, m := range append(plainModules(), oddModules()...) {
			want, ok := addedModule(r, m)
			checkAddModule(t, r, m, want, ok)
		}
	}
}

func TestP10AddModuleOfAllSorts(t *testing.T) {
	r := rackOf("dg", 0, 1, 1, 0)
	for _, m := range goodModules() {
		checkAddModule(t, r, m, withModules(r, m), true)
	}
	for i, m := range badModules() {
		if i%9 == 0 {
			checkAddModule(t, r, m, impl.Rack{}, false)
			checkSwap(t, r, i%2, m, impl.Rack{}, false)
		}
	}
}

func TestP10RacksAreFilledWithModules(t *testing.T) {
	r := impl.Rack{}
	for i := range 16 {
		m := moduleAt('d', i)
		checkAddModule(t, r, m, withModules(r, m), true)
		r, _, _ = impl.AddModule(r, m)
	}
	for _, m := range append(plainModules(), oddModules()...) {
		checkAddModule(t, r, m, impl.Rack{}, false)
		checkAddModule(t, fullRack(), m, impl.Rack{}, false)
	}
	// A module that is removed makes room for another one.
	r, _ = impl.DropModule(r, 3)
	checkAddModule(t, r, impl.NewSum(), withModules(r, impl.NewSum()), true)
}

func TestP10AddCable(t *testing.T) {
	for _, r := range manyRacks() {
		n := len(r.Modules)
		for from := -2; from < n+2; from++ {
			for to := -2; to < n+2; to++ {
				want, ok := addedCable(r, from, to)
				checkAddCable(t, r, from, to, want, ok)
			}
		}
		for _, i := range oddIndices(n) {
			checkAddCable(t, r, i, 0, impl.Rack{}, false)
			checkAddCable(t, r, n-1, i, impl.Rack{}, false)
			checkAddCable(t, r, i, i, impl.Rack{}, false)
		}
	}
}

func TestP10NamedNewCables(t *testing.T) {
	checkAddCable(t, rackOf("d"), 0, 0, rackOf("d", 0, 0), true)
	checkAddCable(t, rackOf("g"), 0, 0, impl.Rack{}, false)
	checkAddCable(t, rackOf("+"), 0, 0, impl.Rack{}, false)
	checkAddCable(t, rackOf("h"), 0, 0, impl.Rack{}, false)
	checkAddCable(t, rackOf("gd", 0, 1), 1, 0, rackOf("gd", 0, 1, 1, 0), true)
	checkAddCable(t, rackOf("gg", 0, 1), 1, 0, impl.Rack{}, false)
	checkAddCable(t, rackOf("gg", 0, 1), 0, 1, rackOf("gg", 0, 1, 0, 1), true)
	checkAddCable(t, rackOf("gg", 1, 0), 1, 0, rackOf("gg", 1, 0, 1, 0), true)
	// The new cable is behind all others, whatever its ends are.
	checkAddCable(t, rackOf("ggg", 1, 2), 0, 1, rackOf("ggg", 1, 2, 0, 1), true)
	checkAddCable(t, rackOf("ggg", 0, 2, 1, 2), 0, 1, rackOf("ggg", 0, 2, 1, 2, 0, 1), true)
	checkAddCable(t, impl.Rack{}, 0, 0, impl.Rack{}, false)
	checkAddCable(t, crowdedRack(), 0, 1, impl.Rack{}, false)
	checkAddCable(t, fullRack(), 2, 2, impl.Rack{}, false)
	r := rackOf("dd")
	for k := range 40 {
		checkAddCable(t, r, k%2, k%3/2, withCables(r, k%2, k%3/2), true)
		r, _ = impl.AddCable(r, k%2, k%3/2)
	}
	checkAddCable(t, r, 0, 1, impl.Rack{}, false)
}

func TestP10DropCable(t *testing.T) {
	for _, r := range manyRacks() {
		n := len(r.Cables)
		for k := -2; k < n+2; k++ {
			want, ok := droppedCable(r, k)
			checkDropCable(t, r, k, want, ok)
		}
		for _, k := range oddIndices(n) {
			checkDropCable(t, r, k, impl.Rack{}, false)
		}
	}
}

func TestP10NamedDroppedCables(t *testing.T) {
	r := rackOf("oggd", 0, 2, 3, 3, 0, 1, 0, 2, 3, 1)
	for k, want := range [][]int{{3, 3, 0, 1, 0, 2, 3, 1}, {0, 2, 0, 1, 0, 2, 3, 1}, {0, 2, 3, 3, 0, 2, 3, 1}, {0, 2, 3, 3, 0, 1, 3, 1}, {0, 2, 3, 3, 0, 1, 0, 2}} {
		checkDropCable(t, r, k, rackOf("oggd", want...), true)
	}
	checkDropCable(t, r, 5, impl.Rack{}, false)
	checkDropCable(t, r, -1, impl.Rack{}, false)
	checkDropCable(t, rackOf("gg", 0, 1), 0, rackOf("gg"), true)
	checkDropCable(t, rackOf("gg"), 0, impl.Rack{}, false)
	checkDropCable(t, impl.Rack{}, 0, impl.Rack{}, false)
	for _, r := range []impl.Rack{crowdedRack(), fullRack()} {
		rest, ok := impl.DropCable(r, 39)
		if !ok || len(rest.Cables) != 39 {
			t.Fatalf("DropCable(%v, 39) = %v, %v", r, rest, ok)
		}
		last := r.Cables[39]
		checkAddCable(t, rest, last.From, last.To, r, true)
	}
}

func TestP10DropModule(t *testing.T) {
	for _, r := range manyRacks() {
		n := len(r.Modules)
		for i := -2; i < n+2; i++ {
			want, ok := droppedModule(r, i)
			checkDropModule(t, r, i, want, ok)
		}
		for _, i := range oddIndices(n) {
			checkDropModule(t, r, i, impl.Rack{}, false)
		}
	}
}

// pickedRack has the modules of r with these indices, and cables with these ends.
func pickedRack(r impl.Rack, picked []int, ends ...int) impl.Rack {
	modules := []impl.Module{}
	for _, i := range picked {
		modules = append(modules, r.Modules[i])
	}
	return impl.Rack{Modules: modules, Cables: cablesOf(ends...)}
}

func TestP10NamedDroppedModules(t *testing.T) {
	// Modules before and behind each one feed it and are fed by it, a delay feeds itself, and a pair has two cables.
	r := rackOf("odgd+", 0, 2, 1, 1, 3, 2, 2, 4, 1, 0, 3, 3, 2, 3, 0, 4, 2, 4, 3, 1, 4, 1)
	checkDropModule(t, r, 0, pickedRack(r, []int{1, 2, 3, 4}, 0, 0, 2, 1, 1, 3, 2, 2, 1, 2, 1, 3, 2, 0, 3, 0), true)
	checkDropModule(t, r, 1, pickedRack(r, []int{0, 2, 3, 4}, 0, 1, 2, 1, 1, 3, 2, 2, 1, 2, 0, 3, 1, 3), true)
	checkDropModule(t, r, 2, pickedRack(r, []int{0, 1, 3, 4}, 1, 1, 1, 0, 2, 2, 0, 3, 2, 1, 3, 1), true)
	checkDropModule(t, r, 3, pickedRack(r, []int{0, 1, 2, 4}, 0, 2, 1, 1, 2, 3, 1, 0, 0, 3, 2, 3, 3, 1), true)
	checkDropModule(t, r, 4, pickedRack(r, []int{0, 1, 2, 3}, 0, 2, 1, 1, 3, 2, 1, 0, 3, 3, 2, 3, 3, 1), true)
	checkDropModule(t, r, 5, impl.Rack{}, false)
	checkDropModule(t, r, -1, impl.Rack{}, false)
	checkDropModule(t, rackOf("d", 0, 0, 0, 0), 0, impl.Rack{}, true)
	checkDropModule(t, rackOf("g"), 0, impl.Rack{}, true)
	checkDropModule(t, impl.Rack{}, 0, impl.Rack{}, false)
	checkDropModule(t, rackOf("gdg", 0, 1, 1, 2, 1, 1), 1, pickedRack(rackOf("gdg"), []int{0, 2}), true)
}

func TestP10SwapModule(t *testing.T) {
	for k, r := range manyRacks() {
		n := len(r.Modules)
		for i := range n {
			for _, m := range append(plainModules(), oddModules()...) {
				want, ok := swappedModule(r, i, m)
				checkSwap(t, r, i, m, want, ok)
			}
		}
		for _, i := range oddIndices(n) {
			checkSwap(t, r, i, plainModules()[k%16], impl.Rack{}, false)
		}
	}
}

func TestP10NamedSwaps(t *testing.T) {
	gain, delay := moduleAt('g', 7), moduleAt('d', 7)
	// A loop through one delay, which is swapped for a gain.
	loop := rackOf("gdx", 0, 1, 1, 2, 2, 0)
	checkSwap(t, loop, 1, gain, impl.Rack{}, false)
	checkSwap(t, loop, 1, delay, withModule(loop, 1, delay), true)
	checkSwap(t, loop, 0, gain, withModule(loop, 0, gain), true)
	checkSwap(t, rackOf("d", 0, 0), 0, gain, impl.Rack{}, false)
	// With two of them, one may be swapped, and back, but not both.
	two := rackOf("dd", 0, 1, 1, 0)
	one := withModule(two, 0, gain)
	checkSwap(t, two, 0, gain, one, true)
	checkSwap(t, one, 1, gain, impl.Rack{}, false)
	checkSwap(t, one, 1, delay, withModule(one, 1, delay), true)
	checkSwap(t, one, 0, two.Modules[0], two, true)
	both, _ := impl.SwapModule(one, 0, delay)
	checkSwap(t, both, 1, gain, withModule(withModule(two, 0, delay), 1, gain), true)
	// What has no loop may be swapped for anything.
	for i := range 16 {
		checkSwap(t, chainOf(16, true), i, gain, withModule(chainOf(16, true), i, gain), true)
		checkSwap(t, chainOf(16, true), i, delay, withModule(chainOf(16, true), i, delay), true)
		checkSwap(t, chainOf(16, true), i, impl.Module{}, impl.Rack{}, false)
	}
	checkSwap(t, impl.Rack{}, 0, gain, impl.Rack{}, false)
	checkSwap(t, rackOf("g"), 1, gain, impl.Rack{}, false)
	checkSwap(t, rackOf("g"), -1, gain, impl.Rack{}, false)
}

// TestP10EditsOfSmallRacks has racks with an order and without.
func TestP10EditsOfSmallRacks(t *testing.T) {
	gain, delay := moduleAt('g', 9), moduleAt('d', 9)
	for _, r := range smallRacks() {
		for _, m := range []impl.Module{gain, delay, {}} {
			want, ok := addedModule(r, m)
			checkAddModule(t, r, m, want, ok)
		}
		for i := -1; i <= len(r.Modules); i++ {
			want, ok := droppedModule(r, i)
			checkDropModule(t, r, i, want, ok)
			for _, m := range []impl.Module{gain, delay, {}} {
				want, ok = swappedModule(r, i, m)
				checkSwap(t, r, i, m, want, ok)
			}
			for k := -1; k <= len(r.Modules); k++ {
				want, ok = addedCable(r, i, k)
				checkAddCable(t, r, i, k, want, ok)
			}
		}
		for k := -1; k <= len(r.Cables); k++ {
			want, ok := droppedCable(r, k)
			checkDropCable(t, r, k, want, ok)
		}
	}
}
