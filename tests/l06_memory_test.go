package tests

import (
	"slices"
	"testing"

	"loop.example/g03223/impl"
)

// roomyRack returns r with room behind all its slices, in which there is something, and a function that reports whether all is as it was.
func roomyRack(r impl.Rack) (impl.Rack, func() bool) {
	modules, cables := []impl.Module{}, slices.Concat(r.Cables, cablesOf(91, 92, 93, 94, 95, 96))
	unchanged := []func() bool{}
	for _, m := range append(slices.Clone(r.Modules), moduleAt('d', 1), moduleAt('t', 2), moduleAt('g', 3)) {
		roomy, same := roomyModule(m)
		modules, unchanged = append(modules, roomy), append(unchanged, same)
	}
	wholeModules, wholeCables := copyOfRack(impl.Rack{Modules: modules}).Modules, slices.Clone(cables)
	return impl.Rack{Modules: modules[:len(r.Modules)], Cables: cables[:len(r.Cables)]}, func() bool {
		for _, same := range unchanged {
			if !same() {
				return false
			}
		}
		return slices.EqualFunc(modules, wholeModules, sameModule) && slices.Equal(cables, wholeCables)
	}
}

// tightRack returns r with no room behind its slices.
func tightRack(r impl.Rack) impl.Rack {
	modules := []impl.Module{}
	for _, m := range r.Modules {
		modules = append(modules, tightModule(m))
	}
	return impl.Rack{Modules: slices.Clip(modules), Cables: slices.Clip(slices.Clone(r.Cables))}
}

// scribbleRack writes all over the rings and the tables of a rack, and then over its modules and cables, and over the room behind all of them.
func scribbleRack(r impl.Rack) {
	modules, cables := r.Modules[:cap(r.Modules)], r.Cables[:cap(r.Cables)]
	for i := range modules {
		scribbleModule(modules[i])
		modules[i] = impl.Module{Kind: 1234}
	}
	for k := range cables {
		cables[k] = impl.Cable{From: 1234, To: 1234}
	}
}

func scribbleInts(list []int) {
	for i := range list[:cap(list)] {
		list[:cap(list)][i] = 1234
	}
}

func roomyInts(list []int) ([]int, func() bool) {
	n := len(list)
	list = slices.Concat(list, []int{91, 92, 93})
	whole := slices.Clone(list)
	return list[:n], func() bool { return slices.Equal(list, whole) }
}

// rackFunctions are all functions that make a rack of one, with indices where something is changed.
func rackFunctions() map[string]func(r impl.Rack) (impl.Rack, bool) {
	type rack = impl.Rack
	return map[string]func(r rack) (rack, bool){
		"AddModule":                   func(r rack) (rack, bool) { a, _, ok := impl.AddModule(r, moduleAt('t', 4)); return a, ok },
		"AddModule of one of its own": func(r rack) (rack, bool) { a, _, ok := impl.AddModule(r, r.Modules[1]); return a, ok },
		"AddCable":                    func(r rack) (rack, bool) { return impl.AddCable(r, 1, 0) },
		"DropCable 0":                 func(r rack) (rack, bool) { return impl.DropCable(r, 0) },
		"DropCable 1":                 func(r rack) (rack, bool) { return impl.DropCable(r, 1) },
		"DropCable of the last one":   func(r rack) (rack, bool) { return impl.DropCable(r, len(r.Cables)-1) },
		"DropModule 0":                func(r rack) (rack, bool) { return impl.DropModule(r, 0) },
		"DropModule 1":                func(r rack) (rack, bool) { return impl.DropModule(r, 1) },
		"DropModule of the last one":  func(r rack) (rack, bool) { return impl.DropModule(r, len(r.Modules)-1) },
		"SwapModule 0":                func(r rack) (rack, bool) { return impl.SwapModule(r, 0, moduleAt('d', 4)) },
		"SwapModule by its own":       func(r rack) (rack, bool) { return impl.SwapModule(r, 0, r.Modules[1]) },
		"SwapModule by itself":        func(r rack) (rack, bool) { return impl.SwapModule(r, 1, r.Modules[1]) },
		"PermuteRack":                 func(r rack) (rack, bool) { return impl.PermuteRack(r, someOrders(len(r.Modules))[1]) },
		"PermuteRack as it is":        func(r rack) (rack, bool) { return impl.PermuteRack(r, someOrders(len(r.Modules))[0]) },
	}
}

// keptRacks have rings and tables, and for all functions above something to do.
func keptRacks() []impl.Rack {
	return []impl.Rack{
		rackOf("dtd", 0, 1, 1, 2, 2, 0), rackOf("tddg", 3, 0, 0, 1, 1, 1, 2, 0), rackOf("gdtdtdtd", 0, 1, 3, 3, 7, 0, 2, 4, 4, 6), rackOf("ddddddddddddddd", 0, 1, 1, 0, 14, 0, 0, 14), rackOf("ottt", 0, 3, 0, 2),
	}
}

func TestP10RacksShareNoMemory(t *testing.T) { checkRackFunctions(t, rackFunctions()) }

// checkRackFunctions changes what functions that make a rack of one are given, and what they return.
func checkRackFunctions(t *testing.T, functions map[string]func(r impl.Rack) (impl.Rack, bool)) {
	t.Helper()
	for name, f := range functions {
		done := 0
		for _, made := range keptRacks() {
			r, same := roomyRack(made)
			got, ok := f(r)
			if !same() {
				t.Fatalf("%s of %v changes its argument, or what is behind it", name, made)
			}
			if !ok {
				continue
			}
			done++
			want := copyOfRack(got)
			again, _ := f(r)
			scribbleRack(again)
			if !same() || !sameRack(got, want) {
				t.Fatalf("%s of %v: the result has memory of the argument, or of an earlier result", name, made)
			}
			scribbleRack(r)
			if !sameRack(got, want) {
				t.Fatalf("%s of %v: the argument has memory of the result", name, made)
			}
		}
		if done < 3 {
			t.Errorf("%s has %d results", name, done)
		}
	}
}

func TestP10ModulesOfRacksShareNoMemory(t *testing.T) {
	checkModulesOfRacks(t, rackFunctions())
}

// checkModulesOfRacks has racks all of whose modules share their memory, which those of results do not.
func checkModulesOfRacks(t *testing.T, functions map[string]func(r impl.Rack) (impl.Rack, bool)) {
	t.Helper()
	for name, f := range functions {
		for _, shared := range []impl.Module{delayOf(1, 2i, 3, 4), slicerOf(5, 6, 7i)} {
			r := impl.Rack{Modules: []impl.Module{shared, shared, shared, shared}, Cables: cablesOf(2, 3)}
			if shared.Kind == 4 {
				r = withCables(r, 3, 2, 1, 0)
			}
			got, ok := f(r)
			if !ok && shared.Kind == 4 {
				t.Fatalf("%s of %v fails", name, r)
			}
			for i := range got.Modules {
				want := copyOfRack(got)
				scribbleModule(got.Modules[i])
				want.Modules[i] = copyOfModule(got.Modules[i])
				if !sameRack(got, want) {
					t.Fatalf("%s of %v: the module %d of the result has memory of another one", name, r, i)
				}
			}
			if len(shared.Ring.Store) > 0 && shared.Ring.Store[0] == 1234 || len(shared.Table.Points) > 0 && shared.Table.Points[0] == 1234 {
				t.Fatalf("%s: the result has memory of the argument", name)
			}
		}
	}
}

// TestP10NewModulesOfRacksShareNoMemory changes the module that is added or swapped in, and then the one in the result.
func TestP10NewModulesOfRacksShareNoMemory(t *testing.T) {
	for _, made := range append(plainModules(), delayOf(7, someSamples(16)...), impl.Module{Kind: 6, Table: lineTable(64), Count: 5}) {
		m, same := roomyModule(made)
		added, i, one := impl.AddModule(rackOf("dt"), m)
		swapped, two := impl.SwapModule(rackOf("dt"), 1, m)
		if !one || !two || !same() {
			t.Fatalf("AddModule or SwapModule of %v fails, or changes it", made)
		}
		scribbleModule(added.Modules[i])
		if !same() || !sameModule(swapped.Modules[1], made) {
			t.Fatalf("the module %v that was added shares memory", made)
		}
		scribbleModule(m)
		if !sameModule(swapped.Modules[1], made) {
			t.Fatalf("the module %v that was swapped in shares memory", made)
		}
	}
}

func TestP10OrdersAreLeftAlone(t *testing.T) {
	for _, r := range manyRacks() {
		for _, made := range append(someOrders(len(r.Modules)), nil, []int{0, 0}, []int{-1, 5, 2}) {
			order, same := roomyInts(made)
			p, ok := impl.PermuteRack(r, order)
			want := copyOfRack(p)
			if !same() {
				t.Fatalf("PermuteRack(%v, %v) changes the order", r, made)
			}
			scribbleInts(order)
			if !sameRack(p, want) {
				t.Fatalf("PermuteRack(%v, %v), %v, has memory of the order", r, made, ok)
			}
		}
	}
}

func TestP10ListsOfRacksShareNoMemory(t *testing.T) {
	for _, made := range cabledRacks() {
		r, same := roomyRack(made)
		order, _ := impl.OrderOf(r)
		wantOrder := slices.Clone(order)
		other, _ := impl.OrderOf(r)
		scribbleInts(other)
		for i := range r.Modules {
			feeds, _ := impl.FeedsOf(r, i)
			reach, _ := impl.ReachOf(r, i)
			wantFeeds, wantReach := slices.Clone(feeds), slices.Clone(reach)
			feedsToo, _ := impl.FeedsOf(r, i)
			reachToo, _ := impl.ReachOf(r, i)
			scribbleInts(feedsToo)
			scribbleInts(reachToo)
			if !slices.Equal(feeds, wantFeeds) || !slices.Equal(reach, wantReach) {
				t.Fatalf("two results for %v and %d share memory", made, i)
			}
		}
		if !slices.Equal(order, wantOrder) || !same() {
			t.Fatalf("two orders of %v share memory, or it was changed", made)
		}
	}
}

func TestP10JacksShareNoMemory(t *testing.T) {
	for _, made := range cabledRacks() {
		r, same := roomyRack(made)
		jacks, other := impl.JacksOf(r), impl.JacksOf(r)
		for k := range jacks {
			want := [][]int{}
			for i, group := range jacks {
				want = append(want, slices.Clone(group))
				if i == k {
					scribbleInts(want[k])
				}
			}
			scribbleInts(jacks[k])
			if !slices.EqualFunc(jacks, want, slices.Equal) {
				t.Fatalf("two groups of %v share memory", made)
			}
		}
		if again := impl.JacksOf(r); !slices.EqualFunc(other, again, slices.Equal) || !same() {
			t.Fatalf("two results of JacksOf(%v) share memory, or it was changed", made)
		}
	}
}

// TestP10RacksAreLeftAlone also checks that no result depends on what is behind an argument.
func TestP10RacksAreLeftAlone(t *testing.T) {
	for _, made := range append(badRacks(), namedRacks()...) {
		r, same := roomyRack(made)
		tight, sum := tightRack(made), impl.NewSum()
		if impl.IsRack(r) != impl.IsRack(tight) || !slices.EqualFunc(impl.JacksOf(r), impl.JacksOf(tight), slices.Equal) {
			t.Fatalf("IsRack or JacksOf(%v) depends on a capacity", made)
		}
		for _, i := range []int{-1, 0, 1, len(r.Modules) - 1, len(r.Modules), len(r.Cables) - 1} {
			for name, f := range map[string]func(r impl.Rack) (impl.Rack, bool){
				"AddModule":  func(r impl.Rack) (impl.Rack, bool) { a, _, ok := impl.AddModule(r, sum); return a, ok },
				"AddCable":   func(r impl.Rack) (impl.Rack, bool) { return impl.AddCable(r, i, len(r.Modules)-1) },
				"DropCable":  func(r impl.Rack) (impl.Rack, bool) { return impl.DropCable(r, i) },
				"DropModule": func(r impl.Rack) (impl.Rack, bool) { return impl.DropModule(r, i) },
				"SwapModule": func(r impl.Rack) (impl.Rack, bool) { return impl.SwapModule(r, i, sum) },
			} {
				a, one := f(r)
				b, two := f(tight)
				if one != two || !sameRack(a, b) {
					t.Fatalf("%s(%v, %d) depends on a capacity: %v, %v", name, made, i, a, b)
				}
			}
			impl.FeedsOf(r, i)
			impl.ReachOf(r, i)
			impl.PermuteRack(r, []int{i})
		}
		if !same() {
			t.Fatalf("%v, or what is behind it, was changed", made)
		}
	}
}
