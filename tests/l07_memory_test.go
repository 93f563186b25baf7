package tests

import (
	"slices"
	"testing"

	"loop.example/g03223/impl"
)

// runFunctions are all functions of chapter 8 that make a rack of one.
func runFunctions() map[string]func(r impl.Rack) (impl.Rack, bool) {
	type rack = impl.Rack
	run := func(in int, n int) func(r rack) (rack, bool) {
		return func(r rack) (rack, bool) {
			got, _, ok := impl.RunRack(r, impl.Plug{In: in}, samples(5, 6i, 7), n)
			return got, ok
		}
	}
	cut := func(cuts ...int) func(r rack) (rack, bool) {
		return func(r rack) (rack, bool) {
			got, _, ok := impl.RunCut(r, impl.Plug{Out: len(r.Modules) - 1}, samples(5, 6i, 7), cuts)
			return got, ok
		}
	}
	return map[string]func(r rack) (rack, bool){
		"RunRack for no steps":              run(0, 0),
		"RunRack for a step":                run(0, 1),
		"RunRack for four steps":            run(1, 4),
		"RunRack without a plug":            run(-1, 40),
		"RunCut with no cuts":               cut(),
		"RunCut in a block with no steps":   cut(0),
		"RunCut in blocks with and without": cut(2, 0, 3, 1, 0),
		"ResetRack":                         impl.ResetRack,
	}
}

func TestP10RunsShareNoMemory(t *testing.T) {
	checkRackFunctions(t, runFunctions())
	checkModulesOfRacks(t, runFunctions())
}

// TestP10RingsAndTablesOfRunsShareNoMemory changes a ring and a table of the result, and then of the argument, and nothing else.
func TestP10RingsAndTablesOfRunsShareNoMemory(t *testing.T) {
	for name, f := range runFunctions() {
		r := rackOf("dtg", 0, 1, 1, 2)
		got, ok := f(r)
		if !ok {
			t.Fatalf("%s fails", name)
		}
		before, after := copyOfRack(r), copyOfRack(got)
		got.Modules[0].Ring.Store[1], got.Modules[1].Table.Points[0], got.Modules[1].Table.Labels[0], got.Cables[0].To = 77, 78, 79, 2
		if !sameRack(r, before) {
			t.Fatalf("%s: the rack that was given has memory of the result", name)
		}
		again, _ := f(r)
		r.Modules[0].Ring.Store[1], r.Modules[1].Table.Points[0], r.Modules[1].Table.Labels[0], r.Cables[0].To = 87, 88, 89, 2
		if !sameRack(again, after) {
			t.Fatalf("%s: the result has memory of the rack that was given", name)
		}
	}
}

// hearings are all functions whose results have outputs, one list of them or several.
func hearings() map[string]func(r impl.Rack, input []complex64) [][]complex64 {
	type rack = impl.Rack
	run := func(p impl.Plug, n int) func(r rack, input []complex64) [][]complex64 {
		return func(r rack, input []complex64) [][]complex64 {
			got, heard, _ := impl.RunRack(r, p, input, n)
			return append(storesOf(got), heard)
		}
	}
	cut := func(p impl.Plug, cuts ...int) func(r rack, input []complex64) [][]complex64 {
		return func(r rack, input []complex64) [][]complex64 {
			got, heard, _ := impl.RunCut(r, p, input, cuts)
			return append(storesOf(got), heard)
		}
	}
	trace := func(n int) func(r rack, input []complex64) [][]complex64 {
		return func(r rack, input []complex64) [][]complex64 {
			traces, _ := impl.TraceRack(r, n)
			return traces
		}
	}
	return map[string]func(r rack, input []complex64) [][]complex64{
		"RunRack":                  run(impl.Plug{}, 6),
		"RunRack for two steps":    run(impl.Plug{Out: 1}, 2),
		"RunRack without a plug":   run(impl.Plug{In: -1}, 5),
		"RunRack for no steps":     run(impl.Plug{}, 0),
		"RunCut in one block":      cut(impl.Plug{}, 5),
		"RunCut in several blocks": cut(impl.Plug{In: 1}, 1, 0, 3, 2),
		"RunCut with no cuts":      cut(impl.Plug{}),
		"TraceRack":                trace(7),
		"TraceRack for a step":     trace(1),
		"TraceRack for no steps":   trace(0),
		"TellRack": func(r rack, input []complex64) [][]complex64 {
			_, told, _ := impl.TellRack(r)
			return [][]complex64{told}
		},
	}
}

// storesOf are all samples of rings and tables of a rack.
func storesOf(r impl.Rack) [][]complex64 {
	list := [][]complex64{}
	for _, m := range r.Modules {
		list = append(list, m.Ring.Store, m.Table.Points)
	}
	return list
}

func copyOfLists(lists [][]complex64) [][]complex64 {
	copies := [][]complex64{}
	for _, list := range lists {
		copies = append(copies, slices.Clone(list))
	}
	return copies
}

func TestP10OutputsShareNoMemory(t *testing.T) { checkHearings(t, hearings()) }

// checkHearings changes one list of a result after the other, and also what was given.
func checkHearings(t *testing.T, functions map[string]func(r impl.Rack, input []complex64) [][]complex64) {
	t.Helper()
	for name, f := range functions {
		for _, made := range keptRacks() {
			r, same := roomyRack(made)
			input, sameInput := roomySamples(samples(3, 4-1i, 5i))
			lists, other := f(r, input), f(r, input)
			if !same() || !sameInput() {
				t.Fatalf("%s of %v changes what it is given, or what is behind it", name, made)
			}
			want := copyOfLists(lists)
			for i := range lists {
				scribbleSamples(lists[i])
				want[i] = slices.Clone(lists[i])
				if !slices.EqualFunc(lists, want, sameSamples) {
					t.Fatalf("%s of %v: the list %d of the result has memory of another one", name, made, i)
				}
			}
			if !same() || !sameInput() || !slices.EqualFunc(other, f(r, input), sameSamples) {
				t.Fatalf("%s of %v: the result has memory of what is given, or of another result", name, made)
			}
			want = copyOfLists(other)
			scribbleRack(r)
			scribbleSamples(input)
			if !slices.EqualFunc(other, want, sameSamples) {
				t.Fatalf("%s of %v: what is given has memory of the result", name, made)
			}
		}
	}
}

func TestP10CutsAreLeftAlone(t *testing.T) {
	r := rackOf("dtg", 0, 1, 1, 2)
	for _, made := range [][]int{nil, {0}, {3, 0, 2}, {501}, {-1, 4}, make([]int, 51)} {
		cuts, same := roomyInts(made)
		got, heard, ok := impl.RunCut(r, impl.Plug{}, samples(1, 2), cuts)
		tight, heardToo, okToo := impl.RunCut(r, impl.Plug{}, samples(1, 2), slices.Clip(slices.Clone(made)))
		if !same() || ok != okToo || !sameRack(got, tight) || !sameSamples(heard, heardToo) {
			t.Fatalf("RunCut by %d changes the cuts, or depends on a capacity", made)
		}
	}
}

func TestP10TellersShareNoMemory(t *testing.T) {
	for _, made := range append(keptRacks(), fullRack(), rackOf("oxtmh")) {
		r, same := roomyRack(made)
		tellers, told, _ := impl.TellRack(r)
		want, wantTold := slices.Clone(tellers), slices.Clone(told)
		other, otherTold, _ := impl.TellRack(r)
		scribbleInts(other)
		scribbleSamples(otherTold)
		if !slices.Equal(tellers, want) || !sameSamples(told, wantTold) || !same() {
			t.Fatalf("two results of TellRack(%v) share memory, or it was changed", made)
		}
	}
}

// TestP10RunsLeaveRacksAlone has racks that are not valid, too, and checks that no result depends on what is behind an argument.
func TestP10RunsLeaveRacksAlone(t *testing.T) {
	for _, made := range append(badRacks(), runRacks()...) {
		r, same := roomyRack(made)
		input, sameInput := roomySamples(samples(3, 4-1i))
		tight, plug := tightRack(made), impl.Plug{In: len(made.Modules) - 1}
		a, x, one := impl.RunRack(r, plug, input, 4)
		b, y, two := impl.RunRack(tight, plug, slices.Clip(slices.Clone(input)), 4)
		if one != two || !sameRack(a, b) || !sameSamples(x, y) {
			t.Fatalf("RunRack(%v) depends on a capacity: %v, %v", made, a, b)
		}
		a, x, one = impl.RunCut(r, plug, input, []int{1, 3})
		b, y, two = impl.RunCut(tight, plug, slices.Clip(slices.Clone(input)), []int{1, 3})
		if one != two || !sameRack(a, b) || !sameSamples(x, y) {
			t.Fatalf("RunCut(%v) depends on a capacity: %v, %v", made, a, b)
		}
		traces, _ := impl.TraceRack(r, 4)
		tracesToo, _ := impl.TraceRack(tight, 4)
		a, _ = impl.ResetRack(r)
		b, _ = impl.ResetRack(tight)
		if !slices.EqualFunc(traces, tracesToo, sameSamples) || !sameRack(a, b) || !impl.SameRacks(r, tight) || !impl.SameRacks(tight, r) {
			t.Fatalf("TraceRack, ResetRack or SameRacks of %v depends on a capacity", made)
		}
		impl.QuietFrom(r, plug, input, 4)
		impl.TellRack(r)
		if !same() || !sameInput() {
			t.Fatalf("%v, the input, or what is behind them, was changed", made)
		}
	}
}
