package tests

import (
	"slices"
	"testing"

	"loop.example/g03223/impl"
)

// keptChanges are done in racks with two modules and two cables or more, and some of them are refused.
func keptChanges() []impl.Change {
	return changesOf(change(0, "swap 0 delay 1 1p0 0 1p1 0"), change(1, "cable 0 1"), change(1, "x"), change(1, "reset 0"), change(2, "cut 0"), change(2, "cut 40"), change(2, "swap 1 slicer 0 1p0 0 5"), change(3, "set 0 1p0 0"), change(9, "cut 0"))
}

func keptFaults() []impl.Fault {
	return faultsOf(mute, 0, 1, 2, stick, 1, 0, 3, flush, 0, 0, 500, stick, 0, 2, 2, mute, 1, 500, 500)
}

// changeFunctions are all functions of chapter 11 that make a rack of one.
func changeFunctions() map[string]func(r impl.Rack) (impl.Rack, bool) {
	type rack = impl.Rack
	input := samples(5, 6i, 7)
	changes := func(list []impl.Change, n int) func(r rack) (rack, bool) {
		return func(r rack) (rack, bool) {
			got, _, _, ok := impl.RunChanges(r, impl.Plug{}, input, list, n)
			return got, ok
		}
	}
	faults := func(list []impl.Fault, n int) func(r rack) (rack, bool) {
		return func(r rack) (rack, bool) {
			got, _, ok := impl.RunFaults(r, impl.Plug{Out: len(r.Modules) - 1}, input, list, n)
			return got, ok
		}
	}
	resumed := func(n int) func(r rack) (rack, bool) {
		return func(r rack) (rack, bool) {
			saves, _ := impl.SaveRuns(r, impl.Plug{}, input, 2, n)
			got, _, ok := impl.ResumeRun(saves, len(saves)-1, impl.Plug{}, input, 2, n)
			return got, ok
		}
	}
	return map[string]func(r rack) (rack, bool){
		"RunChanges with no changes":        changes(nil, 4),
		"RunChanges for no steps":           changes(keptChanges(), 0),
		"RunChanges":                        changes(keptChanges(), 5),
		"RunChanges with a change refused":  changes(change(1, "cut 40"), 3),
		"RunChanges with a cable":           changes(change(1, "cable 0 1"), 2),
		"RunChanges with a module reset":    changes(change(0, "reset 0"), 1),
		"RunChanges with a module replaced": changes(change(2, "swap 1 delay 0 1p0 0 1p1 0"), 3),
		"RunFaults with no faults":          faults(nil, 4),
		"RunFaults for no steps":            faults(keptFaults(), 0),
		"RunFaults for a step":              faults(keptFaults(), 1),
		"RunFaults":                         faults(keptFaults(), 6),
		"ResumeRun from the last step":      resumed(4),
		"ResumeRun":                         resumed(5),
		"ResumeRun from the first step":     resumed(1),
	}
}

func TestP10ChangesAndFaultsShareNoMemory(t *testing.T) {
	checkRackFunctions(t, changeFunctions())
	checkModulesOfRacks(t, changeFunctions())
}

// TestP10OutputsOfChangesAndFaultsShareNoMemory also has the stores of the racks that the same calls return.
func TestP10OutputsOfChangesAndFaultsShareNoMemory(t *testing.T) {
	type lists = [][]complex64
	changes := func(p impl.Plug, n int) func(r impl.Rack, input []complex64) lists {
		return func(r impl.Rack, input []complex64) lists {
			got, heard, _, _ := impl.RunChanges(r, p, input, keptChanges(), n)
			return append(storesOf(got), heard)
		}
	}
	faults := func(p impl.Plug, n int) func(r impl.Rack, input []complex64) lists {
		return func(r impl.Rack, input []complex64) lists {
			got, heard, _ := impl.RunFaults(r, p, input, keptFaults(), n)
			return append(storesOf(got), heard)
		}
	}
	resumed := func(k int, n int) func(r impl.Rack, input []complex64) lists {
		return func(r impl.Rack, input []complex64) lists {
			saves, _ := impl.SaveRuns(r, impl.Plug{}, input, 2, n)
			got, heard, _ := impl.ResumeRun(saves, k, impl.Plug{}, input, 2, n)
			return append(storesOf(got), heard)
		}
	}
	checkHearings(t, map[string]func(r impl.Rack, input []complex64) lists{
		"RunChanges": changes(impl.Plug{}, 5), "RunChanges without a plug": changes(impl.Plug{In: -1, Out: 1}, 4), "RunChanges for no steps": changes(impl.Plug{}, 0),
		"RunFaults": faults(impl.Plug{}, 5), "RunFaults without a plug": faults(impl.Plug{In: -1, Out: 1}, 4), "RunFaults for no steps": faults(impl.Plug{}, 0),
		"ResumeRun": resumed(0, 5), "ResumeRun behind the input": resumed(2, 5), "ResumeRun within the input": resumed(1, 6), "ResumeRun for no steps": resumed(2, 4),
	})
}

// roomyList returns a list with room behind it, in which there are others, and a function that reports whether all is as it was.
func roomyList[T comparable](list []T, others ...T) ([]T, func() bool) {
	n := len(list)
	list = slices.Concat(list, others)
	whole := slices.Clone(list)
	return list[:n], func() bool { return slices.Equal(list, whole) }
}

func roomyChanges(list []impl.Change) ([]impl.Change, func() bool) {
	return roomyList(list, impl.Change{At: 0, Line: "cut 0"}, impl.Change{At: 2, Line: "swap 0 sum"})
}

func roomyFaults(list []impl.Fault) ([]impl.Fault, func() bool) {
	return roomyList(list, faultsOf(mute, 0, 0, 500, stick, 1, 1, 500)...)
}

// TestP10ChangesAndFaultsAreLeftAlone gives all arguments with room behind them, in which there is something, and without.
func TestP10ChangesAndFaultsAreLeftAlone(t *testing.T) {
	changes := [][]impl.Change{nil, {}, keptChanges(), change(501, "cut 0"), change(-1, "cut 0"), make([]impl.Change, 30), make([]impl.Change, 31), slices.Repeat(change(1, "cable 0 1"), 29)}
	faults := [][]impl.Fault{nil, {}, keptFaults(), faultsOf(4, 0, 0, 1), faultsOf(mute, -1, 0, 1), slices.Repeat(keptFaults(), 4), slices.Repeat(keptFaults(), 5), faultsOf(stick, 0, 1, 2)}
	for i, made := range append(keptRacks(), append(badRacks()[:60], namedRacks()...)...) {
		r, same := roomyRack(made)
		input, sameInput := roomySamples(samples(3, 4-1i))
		tight, tightInput, p := tightRack(made), slices.Clip(samples(3, 4-1i)), impl.Plug{In: i%3 - 1}
		for k := range changes {
			list, sameList := roomyChanges(changes[k])
			a, x, done, one := impl.RunChanges(r, p, input, list, 4)
			b, y, doneToo, two := impl.RunChanges(tight, p, tightInput, slices.Clip(slices.Clone(changes[k])), 4)
			if one != two || !sameRack(a, b) || !sameSamples(x, y) || !slices.Equal(done, doneToo) || impl.AreChanges(list) != impl.AreChanges(slices.Clip(changes[k])) {
				t.Fatalf("RunChanges(%v, %v) or AreChanges depends on a capacity: %v, %v", made, changes[k], a, b)
			}
			if !same() || !sameInput() || !sameList() {
				t.Fatalf("RunChanges(%v, %v) changes what it is given, or what is behind it", made, changes[k])
			}
		}
		for k := range faults {
			list, sameList := roomyFaults(faults[k])
			other := slices.Clip(slices.Clone(faults[k]))
			a, x, one := impl.RunFaults(r, p, input, list, 4)
			b, y, two := impl.RunFaults(tight, p, tightInput, other, 4)
			if one != two || !sameRack(a, b) || !sameSamples(x, y) || impl.AreFaults(r, list) != impl.AreFaults(tight, other) {
				t.Fatalf("RunFaults(%v, %v) or AreFaults depends on a capacity: %v, %v", made, faults[k], a, b)
			}
			first, one := impl.FirstFault(r, p, input, list, 4)
			firstToo, two := impl.FirstFault(tight, p, tightInput, other, 4)
			if one != two || first != firstToo || !same() || !sameInput() || !sameList() {
				t.Fatalf("RunFaults, FirstFault or AreFaults of %v and %v changes what it is given, or what is behind it", made, faults[k])
			}
		}
		saves, one := impl.SaveRuns(r, p, input, 1+i%3, 4)
		savesToo, two := impl.SaveRuns(tight, p, tightInput, 1+i%3, 4)
		if one != two || !slices.Equal(saves, savesToo) || !same() || !sameInput() {
			t.Fatalf("SaveRuns(%v) depends on a capacity, or changes what it is given", made)
		}
	}
}

func TestP10DoneAndSavesShareNoMemory(t *testing.T) {
	for _, made := range keptRacks() {
		list, same := roomyChanges(keptChanges())
		_, _, done, _ := impl.RunChanges(made, impl.Plug{}, nil, list, 5)
		_, _, other, _ := impl.RunChanges(made, impl.Plug{}, nil, list, 5)
		want := slices.Clone(done)
		for k := range other[:cap(other)] {
			other[:cap(other)][k] = !other[:cap(other)][k]
		}
		if !slices.Equal(done, want) || !same() {
			t.Fatalf("two results of RunChanges(%v) share memory", made)
		}
		saves, _ := impl.SaveRuns(made, impl.Plug{}, nil, 2, 6)
		texts, _ := impl.SaveRuns(made, impl.Plug{}, nil, 2, 6)
		for k := range texts[:cap(texts)] {
			texts[:cap(texts)][k] = "x"
		}
		if !slices.Equal(saves, savedTexts(made, impl.Plug{}, nil, 2, 6)) {
			t.Fatalf("two results of SaveRuns(%v) share memory", made)
		}
		roomy, sameSaves := roomyList(saves, "sum\n", "gain 1p0\n")
		for k := range 6 {
			got, heard, one := impl.ResumeRun(roomy, k, impl.Plug{}, nil, 2, 20)
			gotToo, heardToo, two := impl.ResumeRun(slices.Clip(saves), k, impl.Plug{}, nil, 2, 20)
			if one != two || one != (k < 4) || !sameRack(got, gotToo) || !sameSamples(heard, heardToo) || !sameSaves() {
				t.Fatalf("ResumeRun from the save %d of %v depends on a capacity, or changes the saves", k, made)
			}
		}
	}
}

// TestP10ModulesThatAreSwappedInShareNoMemory swaps the same module into two places, in one run.
func TestP10ModulesThatAreSwappedInShareNoMemory(t *testing.T) {
	for _, text := range []string{"delay 1 1p0 0 1p1 0 3p0 0", "slicer 0 1p0 0 5 1p1 0 6"} {
		list := changesOf(change(0, "swap 0 "+text), change(0, "swap 1 "+text), change(1, "cable 0 1"), change(1, "swap 2 "+text))
		r, p := rackOf("dtg", 0, 1, 1, 2), impl.Plug{In: -1}
		for _, n := range []int{1, 2, 4} {
			got, _, _, ok := impl.RunChanges(r, p, nil, list, n)
			for i := range got.Modules {
				want := copyOfRack(got)
				scribbleModule(got.Modules[i])
				want.Modules[i] = copyOfModule(got.Modules[i])
				if !ok || !sameRack(got, want) {
					t.Fatalf("the module %d of %v, %v, has memory of another one", i, got, ok)
				}
			}
		}
	}
}

// TestP10RunsOfChapter11BeginAnew calls the functions again, with nothing kept from before.
func TestP10RunsOfChapter11BeginAnew(t *testing.T) {
	r, p, input := rackOf("odg+", 0, 1, 1, 2, 2, 1, 1, 3), impl.Plug{In: 2, Out: 3}, samples(1, 2i, 3)
	for range 3 {
		checkChanges(t, r, p, input, keptChanges(), 6)
		checkFaults(t, r, p, input, faultsOf(mute, 1, 1, 3, stick, 3, 2, 5), 6)
		checkRun(t, r, p, input, 6)
		checkFaults(t, r, p, input, nil, 6)
		checkSaves(t, r, p, input, 2, 6)
	}
}
