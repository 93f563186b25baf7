package tests

import (
	"math"
	"slices"
	"testing"

	"loop.example/g03223/impl"
)

func checkSame(t *testing.T, a impl.Module, b impl.Module, want bool) {
	t.Helper()
	if impl.SameModules(a, b) != want || impl.SameModules(b, a) != want {
		t.Fatalf("SameModules(%v, %v) is not %v", a, b, want)
	}
}

// manyModules are valid ones and others, many of which differ in little.
func manyModules() []impl.Module {
	list := plainModules()
	for _, m := range []impl.Module{{}, {Kind: 3, Level: -2.5}, delayOf(2, 1, 2i, 3, 4), {Kind: 8, Count: 5, Left: 3, State: 7i}} {
		for _, name := range fieldNames() {
			list = append(list, oddFields(m, name)...)
		}
	}
	for i, m := range badModules() {
		if i%97 == 0 {
			list = append(list, m)
		}
	}
	return list
}

func TestP10SameModules(t *testing.T) {
	list := manyModules()
	same := 0
	for i, a := range list {
		checkSame(t, a, copyOfModule(a), true)
		for _, b := range list[:i] {
			want := sameModule(a, b)
			checkSame(t, a, b, want)
			if want {
				same++
			}
		}
	}
	if len(list) < 500 || same < 20 {
		t.Errorf("%d modules, of which %d pairs are the same", len(list), same)
	}
}

func TestP10SameModulesThatAreValid(t *testing.T) {
	good := goodModules()
	for i, m := range good {
		checkSame(t, m, copyOfModule(m), true)
		other := good[(i*37+11)%len(good)]
		checkSame(t, m, other, sameModule(m, other))
	}
	for i := range good[1:] {
		checkSame(t, good[i], good[i+1], sameModule(good[i], good[i+1]))
	}
}

// TestP10SameFields changes one field of a module that has something in all of them.
func TestP10SameFields(t *testing.T) {
	type module = impl.Module
	full := module{Kind: 3, Turn: 1 - 2i, State: 3i, Level: 4, Ring: ringOf(3, 1, 5, 6, 7), Table: tableOf(8, 9i), Count: 10, Left: 11}
	for i, change := range []func(m *module){
		func(m *module) { m.Kind = 4 }, func(m *module) { m.Kind = 1<<32 + 3 }, func(m *module) { m.Kind = 0 },
		func(m *module) { m.Turn = 2 - 2i }, func(m *module) { m.Turn = 1 + 2i }, func(m *module) { m.Turn = complex(1, -2.0000002) }, func(m *module) { m.Turn = complex(notANumber(), -2) },
		func(m *module) { m.State = -3i }, func(m *module) { m.State = complex(minusZero(), 3) }, func(m *module) { m.State = 3 + 3i }, func(m *module) { m.State = 0 },
		func(m *module) { m.Level = -4 }, func(m *module) { m.Level = notANumber() }, func(m *module) { m.Level = 0 }, func(m *module) { m.Level = 4.0000005 },
		func(m *module) { m.Ring.At = 2 }, func(m *module) { m.Ring.At = 1<<32 + 1 }, func(m *module) { m.Ring.Count = 2 }, func(m *module) { m.Ring.Count = -3 }, func(m *module) { m.Ring.Store[0] = 8 }, func(m *module) { m.Ring.Store[2] = complex(6, minusZero()) },
		func(m *module) { m.Ring.Store = m.Ring.Store[:2] }, func(m *module) { m.Ring.Store = append(m.Ring.Store, 0) }, func(m *module) { m.Ring.Store = nil }, func(m *module) { slices.Reverse(m.Ring.Store) },
		func(m *module) { m.Table.Points[1] = 8i }, func(m *module) { m.Table.Points[0] = complex(8, minusZero()) }, func(m *module) { m.Table.Labels[0]++ }, func(m *module) { m.Table.Labels[1] = -m.Table.Labels[1] },
		func(m *module) { m.Table.Points = m.Table.Points[:1] }, func(m *module) { m.Table.Labels = m.Table.Labels[:1] }, func(m *module) { m.Table.Labels = append(m.Table.Labels, 0) }, func(m *module) { m.Table.Points = nil }, func(m *module) { m.Table.Labels = nil },
		func(m *module) { slices.Reverse(m.Table.Points) }, func(m *module) { slices.Reverse(m.Table.Labels) }, func(m *module) { m.Table = impl.Table{} }, func(m *module) { m.Ring = impl.Ring{} },
		func(m *module) { m.Count = -10 }, func(m *module) { m.Count = 1<<32 + 10 }, func(m *module) { m.Left = 10 }, func(m *module) { m.Left = math.MinInt + 11 }, func(m *module) { m.Count, m.Left = m.Left, m.Count },
	} {
		other := copyOfModule(full)
		change(&other)
		if sameModule(full, other) {
			t.Fatalf("the change %d changes nothing", i)
		}
		checkSame(t, full, other, false)
		checkSame(t, other, copyOfModule(other), true)
	}
	checkSame(t, full, copyOfModule(full), true)
}

// TestP10SameNumbers puts pairs of numbers in all places of modules that have some.
func TestP10SameNumbers(t *testing.T) {
	zero := minusZero()
	nans := []float32{notANumber(), math.Float32frombits(0x7f800001), math.Float32frombits(0xff800001), math.Float32frombits(0xffffffff), math.Float32frombits(0x7fffffff), math.Float32frombits(0xffc00000)}
	numbers := append(nans, 0, zero, 1, -1, 0x1p-149, -0x1p-149, infinity(1), infinity(-1), greatest)
	type module = impl.Module
	for _, place := range []func(x float32) module{
		func(x float32) module { return module{Kind: 1, Turn: complex(x, 1)} }, func(x float32) module { return module{Kind: 1, Turn: complex(1, x)} }, func(x float32) module { return module{Kind: 2, State: complex(x, 1)} }, func(x float32) module { return module{Kind: 8, State: complex(1, x)} },
		impl.NewGain, func(x float32) module { return module{Kind: 7, Level: x} }, func(x float32) module { return delayOf(1, 2, complex(x, 1)) }, func(x float32) module { return delayOf(1, complex(1, x), 2) },
		func(x float32) module { return slicerOf(3, complex(x, 1), 2) }, func(x float32) module { return slicerOf(3, 1, complex(2, x)) }, func(x float32) module { return module{Kind: 5, Turn: complex(x, x), Level: x} },
	} {
		for _, x := range numbers {
			for _, y := range numbers {
				checkSame(t, place(x), place(y), sameSingle(x, y))
			}
		}
		for _, x := range nans {
			checkSame(t, place(x), place(nans[0]), true)
		}
		checkSame(t, place(0), place(zero), false)
	}
	// NaN in one part says nothing about the other one.
	checkSame(t, module{Turn: complex(nans[0], 1)}, module{Turn: complex(nans[1], 2)}, false)
	checkSame(t, module{State: complex(0, nans[0])}, module{State: complex(zero, nans[0])}, false)
	checkSame(t, module{State: complex(nans[2], 1)}, module{State: complex(1, nans[2])}, false)
}

func TestP10SameModulesWithNothing(t *testing.T) {
	nothing := impl.Module{Kind: 5, Ring: impl.Ring{Store: []complex64{}}, Table: impl.Table{Points: []complex64{}, Labels: []int{}}}
	checkSame(t, nothing, impl.NewSum(), true)
	checkSame(t, impl.Module{}, impl.Module{}, true)
	checkSame(t, impl.Module{}, nothing, false)
	if !impl.IsModule(nothing) {
		t.Error("a sum with empty slices is not valid")
	}
	checkStep(t, nothing, 5, impl.NewSum(), 5)
}
