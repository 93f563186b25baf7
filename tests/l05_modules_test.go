package tests

import (
	"math"
	"slices"
	"testing"

	"loop.example/g03223/impl"
)

func sameModule(a impl.Module, b impl.Module) bool {
	return a.Kind == b.Kind && samePoint(a.Turn, b.Turn) && samePoint(a.State, b.State) && sameSingle(a.Level, b.Level) &&
		sameRing(a.Ring, b.Ring) && sameTable(a.Table, b.Table) && a.Count == b.Count && a.Left == b.Left
}

// noModule reports whether m is the zero value.
func noModule(m impl.Module) bool { return sameModule(m, impl.Module{}) }

func copyOfTable(t impl.Table) impl.Table {
	return impl.Table{Points: slices.Clone(t.Points), Labels: slices.Clone(t.Labels)}
}

func copyOfModule(m impl.Module) impl.Module {
	m.Ring, m.Table = copyOfRing(m.Ring), copyOfTable(m.Table)
	return m
}

// namedFields are the fields that chapter 6 names for a kind.
func namedFields(kind int) []string {
	switch kind {
	case 1, 2:
		return []string{"Turn", "State"}
	case 3, 7:
		return []string{"Level"}
	case 4:
		return []string{"Ring"}
	case 6:
		return []string{"Table", "Count"}
	case 8:
		return []string{"State", "Count", "Left"}
	}
	return nil
}

// filledFields are the fields that are not zero values.
func filledFields(m impl.Module) []string {
	list := []string{}
	for _, field := range []struct {
		name string
		zero bool
	}{
		{"Turn", samePoint(m.Turn, 0)}, {"State", samePoint(m.State, 0)}, {"Level", sameSingle(m.Level, 0)},
		{"Ring", noRing(m.Ring)}, {"Table", noTable(m.Table)}, {"Count", m.Count == 0}, {"Left", m.Left == 0},
	} {
		if !field.zero {
			list = append(list, field.name)
		}
	}
	return list
}

// validTable is what IsTable should return.
func validTable(t impl.Table) bool {
	if len(t.Points) != len(t.Labels) || len(t.Points) > 64 {
		return false
	}
	for i, z := range t.Points {
		if !finitePoint(z) || placeOf(t.Points, z) != i {
			return false
		}
	}
	return true
}

// validModule is what IsModule should return.
func validModule(m impl.Module) bool {
	for _, name := range filledFields(m) {
		if !slices.Contains(namedFields(m.Kind), name) {
			return false
		}
	}
	switch m.Kind {
	case 1, 2, 3, 5:
		return true
	case 4:
		return validRing(m.Ring) && m.Ring.Count == len(m.Ring.Store)
	case 6:
		return validTable(m.Table)
	case 7:
		return m.Level >= 0 && !math.Signbit(float64(m.Level))
	case 8:
		return m.Count >= 1 && m.Count <= 100 && m.Left >= 0 && m.Left <= m.Count-1
	}
	return false
}

// allLevels are levels that a gain may have.
func allLevels() []float32 {
	list := append(notFinite(), 0, minusZero(), greatest, -greatest)
	for _, x := range []float32{1, 0.5, 2, 0.1, 0x1p-126, 0x1.fffffcp-127, 0x1p-149, 1e30, 1e-30} {
		list = append(list, x, -x)
	}
	return list
}

// goodSizes are levels that a meter may have.
func goodSizes() []float32 {
	return []float32{0, 0x1p-149, 0x1p-126, 1e-30, 1, 1.5, 2, 5, 1e30, greatest, infinity(1)}
}

func allCounts() []int {
	return []int{0, 1, -1, 7, 100, -2147483648, 1 << 32, 16777217, math.MaxInt, math.MinInt}
}

// oddKinds are the kinds of no module.
func oddKinds() []int {
	const most, least = math.MaxInt, math.MinInt
	list := []int{0, most, least, 1<<32 + 1, 1<<32 + 8, 1<<32 - 1, -1 << 32, 1 - 1<<32, 1<<62 + 3, 256, 257, 264, 1<<16 + 5}
	for k := 1; k <= 20; k++ {
		list = append(list, -k, k+8, most-k, least+k)
	}
	return list
}

func delayOf(at int, items ...complex64) impl.Module {
	return impl.Module{Kind: 4, Ring: ringOf(len(items), at, items...)}
}

func slicerOf(label int, points ...complex64) impl.Module {
	return impl.Module{Kind: 6, Table: tableOf(points...), Count: label}
}

// holds are of some counts, at each Left.
func holds(state complex64) []impl.Module {
	list := []impl.Module{}
	for _, count := range []int{1, 2, 3, 10, 99, 100} {
		for left := range count {
			list = append(list, impl.Module{Kind: 8, State: state, Count: count, Left: left})
		}
	}
	return list
}

// goodModules are of all kinds, with all sorts of numbers in the fields of the kind.
func goodModules() []impl.Module {
	type module = impl.Module
	list := []module{{Kind: 5}, {Kind: 5, Ring: impl.Ring{Store: []complex64{}}, Table: impl.Table{Points: []complex64{}, Labels: []int{}}}}
	for _, turn := range samplesOfAllSorts() {
		for _, state := range samplesOfAllSorts() {
			list = append(list, module{Kind: 1, Turn: turn, State: state}, module{Kind: 2, Turn: turn, State: state})
		}
		list = append(list, holds(turn)...)
	}
	for _, level := range allLevels() {
		list = append(list, module{Kind: 3, Level: level})
	}
	for _, level := range goodSizes() {
		list = append(list, module{Kind: 7, Level: level})
	}
	for n := 1; n <= 16; n++ {
		for at := range n {
			list = append(list, delayOf(at, make([]complex64, n)...), delayOf(at, someSamples(n)...))
		}
	}
	for _, z := range samplesOfAllSorts() {
		list = append(list, delayOf(0, z), delayOf(1, 3, z))
	}
	for _, table := range goodTables() {
		for _, count := range allCounts() {
			list = append(list, module{Kind: 6, Table: table, Count: count})
		}
	}
	return list
}

// plainModules are a few of each kind.
func plainModules() []impl.Module {
	type module = impl.Module
	return []module{
		{Kind: 1}, {Kind: 1, Turn: 1i, State: 2 - 3i}, {Kind: 2}, {Kind: 2, Turn: complex(0.6, 0.8), State: 1}, {Kind: 3}, {Kind: 3, Level: -2.5},
		delayOf(0, 0), delayOf(2, 1, 2i, 3, 4), {Kind: 5}, {Kind: 6}, slicerOf(-1, 1, -1, 2i), {Kind: 7}, {Kind: 7, Level: 3},
		{Kind: 8, Count: 1}, {Kind: 8, Count: 5, Left: 3, State: 7i}, {Kind: 8, Count: 100, State: 1, Left: 99},
	}
}

func fieldNames() []string {
	return []string{"Turn", "State", "Level", "Ring", "Table", "Count", "Left"}
}

// oddFields return m with several things in the field of this name, none of which is the zero value.
func oddFields(m impl.Module, name string) []impl.Module {
	list := []impl.Module{}
	switch name {
	case "Turn":
		for _, m.Turn = range notZeros() {
			list = append(list, m)
		}
	case "State":
		for _, m.State = range notZeros() {
			list = append(list, m)
		}
	case "Level":
		for _, m.Level = range allLevels() {
			if !sameSingle(m.Level, 0) {
				list = append(list, m)
			}
		}
	case "Ring":
		for _, m.Ring = range []impl.Ring{ringOf(1, 0), ringOf(1, 0, 5), ringOf(2, 1, 5i), ringOf(16, 3, someSamples(16)...), {At: 1}, {At: -1}, {Count: 1}, {Count: -1}, {At: 1 << 32}, {Count: math.MinInt}, ringOf(17, 0)} {
			list = append(list, m)
		}
	case "Table":
		for _, m.Table = range []impl.Table{tableOf(0), tableOf(1, 2), {Points: []complex64{0}}, {Labels: []int{0}}, {Points: []complex64{1, 1}, Labels: []int{0, 0}}, lineTable(64), lineTable(65)} {
			list = append(list, m)
		}
	case "Count":
		for _, m.Count = range oddIntegers() {
			list = append(list, m)
		}
	case "Left":
		for _, m.Left = range oddIntegers() {
			list = append(list, m)
		}
	}
	return list
}

// oddIntegers are not 0, also where an integer of 32 bits would be.
func oddIntegers() []int {
	return []int{1, -1, 2, 5, 100, 1 << 32, -1 << 32, 1 << 62, math.MaxInt, math.MinInt, math.MinInt + 1}
}

// badModules are of no kind, have something in a field that is not named for their kind, or are wrong in one that is.
func badModules() []impl.Module {
	type module = impl.Module
	list := []module{{}}
	for _, m := range plainModules() {
		for _, name := range fieldNames() {
			if !slices.Contains(namedFields(m.Kind), name) {
				list = append(list, oddFields(m, name)...)
			}
		}
		for _, kind := range oddKinds() {
			m.Kind = kind
			list = append(list, m, module{Kind: kind})
		}
	}
	for _, ring := range badRings() {
		list = append(list, module{Kind: 4, Ring: ring})
	}
	for _, ring := range goodRings() {
		if ring.Count < len(ring.Store) {
			list = append(list, module{Kind: 4, Ring: ring})
		}
	}
	for _, table := range badTables() {
		list = append(list, module{Kind: 6, Table: table}, module{Kind: 6, Table: table, Count: 3})
	}
	for _, level := range allLevels() {
		if !(level > 0) && !sameSingle(level, 0) {
			list = append(list, module{Kind: 7, Level: level})
		}
	}
	for _, count := range append(oddNumbers(100), 0, 101, 102) {
		if count < 1 || count > 100 {
			list = append(list, module{Kind: 8, Count: count}, module{Kind: 8, Count: count, Left: count - 1}, module{Kind: 8, Count: count, Left: 1})
		}
	}
	for _, count := range []int{1, 2, 3, 50, 99, 100} {
		for _, left := range append(oddNumbers(count), count) {
			if left < 0 || left >= count {
				list = append(list, module{Kind: 8, Count: count, Left: left, State: 1i})
			}
		}
	}
	return list
}

func TestP10ConstantsOfModules(t *testing.T) {
	for i, kind := range []int{impl.KindSource, impl.KindMixer, impl.KindGain, impl.KindDelay, impl.KindSum, impl.KindSlicer, impl.KindMeter, impl.KindHold} {
		if kind != i+1 {
			t.Errorf("the kind %d is %d", i+1, kind)
		}
	}
	if impl.MaxHold != 100 {
		t.Error("MaxHold")
	}
}

func TestP10IsModule(t *testing.T) {
	for _, m := range append(goodModules(), plainModules()...) {
		if !impl.IsModule(m) || !validModule(m) {
			t.Fatalf("%v is not valid", m)
		}
	}
	for _, m := range badModules() {
		if impl.IsModule(m) || validModule(m) {
			t.Fatalf("%v is valid", m)
		}
	}
}

// checkRefused gives a module that is not valid to all functions that need a valid one.
func checkRefused(t *testing.T, m impl.Module) {
	t.Helper()
	for _, z := range []complex64{0, 2 - 1i, complex(notANumber(), minusZero())} {
		if r, out, ok := impl.StepModule(m, z); ok || !samePoint(out, 0) || !noModule(r) {
			t.Fatalf("StepModule(%v, %g) = %v, %g, %v", m, z, r, out, ok)
		}
		if r, ok := impl.ControlModule(m, z); ok || !noModule(r) {
			t.Fatalf("ControlModule(%v, %g) = %v, %v", m, z, r, ok)
		}
	}
	if r, ok := impl.ResetModule(m); ok || !noModule(r) {
		t.Fatalf("ResetModule(%v) = %v, %v", m, r, ok)
	}
	if z, ok := impl.TellModule(m); ok || !samePoint(z, 0) {
		t.Fatalf("TellModule(%v) = %g, %v", m, z, ok)
	}
}

func TestP10ModulesThatAreNotValid(t *testing.T) {
	for _, m := range badModules() {
		checkRefused(t, m)
	}
}

// TestP10SmallModules goes through all modules with few values in each field.
func TestP10SmallModules(t *testing.T) {
	zero, nan := minusZero(), notANumber()
	good := map[int]int{}
	for kind := -1; kind <= 10; kind++ {
		for _, turn := range []complex64{0, 1, complex(0, zero)} {
			for _, state := range []complex64{0, 1i, complex(zero, 0)} {
				for _, level := range []float32{0, zero, 1, -1, nan} {
					for _, ring := range []impl.Ring{{}, ringOf(1, 0, 5), ringOf(2, 1, 5), {At: 1}} {
						for _, table := range []impl.Table{{}, tableOf(1, 2), {Labels: []int{1}}} {
							for n := range 16 {
								m := impl.Module{Kind: kind, Turn: turn, State: state, Level: level, Ring: ring, Table: table, Count: n%4 - 1, Left: n/4 - 1}
								want := validModule(m)
								if impl.IsModule(m) != want {
									t.Fatalf("IsModule(%v) is not %v", m, want)
								}
								if want {
									good[kind]++
								} else {
									checkRefused(t, m)
								}
							}
						}
					}
				}
			}
		}
	}
	for kind := 1; kind <= 8; kind++ {
		if good[kind] == 0 {
			t.Errorf("no module of the kind %d is valid", kind)
		}
	}
}

func checkNew(t *testing.T, name string, m impl.Module, want impl.Module) {
	t.Helper()
	if !sameModule(m, want) || !impl.IsModule(m) {
		t.Fatalf("%s is %v, not %v; it is valid: %v", name, m, want, impl.IsModule(m))
	}
}

func TestP10NewModules(t *testing.T) {
	type module = impl.Module
	for _, a := range samplesOfAllSorts() {
		for _, b := range samplesOfAllSorts() {
			checkNew(t, "NewSource", impl.NewSource(a, b), module{Kind: 1, Turn: a, State: b})
		}
		checkNew(t, "NewMixer", impl.NewMixer(a), module{Kind: 2, Turn: a, State: 1})
	}
	for _, level := range allLevels() {
		checkNew(t, "NewGain", impl.NewGain(level), module{Kind: 3, Level: level})
	}
	checkNew(t, "NewSum", impl.NewSum(), module{Kind: 5})
	checkNew(t, "NewMeter", impl.NewMeter(), module{Kind: 7})
}

func TestP10NewDelay(t *testing.T) {
	for _, n := range manyNumbers() {
		m, ok := impl.NewDelay(n)
		if want := n >= 1 && n <= 16; ok != want || !want && !noModule(m) {
			t.Fatalf("NewDelay(%d) = %v, %v", n, m, ok)
		}
		if ok {
			checkNew(t, "NewDelay", m, delayOf(0, make([]complex64, n)...))
		}
	}
}

func TestP10NewHold(t *testing.T) {
	for _, n := range manyNumbers() {
		m, ok := impl.NewHold(n)
		if want := n >= 1 && n <= 100; ok != want || !want && !noModule(m) {
			t.Fatalf("NewHold(%d) = %v, %v", n, m, ok)
		}
		if ok {
			checkNew(t, "NewHold", m, impl.Module{Kind: 8, Count: n})
		}
	}
}

// manyNumbers are all that are not far from 0, and others far away.
func manyNumbers() []int {
	list := oddNumbers(16)
	for n := -130; n <= 400; n++ {
		list = append(list, n)
	}
	for k := 1; k < 110; k++ {
		list = append(list, math.MaxInt-k, math.MinInt+k, 1<<32+k, k-1<<32, 1<<62+k, 1<<31+k, -1<<31-k)
	}
	return list
}

func TestP10NewSlicer(t *testing.T) {
	for _, table := range goodTables() {
		m, ok := impl.NewSlicer(table)
		if !ok {
			t.Fatalf("NewSlicer(%v) fails", table)
		}
		checkNew(t, "NewSlicer", m, impl.Module{Kind: 6, Table: table})
	}
	for _, table := range badTables() {
		if m, ok := impl.NewSlicer(table); ok || !noModule(m) {
			t.Fatalf("NewSlicer(%v) = %v, %v", table, m, ok)
		}
	}
}
