package tests

import (
	"slices"
	"testing"

	"loop.example/g03223/impl"
)

// roomyModule returns m with room behind its slices, in which there is something, and a function that reports whether all is as it was.
func roomyModule(m impl.Module) (impl.Module, func() bool) {
	store, sameStore := roomySamples(m.Ring.Store)
	table, sameTable := roomyTable(m.Table)
	m.Ring.Store, m.Table = store, table
	return m, func() bool { return sameStore() && sameTable() }
}

// tightModule returns m with no room behind its slices.
func tightModule(m impl.Module) impl.Module {
	m = copyOfModule(m)
	m.Ring.Store, m.Table.Points, m.Table.Labels = slices.Clip(m.Ring.Store), slices.Clip(m.Table.Points), slices.Clip(m.Table.Labels)
	return m
}

func scribbleModule(m impl.Module) {
	scribbleSamples(m.Ring.Store)
	scribble(m.Table)
}

// moduleFunctions are all functions that make a module of one.
func moduleFunctions() map[string]func(m impl.Module) (impl.Module, bool) {
	type module = impl.Module
	return map[string]func(m module) (module, bool){
		"StepModule":           func(m module) (module, bool) { r, _, ok := impl.StepModule(m, 3-1i); return r, ok },
		"StepModule by NaN":    func(m module) (module, bool) { r, _, ok := impl.StepModule(m, complex(notANumber(), 0)); return r, ok },
		"ResetModule":          impl.ResetModule,
		"ControlModule":        func(m module) (module, bool) { return impl.ControlModule(m, 2i) },
		"NewSlicer":            func(m module) (module, bool) { return impl.NewSlicer(m.Table) },
		"NewDelay of its size": func(m module) (module, bool) { return impl.NewDelay(len(m.Ring.Store)) },
	}
}

func TestP10ModulesShareNoMemory(t *testing.T) {
	modules := append(plainModules(), delayOf(7, someSamples(16)...), impl.Module{Kind: 6, Table: lineTable(64), Count: 5})
	for name, f := range moduleFunctions() {
		for _, made := range modules {
			m, same := roomyModule(made)
			r, ok := f(m)
			if !same() {
				t.Fatalf("%s of %v changes its argument, or what is behind it", name, made)
			}
			if !ok {
				continue
			}
			want := copyOfModule(r)
			again, _ := f(m)
			scribbleModule(again)
			if !same() || !sameModule(r, want) {
				t.Fatalf("%s of %v: the result has memory of the argument, or of an earlier result", name, made)
			}
			scribbleModule(m)
			if !sameModule(r, want) {
				t.Fatalf("%s of %v: the argument has memory of the result", name, made)
			}
		}
	}
}

func TestP10ModulesAreLeftAlone(t *testing.T) {
	bad := badModules()
	for i, made := range append(plainModules(), bad...) {
		m, same := roomyModule(made)
		other, sameOther := roomyModule(bad[(i*3)%len(bad)])
		impl.IsModule(m)
		impl.TellModule(m)
		impl.ResetModule(m)
		impl.ControlModule(m, 1)
		impl.StepModule(m, 1)
		impl.SameModules(m, other)
		impl.SameModules(m, m)
		impl.NewSlicer(m.Table)
		if !same() || !sameOther() {
			t.Fatalf("%v, or what is behind it, was changed", made)
		}
	}
}

// TestP10ModulesDoNotDependOnCapacities gives each module with room behind its slices, and without.
func TestP10ModulesDoNotDependOnCapacities(t *testing.T) {
	for _, made := range append(plainModules(), badModules()...) {
		roomy, _ := roomyModule(made)
		tight := tightModule(made)
		if impl.IsModule(roomy) != impl.IsModule(tight) || !impl.SameModules(roomy, tight) {
			t.Fatalf("IsModule or SameModules of %v depends on a capacity", made)
		}
		a, x, one := impl.StepModule(roomy, 3i)
		b, y, two := impl.StepModule(tight, 3i)
		if one != two || !samePoint(x, y) || !sameModule(a, b) {
			t.Fatalf("StepModule(%v) depends on a capacity: %v, %v", made, a, b)
		}
		a, one = impl.ResetModule(roomy)
		b, two = impl.ResetModule(tight)
		if one != two || !sameModule(a, b) {
			t.Fatalf("ResetModule(%v) depends on a capacity: %v, %v", made, a, b)
		}
		x, one = impl.TellModule(roomy)
		y, two = impl.TellModule(tight)
		if one != two || !samePoint(x, y) {
			t.Fatalf("TellModule(%v) depends on a capacity: %g, %g", made, x, y)
		}
	}
}
