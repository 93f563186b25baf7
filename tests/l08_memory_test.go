package tests

import (
	"testing"

	"loop.example/g03223/impl"
)

func TestP10TextsLeaveModulesAlone(t *testing.T) {
	modules := append(plainModules(), delayOf(7, someSamples(16)...), impl.Module{Kind: 6, Table: lineTable(64), Count: 5})
	for _, made := range append(modules, badModules()...) {
		m, same := roomyModule(made)
		a, b := impl.FormatModule(m), impl.FormatModule(tightModule(made))
		if a != b {
			t.Fatalf("FormatModule(%v) depends on a capacity: %q, %q", made, a, b)
		}
		if !same() || impl.FormatModule(m) != a {
			t.Fatalf("%v, or what is behind it, was changed", made)
		}
	}
}

func TestP10TextsLeaveRacksAlone(t *testing.T) {
	for _, made := range append(badRacks(), append(keptRacks(), manyRacks()...)...) {
		r, same := roomyRack(made)
		a, b := impl.FormatRack(r), impl.FormatRack(tightRack(made))
		if a != b {
			t.Fatalf("FormatRack(%v) depends on a capacity: %q, %q", made, a, b)
		}
		if !same() || impl.FormatRack(r) != a {
			t.Fatalf("%v, or what is behind it, was changed", made)
		}
	}
}

// TestP10ModulesThatAreReadShareNoMemory changes what was read, and reads the same text again.
func TestP10ModulesThatAreReadShareNoMemory(t *testing.T) {
	modules := append(plainModules(), delayOf(7, someSamples(16)...), impl.Module{Kind: 6, Table: lineTable(64), Count: 5}, impl.Module{Kind: 6, Table: lineTable(1)})
	for _, made := range modules {
		text := impl.FormatModule(made)
		first, _ := impl.ParseModule(text)
		second, _ := impl.ParseModule(text)
		scribbleModule(second)
		if !sameModule(first, made) {
			t.Fatalf("two results of ParseModule(%q) share memory", text)
		}
		third, _ := impl.ParseModule(text)
		scribbleModule(first)
		if !sameModule(third, made) || impl.FormatModule(third) != text {
			t.Fatalf("ParseModule(%q) keeps what it has returned", text)
		}
	}
}

// readRacks are functions that make a rack of the text of one.
func readRacks() map[string]func(r impl.Rack) (impl.Rack, bool) {
	type rack = impl.Rack
	return map[string]func(r rack) (rack, bool){
		"ParseRack": func(r rack) (rack, bool) { return impl.ParseRack(impl.FormatRack(r)) },
		"ParseRack twice": func(r rack) (rack, bool) {
			impl.ParseRack(impl.FormatRack(r))
			return impl.ParseRack(impl.FormatRack(r))
		},
	}
}

func TestP10RacksThatAreReadShareNoMemory(t *testing.T) {
	checkRackFunctions(t, readRacks())
	// Here, several modules of one rack have the same text.
	checkModulesOfRacks(t, readRacks())
}

// TestP10ModulesOfRacksThatAreReadShareNoMemory writes all over one module after the other, and the room behind its slices.
func TestP10ModulesOfRacksThatAreReadShareNoMemory(t *testing.T) {
	for _, made := range append(keptRacks(), fullRack(), rackOf("dddddddddddddddd"), rackOf("tttttttttttttttt")) {
		text := impl.FormatRack(made)
		for i := range made.Modules {
			got, _ := impl.ParseRack(text)
			module, _ := impl.ParseModule(impl.FormatModule(made.Modules[i]))
			want := copyOfRack(got)
			scribbleModule(got.Modules[i])
			want.Modules[i] = copyOfModule(got.Modules[i])
			if !sameRack(got, want) {
				t.Fatalf("ParseRack(%q): the module %d has memory of another one", text, i)
			}
			if !sameModule(module, made.Modules[i]) {
				t.Fatalf("ParseRack(%q): the module %d has memory of a result of ParseModule", text, i)
			}
		}
		got, _ := impl.ParseRack(text)
		other, _ := impl.ParseRack(text)
		scribbleRack(other)
		if again, ok := impl.ParseRack(text); !ok || !sameRack(got, made) || !sameRack(again, made) {
			t.Fatalf("two results of ParseRack(%q) share memory", text)
		}
	}
}
