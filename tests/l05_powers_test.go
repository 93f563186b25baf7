package tests

import (
	"math"
	"math/big"
	"slices"
	"testing"

	"loop.example/g03223/impl"
)

// namedPowers tells which powers chapter 6 names for a kind.
func namedPowers(kind int) (bool, bool, bool) {
	reset, control, tell := []int{2, 4, 6, 7, 8}, []int{1, 2, 3}, []int{1, 2, 6, 7, 8}
	return slices.Contains(reset, kind), slices.Contains(control, kind), slices.Contains(tell, kind)
}

// resetModule is what ResetModule should return, for a module that is valid and has the power.
func resetModule(m impl.Module) impl.Module {
	switch m.Kind {
	case 2:
		m.State = 1
	case 4:
		m.Ring = ringOf(len(m.Ring.Store), m.Ring.At, make([]complex64, len(m.Ring.Store))...)
	case 6:
		m.Count = 0
	case 7:
		m.Level = 0
	case 8:
		m.State, m.Left = 0, 0
	}
	return m
}

// controlledModule is what ControlModule should return, for a module that is valid and has the power.
func controlledModule(m impl.Module, z complex64) impl.Module {
	if m.Kind == 3 {
		m.Level = real(z)
	} else {
		m.Turn = z
	}
	return m
}

// toldSample is what TellModule should return, for a module that is valid and has the power.
func toldSample(m impl.Module) complex64 {
	switch m.Kind {
	case 6:
		x, _ := new(big.Float).SetInt64(int64(m.Count)).Float32()
		return complex(x, 0)
	case 7:
		return complex(m.Level, 0)
	}
	return m.State
}

func TestP5PowersOfKinds(t *testing.T) {
	for _, kind := range append(oddKinds(), 1, 2, 3, 4, 5, 6, 7, 8) {
		reset, control, tell := impl.PowersOf(kind)
		wantReset, wantControl, wantTell := namedPowers(kind)
		if reset != wantReset || control != wantControl || tell != wantTell {
			t.Errorf("PowersOf(%d) = %v, %v, %v", kind, reset, control, tell)
		}
	}
}

// TestP5ModulesHaveThePowersOfTheirKind uses all powers of modules of all kinds.
func TestP5ModulesHaveThePowersOfTheirKind(t *testing.T) {
	for _, m := range append(goodModules(), plainModules()...) {
		reset, control, tell := impl.PowersOf(m.Kind)
		if _, ok := impl.ResetModule(m); ok != reset {
			t.Fatalf("ResetModule(%v) is %v", m, ok)
		}
		if _, ok := impl.ControlModule(m, 1i); ok != control {
			t.Fatalf("ControlModule(%v) is %v", m, ok)
		}
		if _, ok := impl.TellModule(m); ok != tell {
			t.Fatalf("TellModule(%v) is %v", m, ok)
		}
	}
}

func checkReset(t *testing.T, m impl.Module, want impl.Module) {
	t.Helper()
	if r, ok := impl.ResetModule(m); !ok || !sameModule(r, want) || !impl.IsModule(r) {
		t.Fatalf("ResetModule(%v) = %v, %v; not %v", m, r, ok, want)
	}
}

func checkControlled(t *testing.T, m impl.Module, z complex64, want impl.Module) {
	t.Helper()
	if r, ok := impl.ControlModule(m, z); !ok || !sameModule(r, want) || !impl.IsModule(r) {
		t.Fatalf("ControlModule(%v, %g) = %v, %v; not %v", m, z, r, ok, want)
	}
}

func checkTold(t *testing.T, m impl.Module, want complex64) {
	t.Helper()
	if z, ok := impl.TellModule(m); !ok || !samePoint(z, want) {
		t.Fatalf("TellModule(%v) = %g, %v; not %g", m, z, ok, want)
	}
}

func TestP10PowersOfAllModules(t *testing.T) {
	for _, m := range append(goodModules(), plainModules()...) {
		reset, control, tell := namedPowers(m.Kind)
		if reset {
			checkReset(t, m, resetModule(m))
		} else if r, ok := impl.ResetModule(m); ok || !noModule(r) {
			t.Fatalf("ResetModule(%v) = %v, %v", m, r, ok)
		}
		if tell {
			checkTold(t, m, toldSample(m))
		} else if z, ok := impl.TellModule(m); ok || !samePoint(z, 0) {
			t.Fatalf("TellModule(%v) = %g, %v", m, z, ok)
		}
		for _, z := range samplesOfAllSorts() {
			if control {
				checkControlled(t, m, z, controlledModule(m, z))
			} else if r, ok := impl.ControlModule(m, z); ok || !noModule(r) {
				t.Fatalf("ControlModule(%v, %g) = %v, %v", m, z, r, ok)
			}
		}
	}
}

func TestP10NamedResets(t *testing.T) {
	type module = impl.Module
	nan, zero := notANumber(), minusZero()
	for _, c := range []struct{ m, want module }{
		{module{Kind: 2, Turn: 1i, State: complex(nan, zero)}, module{Kind: 2, Turn: 1i, State: 1}}, {module{Kind: 2, Turn: complex(nan, zero)}, module{Kind: 2, Turn: complex(nan, zero), State: 1}},
		// A delay keeps its At, and all its samples.
		{delayOf(2, 1, 2, 3), delayOf(2, 0, 0, 0)}, {delayOf(0, complex(zero, nan)), delayOf(0, 0)}, {delayOf(1, 0, complex(zero, zero)), delayOf(1, 0, 0)}, {delayOf(15, someSamples(16)...), delayOf(15, make([]complex64, 16)...)},
		{slicerOf(-7, 1, 2i), slicerOf(0, 1, 2i)}, {slicerOf(0), slicerOf(0)}, {module{Kind: 7, Level: infinity(1)}, module{Kind: 7}}, {module{Kind: 7}, module{Kind: 7}},
		{module{Kind: 8, State: complex(zero, nan), Count: 100, Left: 99}, module{Kind: 8, Count: 100}}, {module{Kind: 8, State: complex(zero, zero), Count: 1}, module{Kind: 8, Count: 1}}, {module{Kind: 8, Count: 3, Left: 1}, module{Kind: 8, Count: 3}},
	} {
		checkReset(t, c.m, c.want)
	}
}

func TestP10NamedControls(t *testing.T) {
	type module = impl.Module
	nan, zero, least := notANumber(), minusZero(), float32(0x1p-149)
	for _, c := range []struct {
		m    module
		z    complex64
		want module
	}{
		{module{Kind: 1, Turn: 1, State: 2}, 3 - 4i, module{Kind: 1, Turn: 3 - 4i, State: 2}}, {module{Kind: 2, Turn: 1, State: 2}, 3 - 4i, module{Kind: 2, Turn: 3 - 4i, State: 2}},
		{module{Kind: 1, Turn: 1}, complex(zero, nan), module{Kind: 1, Turn: complex(zero, nan)}}, {module{Kind: 2, Turn: 1}, complex(nan, zero), module{Kind: 2, Turn: complex(nan, zero)}},
		{impl.NewGain(1), 3 - 4i, impl.NewGain(3)}, {impl.NewGain(1), complex(zero, 5), impl.NewGain(zero)}, {impl.NewGain(1), complex(nan, 5), impl.NewGain(nan)}, {impl.NewGain(1), complex(-2, nan), impl.NewGain(-2)}, {impl.NewGain(1), complex(-least, 1), impl.NewGain(-least)}, {impl.NewGain(nan), 5i, impl.NewGain(0)},
	} {
		checkControlled(t, c.m, c.z, c.want)
	}
}

func TestP10SlicersTellTheirCount(t *testing.T) {
	for _, c := range []struct {
		count int
		want  float32
	}{
		{0, 0}, {1, 1}, {-1, -1}, {100, 100}, {16777215, 16777215}, {16777216, 16777216}, {-16777217, -16777216}, {16777217, 16777216}, {16777219, 16777220}, {33554431, 33554432},
		// Rounded once: in double precision, these would be halfway between two numbers.
		{1<<60 + 1<<36, 0x1p60}, {1<<60 + 1<<36 + 1, 0x1.000002p60}, {-1<<60 - 1<<36 - 1, -0x1.000002p60}, {1<<60 + 3<<36 - 1, 0x1.000002p60}, {1<<60 + 3<<36, 0x1.000004p60},
		{math.MaxInt, 0x1p63}, {math.MinInt, -0x1p63}, {math.MaxInt - 1<<38, 0x1.fffffep62}, {math.MaxInt32, 0x1p31}, {1<<32 + 1, 0x1p32},
	} {
		checkTold(t, slicerOf(c.count, 1, 2), complex(c.want, 0))
		checkTold(t, slicerOf(c.count), complex(c.want, 0))
	}
}

// TestP5WhatIsResetIsReset steps modules after they were used and reset, beside new ones.
func TestP5WhatIsResetIsReset(t *testing.T) {
	delay, _ := impl.NewDelay(5)
	slicer, _ := impl.NewSlicer(lineTable(9))
	hold, _ := impl.NewHold(7)
	for _, fresh := range []impl.Module{impl.NewMixer(complex(0.6, 0.8)), delay, slicer, impl.NewMeter(), hold} {
		used := fresh
		for i := range 40 {
			used, _, _ = impl.StepModule(used, sampleAt(i))
			reset, ok := impl.ResetModule(used)
			again, fine := impl.ResetModule(reset)
			if !ok || !fine || !sameModule(reset, again) {
				t.Fatalf("%v is reset to %v, and then to %v", used, reset, again)
			}
			other := fresh
			for k := range 30 {
				var a, b complex64
				reset, a, ok = impl.StepModule(reset, sampleAt(2*k))
				other, b, fine = impl.StepModule(other, sampleAt(2*k))
				if !ok || !fine || !samePoint(a, b) {
					t.Fatalf("%v, which was reset, has the output %g in step %d, a new one has %g", reset, a, k, b)
				}
			}
		}
	}
}

func TestP5ControlsAreUsedByTheNextStep(t *testing.T) {
	source, ok := impl.ControlModule(impl.NewSource(1, 2), 1i)
	mixer, okToo := impl.ControlModule(impl.NewMixer(5), -1)
	gain, okThree := impl.ControlModule(impl.NewGain(5), 0.5-9i)
	if !ok || !okToo || !okThree {
		t.Fatal("a control fails")
	}
	checkStep(t, source, 7, impl.NewSource(1i, 2i), 2)
	checkStep(t, mixer, 7, impl.Module{Kind: 2, Turn: -1, State: -1}, 7)
	checkStep(t, gain, 7+1i, impl.NewGain(0.5), 3.5+0.5i)
}
