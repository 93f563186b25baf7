package tests

import (
	"math/rand/v2"
	"slices"
	"strings"
	"testing"

	"loop.example/g03223/impl"
)

func restFrom(input []complex64, i int) []complex64 { return input[min(i, len(input)):] }

// isChangeLine reports whether a line begins with one of the five words.
func isChangeLine(line string) bool {
	return slices.Contains([]string{"cable", "cut", "swap", "reset", "set"}, strings.Split(line, " ")[0])
}

// changedRun is what RunChanges should return, for arguments that are valid.
func changedRun(r impl.Rack, p impl.Plug, input []complex64, list []impl.Change, n int) (impl.Rack, []complex64, []bool) {
	heard, done := []complex64{}, make([]bool, len(list))
	for i := range n {
		for k, c := range list {
			if c.At != i || !isChangeLine(c.Line) {
				continue
			}
			if next, _, ok := changedByLine(r, c.Line); ok {
				r, done[k] = next, true
			}
		}
		next, one := ranRack(r, p, restFrom(input, i), 1)
		r, heard = next, append(heard, one...)
	}
	return r, heard, done
}

// partsRun runs a rack up to the step of each change by RunRack, executes its line in a session, and runs on.
func partsRun(t *testing.T, r impl.Rack, p impl.Plug, input []complex64, list []impl.Change, n int) (impl.Rack, []complex64, []bool) {
	t.Helper()
	all, done, at := []complex64{}, make([]bool, len(list)), 0
	runTo := func(to int) {
		next, heard, ok := impl.RunRack(r, p, restFrom(input, at), to-at)
		if !ok {
			t.Fatalf("RunRack(%v, %v) for %d steps fails", r, p, to-at)
		}
		r, all, at = next, append(all, heard...), to
	}
	for step := range n {
		for k, c := range list {
			if c.At != step || !isChangeLine(c.Line) {
				continue
			}
			runTo(step)
			s, out := impl.ExecuteLine(sessionOf(r), c.Line)
			r, done[k] = s.Rack, out != "no"
		}
	}
	runTo(n)
	return r, all, done
}

// checkChanges holds a run against a model, and against the parts of it.
func checkChanges(t *testing.T, r impl.Rack, p impl.Plug, input []complex64, list []impl.Change, n int) ([]complex64, []bool) {
	t.Helper()
	want, wantHeard, wantDone := changedRun(r, p, input, list, n)
	got, heard, done, ok := impl.RunChanges(r, p, input, list, n)
	if !ok || !sameRack(got, want) || !sameSamples(heard, wantHeard) || !slices.Equal(done, wantDone) || !impl.IsRack(got) {
		t.Fatalf("RunChanges(%v, %v, %g, %v, %d) = %v, %g, %v, %v; not %v, %g, %v", r, p, input, list, n, got, heard, done, ok, want, wantHeard, wantDone)
	}
	parts, partsHeard, partsDone := partsRun(t, r, p, input, list, n)
	if !sameRack(got, parts) || !sameSamples(heard, partsHeard) || !slices.Equal(done, partsDone) {
		t.Fatalf("RunChanges(%v, %v, %g, %v, %d) = %v, %g, %v; but in parts %v, %g, %v", r, p, input, list, n, got, heard, done, parts, partsHeard, partsDone)
	}
	return heard, done
}

// change is a list of one.
func change(at int, line string) []impl.Change { return []impl.Change{{At: at, Line: line}} }

// changesOf has the changes before several steps, each with its lines.
func changesOf(lists ...[]impl.Change) []impl.Change { return slices.Concat(lists...) }

// allDone is what comes of n changes that are done.
func allDone(n int) []bool { return slices.Repeat([]bool{true}, n) }

// checkChanged runs r for as many steps as there are outputs in want.
func checkChanged(t *testing.T, r impl.Rack, p impl.Plug, input []complex64, list []impl.Change, done []bool, want ...complex64) {
	t.Helper()
	heard, got := checkChanges(t, r, p, input, list, len(want))
	if !sameSamples(heard, want) || !slices.Equal(got, done) {
		t.Fatalf("RunChanges(%v, %v, %g, %v) has the outputs %g and did %v; not %g and %v", r, p, input, list, heard, got, want, done)
	}
}

func TestP10ConstantsOfChanges(t *testing.T) {
	if impl.MaxChanges != 30 || impl.MaxFaults != 20 || impl.FaultMute != 1 || impl.FaultStick != 2 || impl.FaultFlush != 3 {
		t.Error("MaxChanges, MaxFaults, or a kind of fault")
	}
}

func TestP10AreChanges(t *testing.T) {
	for n := range 70 {
		list := slices.Repeat(change(n, "cut 0"), n)
		if impl.AreChanges(list) != (n <= 30) || impl.AreChanges(make([]impl.Change, n)) != (n <= 30) {
			t.Errorf("AreChanges of %d changes is not %v", n, n <= 30)
		}
	}
	if !impl.AreChanges(nil) || impl.AreChanges(make([]impl.Change, 100000)) {
		t.Error("AreChanges of no changes, or of far too many")
	}
	// A line may be anything.
	for _, line := range []string{"", " ", "cut 0", "undo", "\xff\x00", "cable", strings.Repeat("x", 100000), "add sum\nadd sum"} {
		for at := range 501 {
			if !impl.AreChanges(change(at, line)) {
				t.Fatalf("AreChanges of a change before step %d by %.20q is false", at, line)
			}
		}
		for _, at := range oddLengths() {
			if impl.AreChanges(change(at, line)) {
				t.Fatalf("AreChanges of a change before step %d by %.20q is true", at, line)
			}
		}
	}
	// One of several is not valid, whatever its place is.
	for _, at := range []int{-1, 501, 1 << 32, -1 << 63, 1<<63 - 1} {
		for _, n := range []int{1, 2, 3, 29, 30, 31} {
			for k := range n {
				list := slices.Repeat(change(500, "cut 0"), n)
				list[k].At = at
				if impl.AreChanges(list) {
					t.Fatalf("AreChanges(%v) is true", list)
				}
			}
		}
	}
}

func TestP11NamedChanges(t *testing.T) {
	type modules = []impl.Module
	sum, two, zero := impl.NewSum(), giving(2), minusZero()
	turning := impl.Module{Kind: 2, Turn: 1i, State: 1}
	out0, out1, in0 := impl.Plug{In: -1}, impl.Plug{In: -1, Out: 1}, impl.Plug{}
	for _, c := range []struct {
		r     impl.Rack
		p     impl.Plug
		input []complex64
		list  []impl.Change
		done  []bool
		want  []complex64
	}{
		{modulesRack(modules{two, sum}), out1, nil, nil, nil, samples(0, 0)},
		// Cables that come, and go.
		{modulesRack(modules{two, sum}), out1, nil, changesOf(change(1, "cable 0 1"), change(3, "cable 0 1")), allDone(2), samples(0, 2, 2, 4, 4)},
		{modulesRack(modules{two, sum}, 0, 1, 0, 1), out1, nil, changesOf(change(2, "cut 1"), change(3, "cut 0"), change(3, "cut 0")), []bool{true, true, false}, samples(4, 4, 2, 0, 0)},
		{modulesRack(modules{two, sum}, 0, 1), out1, nil, changesOf(change(1, "cut 0"), change(2, "cable 0 1"), change(3, "cut 0"), change(4, "cable 0 1")), allDone(4), samples(2, 0, 2, 0, 2)},
		{modulesRack(modules{two, sum, giving(1i)}, 0, 1), out1, nil, changesOf(change(1, "cable 2 1"), change(2, "cut 0"), change(3, "cut 0"), change(4, "cut 0")), []bool{true, true, true, false}, samples(2, 2+1i, 1i, 0, 0)},
		// A sum is done in the order that the cables then have.
		{modulesRack(modules{giving(16777216), sum, giving(1)}, 0, 1, 2, 1, 2, 1), out1, nil, changesOf(change(1, "cut 0"), change(2, "cable 0 1"), change(3, "cut 0"), change(3, "cable 2 1")), allDone(4), samples(16777216, 2, 16777218, 16777216)},
		// Modules that are replaced, by one with another state or of another kind.
		{modulesRack(modules{two, sum}, 0, 1), out1, nil, changesOf(change(1, "swap 0 hold 100 99 5p0 0"), change(2, "swap 1 gain 1p1"), change(4, "swap 1 gain -1p0")), allDone(3), samples(2, 5, 10, 10, complex(-5, zero))},
		{modulesRack(modules{sum}), in0, samples(1, 2, 3, 4, 5, 6), changesOf(change(2, "swap 0 delay 0 1p3 0 9p0 0"), change(5, "swap 0 hold 2 0 0 0")), allDone(2), samples(1, 2, 8, 9, 3, 6, 6, 0)},
		{modulesRack(modules{delayOf(0, 7, 8)}), in0, samples(1, 2, 3, 4), changesOf(change(1, "swap 0 delay 1 1p0 1p0 1p1 1p1"), change(3, "swap 0 sum")), allDone(2), samples(7, 2+2i, 1+1i, 4, 0)},
		// Modules that are reset.
		{modulesRack(modules{turning, giving(1)}, 1, 0), out0, nil, changesOf(change(2, "reset 0"), change(5, "reset 0")), allDone(2), samples(1, 1i, 1, 1i, -1, 1)},
		{modulesRack(modules{delayOf(2, 1, 2, 3)}), out0, nil, change(1, "reset 0"), allDone(1), samples(1, 0, 0, 0)}, {modulesRack(modules{delayOf(0, 1, 2, 3)}), in0, samples(4, 5, 6, 7), change(2, "reset 0"), allDone(1), samples(1, 2, 0, 0, 0, 6, 7)},
		{modulesRack(modules{{Kind: 8, Count: 3}}), in0, samples(1, 2, 3, 4, 5, 6), change(1, "reset 0"), allDone(1), samples(1, 2, 2, 2, 5, 5)}, {modulesRack(modules{{Kind: 8, Count: 3}}), in0, samples(1, 2, 3, 4, 5, 6), nil, nil, samples(1, 1, 1, 4, 4, 4)},
		{modulesRack(modules{{Kind: 7, Level: 5}, slicerOf(3, 1, 2)}, 1, 0), out0, nil, changesOf(change(1, "reset 0"), change(1, "reset 1"), change(2, "reset 0")), allDone(3), samples(1, 1, 1)},
		// Modules that are controlled.
		{modulesRack(modules{impl.NewGain(2)}), in0, samples(1, 1, 1, 1), changesOf(change(1, "set 0 3p0 1p0"), change(2, "set 0 inf 0"), change(3, "set 0 -0 nan")), allDone(3), samples(2, 3, complex(infinity(1), notANumber()), complex(zero, zero))},
		{modulesRack(modules{impl.NewSource(1i, 1)}), out0, nil, changesOf(change(1, "set 0 1p1 0"), change(3, "set 0 0 0")), allDone(2), samples(1, 1i, 2i, 4i, 0)}, {modulesRack(modules{turning, giving(1)}, 1, 0), out0, nil, change(2, "set 0 1p0 0"), allDone(1), samples(1, 1i, -1, -1)},
	} {
		checkChanged(t, c.r, c.p, c.input, c.list, c.done, c.want...)
	}
}

// TestP11ChangesOfTheOrder has racks whose modules are then stepped in another order.
func TestP11ChangesOfTheOrder(t *testing.T) {
	type modules = []impl.Module
	two, three, source, delay := impl.NewGain(2), impl.NewGain(3), impl.NewSource(1, 1), delayOf(0, 10, 20)
	chain := modulesRack(modules{two, three, source}, 2, 0, 0, 1)
	loop := modulesRack(modules{impl.NewSum(), two, delay}, 0, 1, 1, 2, 2, 0)
	turned := changesOf(change(2, "cut 1"), change(2, "cable 2 1"), change(2, "cable 1 0"))
	for _, c := range []struct {
		r     impl.Rack
		p     impl.Plug
		input []complex64
		list  []impl.Change
		want  []complex64
	}{
		{chain, impl.Plug{In: -1, Out: 1}, nil, turned, samples(6, 6, 3, 3)}, {chain, impl.Plug{In: -1, Out: 0}, nil, turned, samples(2, 2, 8, 8)}, {chain, impl.Plug{In: 0, Out: 0}, samples(10, 20, 30, 40), turned, samples(22, 42, 68, 88)}, {chain, impl.Plug{In: 0, Out: 1}, samples(10, 20, 30, 40), turned, samples(66, 126, 3, 3)}, {chain, impl.Plug{In: 1, Out: 0}, samples(10, 20, 30, 40), turned, samples(2, 2, 188, 248)},
		{modulesRack(modules{two, source}), impl.Plug{In: -1}, nil, change(2, "cable 1 0"), samples(0, 0, 2, 2)}, {modulesRack(modules{two, source}, 1, 0), impl.Plug{}, samples(1, 2, 3), change(1, "cut 0"), samples(4, 4, 6)},
		// A delay comes into a loop, and another one leaves it.
		{loop, impl.Plug{In: -1}, nil, changesOf(change(2, "swap 0 delay 0 5p0 0"), change(2, "swap 2 sum")), samples(10, 20, 5, 10, 20)}, {loop, impl.Plug{In: -1, Out: 2}, nil, changesOf(change(2, "swap 0 delay 0 5p0 0"), change(2, "swap 2 sum")), samples(10, 20, 10, 20, 40)}, {loop, impl.Plug{In: 0, Out: 1}, samples(1, 1, 1, 1), changesOf(change(2, "swap 0 delay 0 5p0 0"), change(2, "swap 2 sum")), samples(22, 42, 10, 22, 46)},
		// It leaves a rack without a loop, and what was behind its listener is before it.
		{modulesRack(modules{two, delayOf(0, 7), source}, 1, 0, 2, 1), impl.Plug{In: -1}, nil, change(1, "swap 1 gain 3p0"), samples(14, 6, 6)}, {modulesRack(modules{two, three, source}, 1, 0, 2, 1), impl.Plug{In: -1}, nil, change(1, "swap 1 delay 0 7p0 0"), samples(6, 14, 2, 2)},
	} {
		before, one := impl.OrderOf(c.r)
		got, _, _, ok := impl.RunChanges(c.r, c.p, c.input, c.list, len(c.want))
		after, two := impl.OrderOf(got)
		if !one || !two || !ok || slices.Equal(before, after) {
			t.Errorf("the order of %v is %d, and then %d", c.r, before, after)
		}
		checkChanged(t, c.r, c.p, c.input, c.list, allDone(len(c.list)), c.want...)
	}
	// The order is another one for some steps, and then again what it was.
	checkChanged(t, chain, impl.Plug{In: -1, Out: 1}, nil, changesOf(change(1, "cut 1"), change(2, "cut 0"), change(3, "cable 0 1"), change(4, "cable 2 0")), allDone(4), 6, 0, 0, 0, 6)
}

// TestP11ChangesBeforeOneStep has lists that are not in the order of the steps.
func TestP11ChangesBeforeOneStep(t *testing.T) {
	one := impl.Rack{Modules: []impl.Module{impl.NewGain(1)}}
	ones, in0 := samples(1, 1, 1, 1, 1, 1), impl.Plug{}
	checkChanged(t, one, in0, ones, changesOf(change(2, "swap 0 gain 1p1"), change(0, "swap 0 gain 3p0"), change(2, "swap 0 gain 5p0"), change(1, "set 0 7p0 0"), change(0, "set 0 1p3 0")), allDone(5), 8, 7, 5, 5)
	checkChanged(t, one, in0, ones, changesOf(change(3, "set 0 3p0 0"), change(2, "set 0 1p1 0"), change(1, "set 0 5p0 0")), allDone(3), 1, 5, 2, 3)
	checkChanged(t, one, in0, ones, changesOf(change(1, "set 0 3p0 0"), change(1, "set 0 5p0 0"), change(1, "set 0 7p0 0")), allDone(3), 1, 7, 7)
	checkChanged(t, one, in0, ones, changesOf(change(1, "set 0 7p0 0"), change(1, "set 0 5p0 0"), change(1, "set 0 3p0 0")), allDone(3), 1, 3, 3)
	// What is refused stands between others, and they are done.
	checkChanged(t, one, in0, ones, changesOf(change(1, "set 0 3p0 0"), change(1, "set 0 5p0"), change(1, "set 1 7p0 0"), change(2, "undo"), change(2, "set 0 5p0 0"), change(2, "undo")), []bool{true, false, false, false, true, false}, 1, 3, 5)
	// Each depends on the one before it in the list.
	two := modulesRack([]impl.Module{impl.NewSum(), giving(2)})
	out0, t0, f0 := impl.Plug{In: -1}, true, false
	checkChanged(t, two, out0, nil, changesOf(change(1, "cable 1 0"), change(1, "cut 0")), []bool{t0, t0}, 0, 0, 0)
	checkChanged(t, two, out0, nil, changesOf(change(1, "cut 0"), change(1, "cable 1 0")), []bool{f0, t0}, 0, 2, 2)
	checkChanged(t, two, out0, nil, changesOf(change(2, "cut 0"), change(1, "cable 1 0")), []bool{t0, t0}, 0, 2, 0)
	checkChanged(t, two, out0, nil, changesOf(change(1, "cut 0"), change(2, "cable 1 0")), []bool{f0, t0}, 0, 0, 2)
	checkChanged(t, two, out0, nil, changesOf(change(1, "cut 1"), change(1, "cable 1 0"), change(1, "cut 1"), change(1, "cable 1 0"), change(1, "cut 1"), change(1, "cut 1")), []bool{f0, t0, f0, t0, t0, f0}, 0, 2)
	checkChanged(t, two, out0, nil, changesOf(change(1, "cable 0 0"), change(1, "swap 0 delay 0 1p0 0"), change(1, "cable 0 0"), change(2, "swap 0 sum"), change(2, "cut 0"), change(2, "swap 0 sum")), []bool{f0, t0, t0, f0, t0, t0}, 0, 1, 0)
	checkChanged(t, two, out0, nil, changesOf(change(0, "set 0 3p0 0"), change(0, "swap 0 gain 1p0"), change(0, "set 0 3p0 0"), change(0, "cable 1 0"), change(1, "reset 0"), change(1, "swap 0 mixer 0 0 0 0"), change(1, "reset 0")), []bool{f0, t0, t0, t0, f0, t0, t0}, 6, 2, 0)
	checkChanged(t, two, out0, nil, changesOf(change(1, "swap 0 delay 0 1p0 0 1p1 0 3p0 0"), change(2, "reset 0"), change(3, "swap 0 delay 0 1p0 0 1p1 0 3p0 0"), change(3, "swap 0 sum"), change(3, "cable 1 0"), change(3, "swap 1 hold 100 1 1p3 0")), allDone(6), 0, 1, 0, 8)
}

func TestP11ChangesAtTheEnds(t *testing.T) {
	r, p := impl.Rack{Modules: []impl.Module{impl.NewGain(1)}}, impl.Plug{}
	for _, n := range []int{0, 1, 2, 3, 10, 499, 500} {
		input := slices.Repeat(samples(1), n+2)
		for _, at := range []int{0, 1, n - 2, n - 1, n, n + 1, n + 2, 499, 500} {
			if at < 0 || at > 500 {
				continue
			}
			heard, done := checkChanges(t, r, p, input, change(at, "set 0 3p0 0"), n)
			if len(heard) != n || len(done) != 1 || done[0] != (at < n) {
				t.Fatalf("a change before step %d of %d is done: %v", at, n, done)
			}
			for i, z := range heard {
				if want := complex64(1); i < at && z != want || i >= at && z != 3 {
					t.Fatalf("with a change before step %d, the output of step %d is %g", at, i, z)
				}
			}
		}
		all := changesOf(change(n, "set 0 3p0 0"), change(max(n-1, 0), "set 0 5p0 0"), change(500, "set 0 7p0 0"), change(0, "set 0 9p0 0"))
		checkChanges(t, r, p, input, all, n)
		got, heard, done, ok := impl.RunChanges(r, p, input, nil, n)
		want, wantHeard, okToo := impl.RunRack(r, p, input, n)
		if !ok || !okToo || len(done) != 0 || !sameRack(got, want) || !sameSamples(heard, wantHeard) {
			t.Fatalf("RunChanges with no changes, for %d steps, = %v, %g, %v, %v", n, got, heard, done, ok)
		}
	}
}

// TestP10AsManyChangesAsThereMayBe also has one more.
func TestP10AsManyChangesAsThereMayBe(t *testing.T) {
	r, p := impl.Rack{Modules: []impl.Module{impl.NewGain(1)}}, impl.Plug{}
	for n := range 40 {
		list, ones := []impl.Change{}, slices.Repeat(samples(1), 45)
		for i := range n {
			list = append(list, impl.Change{At: n - 1 - i, Line: "set 0 " + numberTextOf(float32(i+2)) + " 0"})
		}
		if n > 30 {
			got, heard, done, ok := impl.RunChanges(r, p, ones, list, 45)
			if ok || !noRack(got) || len(heard) != 0 || len(done) != 0 {
				t.Fatalf("RunChanges with %d changes = %v, %g, %v, %v", n, got, heard, done, ok)
			}
			continue
		}
		heard, done := checkChanges(t, r, p, ones, list, 45)
		if !slices.Equal(done, allDone(n)) {
			t.Fatalf("of %d changes, these are done: %v", n, done)
		}
		for i := range n {
			if heard[i] != complex(float32(n-i+1), 0) {
				t.Fatalf("with %d changes, the output of step %d is %g", n, i, heard[i])
			}
		}
		same := slices.Repeat(change(3, "cable 0 1"), n)
		_, done = checkChanges(t, sumRack(samples(2), 0), impl.Plug{Out: 1}, nil, same, 5)
		if !slices.Equal(done, allDone(n)) {
			t.Fatalf("of %d cables, these are added: %v", n, done)
		}
	}
	// The cables are too many before the changes are.
	full := sumRack(samples(2), slices.Repeat([]int{0}, 35)...)
	heard, done := checkChanges(t, full, impl.Plug{In: -1, Out: 1}, nil, slices.Repeat(change(1, "cable 0 1"), 30), 3)
	if !sameSamples(heard, samples(70, 80, 80)) || !slices.Equal(done, append(allDone(5), make([]bool, 25)...)) {
		t.Errorf("the outputs are %g, and these are added: %v", heard, done)
	}
}

// randomChange is by one of the five lines, most of them with indices that there are, and now and then by another line.
func randomChange(choice *rand.Rand, r impl.Rack, n int) impl.Change {
	size := len(r.Modules)
	module := func() string { return integersOf(choice.IntN(size+1) - choice.IntN(8)/7) }
	at, line := choice.IntN(n+2), ""
	switch choice.IntN(8) {
	case 0, 1:
		line = "cable" + module() + module()
	case 2:
		line = "cut" + integersOf(choice.IntN(len(r.Cables)+2))
	case 3, 4:
		line = "swap" + module() + " " + moduleTextOf(calmModule(moduleAt(rune("oxgdd+tmh"[choice.IntN(9)]), choice.IntN(9)), choice.IntN(9)))
	case 5:
		line = "reset" + module()
	case 6:
		line = "set" + module() + partsOf(randomInput(choice, 1)...)
	default:
		line = randomLine(choice, sessionOf(r))
	}
	return impl.Change{At: at, Line: line}
}

func TestP11RandomChanges(t *testing.T) {
	choice := rand.New(rand.NewPCG(61, 62))
	did, refused, words := 0, 0, map[string]int{}
	for _, r := range runRacks() {
		for _, n := range []int{1, 3, 9, 25} {
			list := []impl.Change{}
			for range choice.IntN(31) {
				list = append(list, randomChange(choice, r, n))
			}
			_, done := checkChanges(t, r, randomPlug(choice, r), randomInput(choice, choice.IntN(n+8)), list, n)
			for k, isDone := range done {
				if isDone {
					did++
					words[strings.Split(list[k].Line, " ")[0]]++
				} else if list[k].At < n {
					refused++
				}
			}
		}
	}
	if did < 2000 || refused < 2000 || len(words) != 5 {
		t.Errorf("%d changes are done, and %d refused: %v", did, refused, words)
	}
	for word, n := range words {
		if n < 200 {
			t.Errorf("only %d lines that begin with %q are done", n, word)
		}
	}
}

func TestP11LongRunsWithChanges(t *testing.T) {
	choice := rand.New(rand.NewPCG(63, 64))
	for i, r := range runRacks() {
		if i%12 == 0 {
			list := []impl.Change{}
			for range 30 {
				list = append(list, randomChange(choice, r, 498))
			}
			checkChanges(t, r, randomPlug(choice, r), randomInput(choice, 480+choice.IntN(40)), list, 500)
		}
	}
}

// TestP11ChangesOfAllModules swaps each module in, uses its powers, and goes on.
func TestP11ChangesOfAllModules(t *testing.T) {
	for i, m := range append(plainModules(), goodModules()...) {
		if i > 20 && i%3 > 0 {
			continue
		}
		r := modulesRack([]impl.Module{impl.NewSum(), giving(complex(minusZero(), 2.5)), delayOf(0, 1, 2)}, 1, 0, 0, 2)
		list := changesOf(change(1, "swap 0 "+moduleTextOf(m)), change(2, "reset 0"), change(3, "set 0 -3p-1 nan"), change(4, "cut 1"))
		for out := range 3 {
			_, done := checkChanges(t, r, impl.Plug{Out: out}, samples(3-4i, complex(notANumber(), 1), 5), list, 5)
			reset, control, _ := namedPowers(m.Kind)
			if !slices.Equal(done, []bool{true, reset, control, true}) {
				t.Fatalf("with %v, these are done: %v", m, done)
			}
		}
	}
}
