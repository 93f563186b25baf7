package tests

import (
	"math"
	"slices"
	"strings"
	"testing"

	"loop.example/g03223/impl"
)

// checkNoChanges has lines that are refused before any step of a run, and after others that are not.
func checkNoChanges(t *testing.T, r impl.Rack, lines ...string) {
	t.Helper()
	p, input := impl.Plug{Out: len(r.Modules) - 1}, samples(1, 2i, 3, 4, 5)
	want, wantHeard := ranRack(r, p, input, 4)
	for _, line := range lines {
		list := changesOf(change(0, line), change(1, line), change(1, line), change(3, line))
		got, heard, done, ok := impl.RunChanges(r, p, input, list, 4)
		if !ok || !sameRack(got, want) || !sameSamples(heard, wantHeard) || !slices.Equal(done, make([]bool, 4)) {
			t.Fatalf("RunChanges(%v) by %q = %v, %g, %v, %v; not %v, %g", r, line, got, heard, done, ok, want, wantHeard)
		}
		if len(line) > 1000 {
			continue
		}
		// Those before and behind it are done.
		size := len(r.Modules)
		swap := "swap" + integersOf(size-1) + " delay 0 1p0 0"
		_, done = checkChanges(t, r, p, input, changesOf(change(2, swap), change(1, line), change(2, "cable"+integersOf(size-1, size-1)), change(1, "cut"+integersOf(len(r.Cables)-1))), 4)
		if !slices.Equal(done, []bool{true, false, true, len(r.Cables) > 0}) {
			t.Fatalf("of the changes with %q, these are done: %v", line, done)
		}
	}
}

// busyRack has something to do for all five lines.
func busyRack() impl.Rack { return busySession().Rack }

// fiveLines are done in busyRack.
func fiveLines() []string {
	return []string{"cable 0 2", "cut 1", "swap 1 delay 0 0 0", "reset 1", "set 0 1p0 -3p-1"}
}

// TestP11LinesThatAreNotOfTheFive has lines that a session executes, and that no change may have.
func TestP11LinesThatAreNotOfTheFive(t *testing.T) {
	r := busyRack()
	for _, line := range fiveLines() {
		for _, at := range []int{0, 1, 3} {
			if _, done := checkChanges(t, r, impl.Plug{Out: 5}, samples(1, 2i), change(at, line), 4); !done[0] {
				t.Fatalf("%q is refused before step %d", line, at)
			}
		}
	}
	for _, line := range []string{"add sum", "add gain 1p0", "add delay 0 0 0", "drop 0", "drop 5", "run 2 3", "run 0 0", "run 2 1", "play 1 2 1p0 0", "play -1 2 0 0 0 0", "tell 0", "order", "reach 0", "jacks"} {
		if _, out := checkLine(t, sessionOf(r), line); out == "no" {
			t.Fatalf("a session refuses %q", line)
		}
		checkNoChanges(t, r, line)
	}
	// There are no racks before, also after other changes.
	checkNoChanges(t, r, "undo")
	_, done := checkChanges(t, r, impl.Plug{}, nil, changesOf(change(0, "cut 0"), change(0, "undo"), change(1, "reset 0"), change(1, "undo"), change(2, "undo")), 3)
	if !slices.Equal(done, []bool{true, false, true, false, false}) {
		t.Errorf("these are done: %v", done)
	}
}

func TestP11WordsOfNoChange(t *testing.T) {
	r := busyRack()
	checkNoChanges(t, r,
		"", " ", "  ", "\n", "\x00", "\xff", "help", "sum", "gain 1p0", "no", "ok", "0", "cables 0 2", "cabl 0 2", "able 0 2", "cuts 1", "cu 1", "swaps 1 sum", "wap 1 sum", "resets 1", "rese 1", "sets 0 1p0 0", "et 0 1p0 0", "cutlass 1", "setter 0 1p0 0", "cut1", "reset1", "cable0 2", "cut,1", "cut:1", "cut\t1", "cut\n1", "cut\u00a01", "cut\x001", "cut\xff1", "reset\t1", "reset\n1",
		"remove 1", "connect 0 2", "control 0 1p0 0", "replace 1 sum", "change 1", "turn 0 1p0 0", "mute 0", "stick 0", "flush 0", "save", "resume", "uncable 1", "trace 1", "permute 1 0", "ResetModule 1", "setcable 0 2", "cable set 0 2", "set cable 0 2", "undo cut 1", "add cut 1", "cut cut 1", "at 0 cut 1", "0 cut 1",
	)
	for _, line := range fiveLines() {
		word, rest, _ := strings.Cut(line, " ")
		checkNoChanges(t, r, word, word+" ", " "+line, "  "+line, line+" ", line+"  ", word+"  "+rest, line+"\n", "\n"+line, line+"\r", "\t"+line, "\ufeff"+line, "\u00a0"+line, line+"\x00", line+"\xff", line+"\n"+line)
		for _, other := range []string{strings.ToUpper(word), strings.ToUpper(word[:1]) + word[1:], word[:1] + strings.ToUpper(word[1:]), word[:1] + " " + word[1:], "\"" + word + "\""} {
			checkNoChanges(t, r, other+" "+rest, strings.ToUpper(other+" "+rest))
		}
	}
}

func TestP11ChangesThatAreRefused(t *testing.T) {
	r := busyRack()
	// Parts that are too few, or too many.
	checkNoChanges(t, r,
		"cable", "cable 0", "cable 0 2 0", "cable 0 2 2", "cable 0,2", "cut 1 0", "cut 0 0", "swap 1", "swap sum", "swap sum 1", "swap 1 sum sum", "swap 1 1 sum", "swap 1 gain", "swap 1 gain 1p0 0", "swap 1 delay 0 0", "reset 1 1", "reset all", "set 0", "set 0 1p0", "set 0 1p0 0 0", "set 1p0 0", "set 0 1p0 0 1p0 0", "set",
	)
	// Indices that are not there, or not written so.
	checkNoChanges(t, r,
		"cable 6 0", "cable 0 6", "cable -1 0", "cable 0 -1", "cable 16 16", "cut 4", "cut -1", "cut 40", "swap 6 sum", "swap -1 sum", "reset 6", "reset -1", "set 6 1p0 0", "set -1 1p0 0", "cut 01", "cut +1", "cut -0", "reset 1p0", "reset 1.0", "set 00 1p0 0", "cable 0x0 2", "cut 9223372036854775807", "cut 9223372036854775808", "cut -9223372036854775808", "cut 18446744073709551617", "reset 4294967297", "swap 4294967297 sum", "cable 4294967296 2",
	)
	// Modules that are not valid or do not have the power, and numbers that are not written so.
	checkNoChanges(t, r,
		"swap 1 meter -1p0", "swap 1 meter nan", "swap 1 hold 0 0 0 0", "swap 1 hold 5 5 0 0", "swap 1 hold 101 0 0 0", "swap 1 delay 2 0 0 0 0", "swap 1 delay 0"+strings.Repeat(" 0 0", 17), "swap 1 slicer 0 nan 0 1", "swap 1 slicer 0 1p0 0 1 1p0 0 2", "swap 1 gain 2p0", "swap 1 gain 1", "swap 1 cable 0 1", "swap 1 delays 0 0 0", "swap 1  sum", "swap 1 module",
		"reset 2", "reset 5", "set 1 1p0 0", "set 2 1p0 0", "set 3 1p0 0", "set 4 1p0 0", "set 0 2p0 0", "set 0 0 1", "set 0 1.5 0", "set 0 NaN 0", "set 0 +inf 0", "set 0 1p0 01p0",
	)
	// Cables and modules that leave no order.
	checkNoChanges(t, r, "cable 0 0", "cable 2 2", "cable 4 4", "cable 3 2", "cable 5 5", "swap 1 sum", "swap 1 gain 1p0", "swap 1 hold 1 0 0 0")
	checkNoChanges(t, chainOf(15, false), "cable 14 0", "cable 9 8", "cable 0 0")
	checkNoChanges(t, rackOf("g"), "cable 0 0", "cut 0", "reset 0", "cable 0 1")
	for _, loop := range loopRacks() {
		n := len(loop.Cables) - 1
		if r := (impl.Rack{Modules: loop.Modules, Cables: loop.Cables[:n]}); validRack(r) {
			_, done := checkChanges(t, r, impl.Plug{}, samples(1, 2), change(1, "cable"+integersOf(loop.Cables[n].From, loop.Cables[n].To)), 3)
			if done[0] {
				t.Fatalf("the last cable of %v is added", loop)
			}
		}
	}
	// There is no room for one cable more.
	if _, done := checkChanges(t, crowdedRack(), impl.Plug{Out: 4}, nil, changesOf(change(1, "cable 0 4"), change(2, "cut 7"), change(2, "cable 0 4"), change(2, "cable 0 4")), 4); !slices.Equal(done, []bool{false, true, true, false}) {
		t.Errorf("of the cables, these are added: %v", done)
	}
	for _, n := range oddIntegerTexts() {
		checkNoChanges(t, r, "cable "+n+" 2", "cable 0 "+n, "cut "+n, "swap "+n+" sum", "reset "+n, "set "+n+" 1p0 0")
	}
	for _, x := range oddNumberTexts() {
		checkNoChanges(t, r, "set 0 "+x+" 0", "set 0 0 "+x, "swap 5 gain "+x)
	}
}

// TestP11ChangesWithAnythingChanged changes any byte, and any part, of lines that are done.
func TestP11ChangesWithAnythingChanged(t *testing.T) {
	r, p := busyRack(), impl.Plug{In: 1, Out: 2}
	words := []string{"cable", "cut", "swap", "reset", "set", "add", "drop", "run", "play", "undo", "tell", "order", "", "sum", "gain", "0", "-0", "1", "2", "-1", "5", "6", "1p0", "-3p-1", "2p0", "nan", "gain 1p0", "0 0", "\xff", "\n"}
	done, all := 0, 0
	check := func(line string) {
		_, did := checkChanges(t, r, p, samples(1, 2i, 3), change(1, line), 3)
		if all++; did[0] {
			done++
		}
	}
	for _, line := range fiveLines() {
		for _, other := range changedTexts(line, []byte(someBytes)) {
			check(other)
		}
		for _, parts := range changedParts(strings.Split(line, " "), words) {
			check(strings.Join(parts, " "))
		}
	}
	if done < 100 || done > all/3 {
		t.Errorf("%d of %d lines are done", done, all)
	}
}

func TestP11ChangesThatAreFarTooLong(t *testing.T) {
	const many = 300000
	checkNoChanges(t, busyRack(), strings.Repeat(" ", many), "cut"+strings.Repeat(" ", many), "cut "+strings.Repeat("0", many), "swap 1 sum"+strings.Repeat(" sum", many), "swap 0 slicer 0"+strings.Repeat(" 0 0 0", many), "set 0"+strings.Repeat(" 1p0", many), "cable"+strings.Repeat(" 0", many), "reset "+strings.Repeat("1", many), strings.Repeat("x", many), strings.Repeat("cut 0\n", many))
}

// checkAllRefused asks all functions of chapter 11 that are given a rack, a plug and a number of steps.
func checkAllRefused(t *testing.T, r impl.Rack, p impl.Plug, input []complex64, changes []impl.Change, faults []impl.Fault, n int) {
	t.Helper()
	checkChangesRefused(t, r, p, input, changes, n)
	checkFaultsRefused(t, r, p, input, faults, n)
	for _, every := range []int{1, 2, 500, 501, math.MaxInt, 0, -1} {
		if saves, ok := impl.SaveRuns(r, p, input, every, n); ok || len(saves) != 0 {
			t.Fatalf("SaveRuns(%v, %v, %g, %d, %d) = %q, %v", r, p, input, every, n, saves, ok)
		}
	}
	checkNotResumed(t, []string{impl.FormatRack(r)}, 0, p, input, 1, n)
}

func checkChangesRefused(t *testing.T, r impl.Rack, p impl.Plug, input []complex64, list []impl.Change, n int) {
	t.Helper()
	if got, heard, done, ok := impl.RunChanges(r, p, input, list, n); ok || !noRack(got) || len(heard) != 0 || len(done) != 0 {
		t.Fatalf("RunChanges(%v, %v, %g, %v, %d) = %v, %g, %v, %v", r, p, input, list, n, got, heard, done, ok)
	}
}

func checkFaultsRefused(t *testing.T, r impl.Rack, p impl.Plug, input []complex64, list []impl.Fault, n int) {
	t.Helper()
	if got, heard, ok := impl.RunFaults(r, p, input, list, n); ok || !noRack(got) || len(heard) != 0 {
		t.Fatalf("RunFaults(%v, %v, %g, %v, %d) = %v, %g, %v", r, p, input, list, n, got, heard, ok)
	}
	if i, ok := impl.FirstFault(r, p, input, list, n); ok || i != 0 {
		t.Fatalf("FirstFault(%v, %v, %g, %v, %d) = %d, %v", r, p, input, list, n, i, ok)
	}
}

func TestP10ChangesAndFaultsOfRacksThatAreNotValid(t *testing.T) {
	for _, r := range badRacks() {
		for _, p := range []impl.Plug{{}, {In: -1}, {In: len(r.Modules) - 1, Out: len(r.Modules) - 1}} {
			for _, n := range []int{0, 1, 5, 500, -1, 501} {
				checkAllRefused(t, r, p, samples(5, 6), nil, nil, n)
				checkAllRefused(t, r, p, samples(5, 6), changesOf(change(0, "cut 0"), change(1, "swap 0 sum")), faultsOf(mute, 0, 0, 5), n)
			}
		}
	}
	// A change would make the rack valid before the first step.
	checkChangesRefused(t, rackOf("g", 0, 0), impl.Plug{}, nil, change(0, "cut 0"), 3)
	checkChangesRefused(t, rackOf("gg", 0, 1, 1, 0), impl.Plug{}, nil, change(0, "swap 0 delay 0 0 0"), 3)
	checkChangesRefused(t, withModule(rackOf("gg"), 0, impl.Module{}), impl.Plug{Out: 1}, nil, change(0, "swap 0 sum"), 3)
}

func TestP10ChangesAndFaultsWithPlugsThatAreNotValid(t *testing.T) {
	changes, faults := changesOf(change(0, "cut 0"), change(1, "reset 0")), faultsOf(mute, 0, 0, 5)
	for _, r := range []impl.Rack{rackOf("g"), rackOf("d", 0, 0), rackOf("og", 0, 1), fullRack()} {
		size := len(r.Modules)
		for _, i := range append(oddIndices(size), -2, -3, -16) {
			for _, k := range []int{-1, 0, size - 1, i} {
				for _, n := range []int{0, 3} {
					checkAllRefused(t, r, impl.Plug{In: k, Out: i}, samples(1, 2), changes, faults, n)
					if i != -1 && k != -1 {
						checkAllRefused(t, r, impl.Plug{In: i, Out: k}, samples(1, 2), nil, nil, n)
					}
				}
			}
		}
		for in := -1; in < size; in++ {
			for out := range size {
				checkChanges(t, r, impl.Plug{In: in, Out: out}, samples(1, 2), changes, 3)
				checkFaults(t, r, impl.Plug{In: in, Out: out}, samples(1, 2), faults, 3)
				checkSaves(t, r, impl.Plug{In: in, Out: out}, samples(1, 2), 2, 3)
			}
		}
	}
	// Nothing can be listened to in a rack of no modules.
	for _, p := range []impl.Plug{{}, {In: -1}, {In: -1, Out: -1}, {Out: 1}, {In: 1}} {
		for _, n := range []int{0, 1, 500} {
			checkAllRefused(t, impl.Rack{}, p, samples(1), nil, nil, n)
			checkAllRefused(t, impl.Rack{}, p, samples(1), change(0, "add sum"), nil, n)
		}
	}
}

func TestP10NumbersOfStepsOfChangesAndFaults(t *testing.T) {
	changes, faults := changesOf(change(0, "cut 0"), change(500, "reset 0")), faultsOf(mute, 0, 0, 500)
	for _, r := range []impl.Rack{rackOf("g"), rackOf("odg", 0, 1, 1, 2, 2, 1)} {
		for _, n := range oddLengths() {
			checkAllRefused(t, r, impl.Plug{In: -1}, nil, nil, nil, n)
			checkAllRefused(t, r, impl.Plug{}, samples(1, 2, 3), changes, faults, n)
		}
		for n := range 501 {
			_, heard, done, one := impl.RunChanges(r, impl.Plug{}, nil, changes, n)
			_, faulty, two := impl.RunFaults(r, impl.Plug{}, nil, faults, n)
			saves, three := impl.SaveRuns(r, impl.Plug{}, nil, 100, n)
			if !one || !two || !three || len(heard) != n || len(done) != 2 || len(faulty) != n || len(saves) != 1+n/100 {
				t.Fatalf("runs of %v by %d are %v, %v, %v", r, n, one, two, three)
			}
		}
	}
	// The number of all steps of a run that is resumed, where the difference may be beyond the least integer.
	saves := slices.Repeat([]string{"sum\n"}, 40)
	for k := range 40 {
		for _, every := range []int{1, 3, 499, 500} {
			from := k * every
			for _, n := range append(oddLengths(), from, from-1, from+500, from+501, from+499, 0, 1, 499, 500, math.MinInt+from, math.MinInt+from-1, math.MinInt+from+1, math.MinInt+from+500) {
				if n >= from && n <= from+500 {
					if _, heard, ok := impl.ResumeRun(saves, k, impl.Plug{}, nil, every, n); !ok || len(heard) != n-from {
						t.Fatalf("ResumeRun from the save %d by %d, for %d steps, has %d outputs, %v", k, every, n, len(heard), ok)
					}
					continue
				}
				checkNotResumed(t, saves, k, impl.Plug{}, samples(1, 2), every, n)
			}
		}
	}
}

func TestP10ListsThatAreNotValid(t *testing.T) {
	for _, r := range []impl.Rack{rackOf("g"), rackOf("odg", 0, 1, 1, 2, 2, 1), fullRack()} {
		for _, at := range oddLengths() {
			for _, n := range []int{0, 3, 500} {
				checkChangesRefused(t, r, impl.Plug{}, samples(1), change(at, "cut 0"), n)
				checkChangesRefused(t, r, impl.Plug{}, samples(1), changesOf(change(0, "cut 0"), change(at, "x"), change(2, "cut 0")), n)
			}
		}
		for _, f := range oddFaults(len(r.Modules)) {
			for _, n := range []int{0, 3} {
				checkFaultsRefused(t, r, impl.Plug{}, samples(1), []impl.Fault{f}, n)
				checkFaultsRefused(t, r, impl.Plug{}, samples(1), append(faultsOf(mute, 0, 0, 5), f), n)
				checkFaultsRefused(t, r, impl.Plug{}, samples(1), append([]impl.Fault{f}, faultsOf(mute, 0, 0, 5)...), n)
			}
		}
		for _, many := range []int{19, 20, 21, 22, 29, 30, 31, 32, 100, 256, 276, 65536} {
			changes, faults := make([]impl.Change, many), slices.Repeat(faultsOf(stick, 0, 1, 1), many)
			if many > 30 {
				checkChangesRefused(t, r, impl.Plug{}, samples(1), changes, 3)
			} else {
				checkChanges(t, r, impl.Plug{}, samples(1), changes, 3)
			}
			if many > 20 {
				checkFaultsRefused(t, r, impl.Plug{}, samples(1), faults, 3)
			} else {
				checkFaults(t, r, impl.Plug{}, samples(1), faults, 3)
			}
		}
	}
}
