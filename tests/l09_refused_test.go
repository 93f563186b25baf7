package tests

import (
	"math"
	"strings"
	"testing"

	"loop.example/g03223/impl"
)

// goodLines are executed in busySession, each with another word.
func goodLines() []string {
	return []string{"add gain 1p0", "swap 1 delay 0 0 0", "drop 0", "cable 0 2", "cut 1", "reset 1", "set 0 1p0 -3p-1", "run 2 3", "play 1 2 1p0 -0 nan inf", "undo", "tell 0", "order", "reach 0", "jacks"}
}

// busySession has something to do for all goodLines, and for many others.
func busySession() impl.Session {
	return sessionOf(rackOf("xd+tmg", 0, 1, 1, 2, 2, 1, 2, 3), somePast(3)...)
}

func TestP9SessionsThatAreNotValid(t *testing.T) {
	lines := append(goodLines(), "", "add sum", "run 0 0", "cut 0", "drop 1", "swap 0 sum", "swap 1 sum", "no")
	for i, s := range badSessions() {
		for k, line := range lines {
			if i < 100 || (i+k)%5 == 0 {
				checkNoLine(t, s, line)
			}
		}
	}
	// A line would make the session valid.
	checkNoLine(t, sessionOf(rackOf("g", 0, 0), somePast(2)...), "drop 0", "cut 0", "undo", "swap 0 delay 0 0 0")
	checkNoLine(t, sessionOf(rackOf("gg", 0, 1, 1, 0)), "drop 0", "drop 1", "cut 0", "cut 1", "swap 0 delay 0 0 0")
	checkNoLine(t, sessionOf(chainOf(17, false)), "drop 16", "drop 0")
	checkNoLine(t, sessionOf(impl.Rack{}, somePast(21)...), "undo")
	past := somePast(20)
	past[0] = rackOf("g", 0, 0)
	checkNoLine(t, sessionOf(rackOf("++"), past...), "run 0 0", "add sum", "undo")
	past[0], past[19] = past[1], past[0]
	checkNoLine(t, sessionOf(rackOf("++"), past...), "run 0 0", "add sum", "undo", "order")
}

func TestP9WordsOfNoLine(t *testing.T) {
	s := busySession()
	checkNoLine(t, s,
		"", " ", "  ", "\n", "\t", "\x00", "0", "1p0", "sum", "gain 1p0", "delay 0 0 0", "help", "quit", "exit", "redo", "reset", "new", "save", "load", "list", "print", "feeds 1", "feeds", "permute 1 0", "trace 3", "step", "quiet 0 3", "told 0", "tells 0", "turn 0 1p0 0", "control 0 1p0 0", "connect 0 2", "uncable 0", "remove 0", "delete 0", "ok", "no", "none",
		"AddModule sum", "ResetModule 1", "undo()", "order;", "order.", "orders", "rder", "orde", "jack", "jackss", "undos", "und", "unde", "play", "addsum", "add,sum", "add:sum", "add=sum", "drop0", "tell0", "reach0", "run0 1", "cut0", "cable0 2", "reset1", "-order", "--order", "/order", "order#", "# order", "order undo", "undo order", "order order", "jacks jacks", "undo undo", "0 tell", "0 drop", "sum add",
		"\u00a0order", "order\u00a0", "\ufefforder", "order\u200b", "ordеr", "ｏrder", "jаcks", "ünd", "undo\u0301", "ſet 0 1p0 0", "tell ０", "tell ٠",
	)
	for _, line := range goodLines() {
		word, rest, _ := strings.Cut(line, " ")
		if _, out := checkLine(t, s, line); out == "no" {
			t.Fatalf("%q is refused", line)
		}
		for _, other := range []string{strings.ToUpper(word), strings.ToUpper(word[:1]) + word[1:], word[:1] + strings.ToUpper(word[1:]), word + "s", word[1:], word[:len(word)-1], "\xff" + word, word + "\xff", word[:1] + "\xc3" + word[1:], word[:1] + "\x00" + word[1:], word[:1] + " " + word[1:], "\"" + word + "\"", word + ":", word + ","} {
			checkNoLine(t, s, strings.TrimSuffix(other+" "+rest, " "))
		}
	}
}

func TestP9PartsOfLinesTooFewAndTooMany(t *testing.T) {
	s := busySession()
	checkNoLine(t, s,
		"add", "add ", "swap", "swap ", "swap 0", "swap 0 ", "swap sum", "swap sum 0", "swap 0 0 sum", "swap 0 1 sum", "swap 0 sum sum", "swap 0 sum 0", "add sum sum", "add 0 sum", "add sum 0", "add gain", "add gain 1p0 0", "swap 0 gain", "swap 0 gain 1p0 1p0", "add add sum", "add swap 0 sum", "swap 0 add sum", "add cable 0 2", "add\nsum", "add sum\nsum", "add sum\n",
		"drop", "drop ", "drop 0 1", "drop 0 0", "drop 0 ", "drop all", "cable", "cable 0", "cable 0 ", "cable 0 2 0", "cable 0 2 2", "cable 0 2 ", "cable 0,2", "cable 0-2", "cut", "cut ", "cut 1 0", "cut 0 1", "cut 0 0", "reset", "reset ", "reset 1 0", "reset 1 1", "reset all",
		"set", "set 0", "set 0 ", "set 0 1p0", "set 0 1p0 ", "set 0 1p0 0 0", "set 0 1p0 0 1p0 0", "set 1p0 0", "set 1p0 0 0", "set 0 0 0 0", "run", "run 2", "run 2 ", "run 2 3 0", "run -1 2 3", "run 2 3 1p0 0", "run 2 3 3",
		"play", "play 1", "play 1 2", "play 1 2 ", "play -1", "play -1 2", "play 1 2 1p0", "play 1 2 1p0 ", "play 1 2 1p0 0 1p0", "play 1 2 1p0 0 1p0 ", "play 1 2 1p0 0 ", "play 1 2 1p0 0 1p0 0 0", "play 1 1p0 0", "play 1 1p0 0 0", "play 1p0 0", "play 1 2 2 1p0 0",
		"undo ", "undo 0", "undo 1", "undo all", "tell", "tell ", "tell 0 0", "tell 0 1", "tell 0 ", "tell all", "order ", "order 0", "order none", "reach", "reach ", "reach 0 0", "reach 0 2", "reach 0 ", "jacks ", "jacks 0", "jacks none",
	)
}

func TestP9SpacesTabsAndNewlinesInLines(t *testing.T) {
	s := busySession()
	for _, line := range goodLines() {
		for _, c := range []string{" ", "\t", "\n", "\r", "\r\n", "\v", "\f", "\x00", "\u00a0", "\u2003", "\u3000", "\ufeff", "\u200b", "\x85", "  ", " \n", "\xff"} {
			checkNoLine(t, s, c+line, line+c, c+line+c)
			for i, b := range []byte(line) {
				if b == ' ' {
					checkNoLine(t, s, line[:i]+" "+c+line[i+1:], line[:i]+c+" "+line[i+1:])
					if c != " " {
						checkNoLine(t, s, line[:i]+c+line[i+1:])
					}
				}
			}
			for i := 1; i < len(line); i++ {
				checkLine(t, s, line[:i]+c+line[i:])
			}
		}
	}
}

func TestP9IntegersOfLinesThatAreNotWrittenSo(t *testing.T) {
	s := busySession()
	for _, n := range oddIntegerTexts() {
		checkNoLine(t, s,
			"swap "+n+" gain 1p0", "drop "+n, "cable "+n+" 2", "cable 0 "+n, "cut "+n, "reset "+n, "set "+n+" 1p0 0", "run "+n+" 3", "run 2 "+n, "run "+n+" 0", "play "+n+" 2 1p0 0", "play 1 "+n+" 1p0 0", "tell "+n, "reach "+n,
			"add delay "+n+" 0 0", "add slicer "+n, "add slicer 0 1p0 0 "+n, "add hold "+n+" 0 0 0", "add hold 5 "+n+" 0 0", "swap 3 slicer "+n, "swap 1 delay "+n+" 0 0 0 0",
		)
	}
	// -0 and +1, where 0 and 1 would be taken, and -1 that is written in another way.
	checkNoLine(t, s, "drop -0", "tell -0", "reach +1", "run 2 -0", "run 2 +1", "run 2 03", "run -0 3", "play -01 2 1p0 0", "play - 1 2 1p0 0", "play −1 2 1p0 0", "play none 2 1p0 0", "play -0 2 1p0 0", "cable -0 2", "cable 0 02", "set 00 1p0 0", "reset 01", "cut -0", "swap -0 sum", "run 2 1p0", "run 2 3p0", "drop 1p0", "tell 0.0", "tell 1e0")
}

func TestP9NumbersOfLinesThatAreNotWrittenSo(t *testing.T) {
	s := busySession()
	for _, x := range oddNumberTexts() {
		checkNoLine(t, s,
			"set 0 "+x+" 0", "set 0 0 "+x, "set 5 "+x+" 1p0", "set 5 1p0 "+x, "play 1 2 "+x+" 0", "play 1 2 0 "+x, "play 1 2 1p0 0 "+x+" 0", "play 1 2 1p0 0 0 "+x, "play -1 2 "+x+" 0", "play 1 2 1p0 "+x+" 0 0",
			"add gain "+x, "add source "+x+" 0 0 0", "add source 0 0 0 "+x, "add meter "+x, "add delay 0 "+x+" 0", "add hold 1 0 0 "+x, "swap 5 gain "+x, "swap 0 mixer 0 "+x+" 0 0", "swap 3 slicer 0 0 "+x+" 5",
		)
	}
}

func TestP9IndicesOfNothing(t *testing.T) {
	for _, s := range []impl.Session{{}, busySession(), sessionOf(rackOf("g")), sessionOf(rackOf("dd", 0, 1, 1, 0)), sessionOf(fullRack(), somePast(20)...), sessionOf(chainOf(15, true))} {
		for _, i := range oddIndices(len(s.Rack.Modules)) {
			k := integersOf(i)
			checkNoLine(t, s, "swap"+k+" sum", "swap"+k+" delay 0 0 0", "drop"+k, "cable"+k+" 0", "cable 0"+k, "cable"+k+k, "reset"+k, "set"+k+" 1p0 0", "run"+k+" 3", "run"+k+" 0", "play 0"+k+" 1p0 0", "play -1"+k+" 1p0 0", "play"+k+k+" 1p0 0", "tell"+k, "reach"+k)
			if i != -1 {
				checkNoLine(t, s, "play"+k+" 0 1p0 0")
			}
		}
		for _, k := range oddIndices(len(s.Rack.Cables)) {
			checkNoLine(t, s, "cut"+integersOf(k))
		}
	}
}

// TestP9PowersThatAreMissing asks each kind of module for each power that it does not have.
func TestP9PowersThatAreMissing(t *testing.T) {
	for i, m := range append(plainModules(), rackOf("oxgd+tmh").Modules...) {
		s := sessionOf(impl.Rack{Modules: []impl.Module{impl.NewSum(), m}, Cables: cablesOf(0, 1)}, somePast(i%21)...)
		reset, control, tell := namedPowers(m.Kind)
		for line, has := range map[string]bool{"reset 1": reset, "set 1 1p0 0": control, "set 1 nan -inf": control, "tell 1": tell} {
			if !has {
				checkNoLine(t, s, line)
			} else if _, out := checkLine(t, s, line); out == "no" {
				t.Fatalf("%q is refused for %v", line, m)
			}
		}
		checkNoLine(t, s, "reset 0", "set 0 1p0 0", "tell 0")
	}
}

func TestP9TextsOfNoModuleInLines(t *testing.T) {
	s := busySession()
	for _, text := range []string{
		"", "module", "cable 0 1", "sums", "Sum", "SUM", "summ", "gain", "gain 1", "gain 2p0", "gain  1p0", "gain 1p0 ", " gain 1p0", "gain 1p0\n", "gain\t1p0", "source 0 0 0", "source 0 0 0 0 0", "delay", "delay 0", "delay 0 0", "delay 1 0 0", "delay -1 0 0", "delay 16" + strings.Repeat(" 0 0", 16), "delay 0" + strings.Repeat(" 0 0", 17), "slicer", "slicer 0 nan 0 5", "slicer 0 0 0 1 -0 0 2", "slicer 0 1p0 0 5 1p0 0 6", "slicer 0 1p0 0",
		moduleTextOf(impl.Module{Kind: 6, Table: lineTable(65)}), moduleTextOf(impl.Module{Kind: 6, Table: lineTable(64)}) + " 1p9 1p9", moduleTextOf(impl.Module{Kind: 6, Table: lineTable(64)}) + " 0", "meter", "meter -0", "meter nan", "meter -1p0", "hold", "hold 0 0 0 0", "hold 101 0 0 0", "hold 5 5 0 0", "hold 5 -1 0 0", "hold 5 0 0", "\xff", "sum\xff", "\xffsum", "gain \xff", "sum\nsum", "sum\ncable 0 0",
	} {
		checkNoLine(t, s, "add "+text, "swap 0 "+text, "swap 5 "+text)
		checkNoLine(t, impl.NewSession(), "add "+text)
	}
	for _, line := range []string{"add " + moduleTextOf(impl.Module{Kind: 6, Table: lineTable(64)}), "swap 2 " + moduleTextOf(impl.Module{Kind: 6, Table: lineTable(64)}), "add delay 15" + strings.Repeat(" 0 0", 16)} {
		if _, out := checkLine(t, s, line); out == "no" {
			t.Errorf("%q is refused", line)
		}
	}
}

// TestP9RacksThatWouldNotBeValid has lines that are well formed, and break a rule of racks.
func TestP9RacksThatWouldNotBeValid(t *testing.T) {
	checkNoLine(t, sessionOf(chainOf(16, false)), "add sum", "cable 15 0", "cable 0 0", "cable 9 8", "swap 16 sum")
	checkNoLine(t, sessionOf(crowdedRack()), "cable 0 4", "cable 0 1", "cable 4 2")
	checkNoLine(t, sessionOf(fullRack(), somePast(20)...), "add sum", "add delay 0 0 0", "cable 3 3", "cable 0 1")
	// No delay is left in a loop.
	loop := sessionOf(rackOf("gd+", 0, 1, 1, 2, 2, 0), somePast(1)...)
	checkNoLine(t, loop, "swap 1 sum", "swap 1 gain 1p0", "swap 1 hold 1 0 0 0", "swap 1 source 0 0 0 0", "cable 0 0", "cable 2 2", "cable 0 2 ", "swap 1 slicer 0", "swap 1 meter 0", "swap 1 mixer 0 0 0 0")
	checkOutputs(t, loop, "swap 0 delay 0 0 0", "ok", "swap 1 sum", "ok", "swap 0 sum", "no", "cut 2", "ok", "swap 0 sum", "ok", "cable 2 0", "no", "cable 0 0", "no", "drop 1", "ok", "cable 1 0", "ok", "cable 0 1", "no")
	for _, r := range loopRacks() {
		// The last cable of a rack without an order cannot be added.
		n := len(r.Cables) - 1
		if s := sessionOf(impl.Rack{Modules: r.Modules, Cables: r.Cables[:n]}); validRack(s.Rack) {
			checkNoLine(t, s, "cable"+integersOf(r.Cables[n].From, r.Cables[n].To))
		}
	}
}

func TestP10LinesWithAnyByteChanged(t *testing.T) {
	s := busySession()
	for _, line := range append(goodLines(), "add sum", "run 0 0", "play -1 0 0 0") {
		for _, other := range changedTexts(line, allBytes()) {
			checkLine(t, s, other)
		}
	}
	for _, line := range []string{"add slicer -1 1p0 0 5 0 1p1 6", "swap 3 hold 5 3 0 7p-149", "play 1 2 1p0 -0 nan inf -3p-149 0"} {
		for _, other := range changedTexts(line, []byte(someBytes)) {
			checkLine(t, s, other)
		}
	}
}

func TestP10LinesWithAnyPartChanged(t *testing.T) {
	s := busySession()
	words := []string{"add", "swap", "drop", "cable", "cut", "reset", "set", "run", "play", "undo", "tell", "order", "reach", "jacks", "sum", "gain", "delay", "cable", "", "0", "-0", "1", "2", "-1", "5", "6", "500", "501", "1p0", "-1p1", "2p0", "nan", "inf", "-inf", "0 0", "1 2 1p0", "gain 1p0", "\xff", "\n"}
	refused, all := 0, 0
	for _, line := range append(goodLines(), "add hold 5 3 1p0 0", "swap 2 source 0 1p0 1p0 0", "play 1 2 1p0 0 nan inf 1p1 -3p0") {
		for _, parts := range changedParts(strings.Split(line, " "), words) {
			all++
			if _, out := checkLine(t, s, strings.Join(parts, " ")); out == "no" {
				refused++
			}
		}
	}
	if refused < all/2 || refused > all-200 {
		t.Errorf("%d of %d lines are refused", refused, all)
	}
}

// TestP10LinesThatAreFarTooLong has what is refused soon, however long it is.
func TestP10LinesThatAreFarTooLong(t *testing.T) {
	const many = 300000
	s := busySession()
	for _, line := range []string{
		strings.Repeat(" ", many), strings.Repeat("s", many), "order" + strings.Repeat(" ", many), "add" + strings.Repeat(" ", many), "add sum" + strings.Repeat(" sum", many), "add slicer 0" + strings.Repeat(" 0 0 0", many), "swap 0 delay 0" + strings.Repeat(" 0 0", many), "play 1 2" + strings.Repeat(" 0 0", many), "play -1 2" + strings.Repeat(" 1p0", many), "run 2 " + strings.Repeat("0", many), "tell " + strings.Repeat("9", many), "undo" + strings.Repeat("\n", many), strings.Repeat("undo\n", many), strings.Repeat("\xff", many),
	} {
		if got, out := impl.ExecuteLine(s, line); out != "no" || !sameSession(got, busySession()) {
			t.Fatalf("the line %q and so on has the output %q", line[:30], out)
		}
	}
	if outputs, ok := impl.RunSession(strings.Repeat(" ", many) + "\nadd " + strings.Repeat("9", many)); !ok || len(outputs) != 2 || outputs[0] != "no" || outputs[1] != "no" {
		t.Errorf("the outputs of two long lines are %q, %v", outputs, ok)
	}
	for _, n := range []int{math.MaxInt, math.MinInt} {
		checkNoLine(t, s, "run 0"+integersOf(n), "run"+integersOf(n, n), "tell"+integersOf(n), "cut"+integersOf(n), "cable"+integersOf(n, n))
	}
}
