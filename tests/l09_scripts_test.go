package tests

import (
	"math/rand/v2"
	"slices"
	"strings"
	"testing"

	"loop.example/g03223/impl"
)

// checkScript runs a text, and executes its lines one by one.
func checkScript(t *testing.T, text string, want ...string) {
	t.Helper()
	outputs, ok := impl.RunSession(text)
	if !ok || !slices.Equal(outputs, want) {
		t.Fatalf("RunSession(%q) = %q, %v; not %q", text, outputs, ok, want)
	}
	s := impl.NewSession()
	for i, line := range strings.Split(text, "\n") {
		next, out := checkLine(t, s, line)
		if out != want[i] {
			t.Fatalf("the output of %q is %q, not %q", line, out, want[i])
		}
		s = next
	}
}

func checkNoScript(t *testing.T, text string) {
	t.Helper()
	if outputs, ok := impl.RunSession(text); ok || len(outputs) != 0 {
		t.Fatalf("RunSession(%.100q) = %q, %v", text, outputs, ok)
	}
}

func TestP10NamedScripts(t *testing.T) {
	checkScript(t, "add source 0 1p0 1p0 0\nadd gain 1p1\ncable 0 1\nrun 1 2\norder\nundo\ntell 0\ncable 1 0\njacks", "0", "1", "ok", "0 1p1", "0 1", "ok", "1p0 0", "no", "0 1")
	checkScript(t, "undo\nadd sum\nundo\nundo\norder\nadd sum\norder", "no", "0", "ok", "no", "none", "0", "0")
	checkScript(t, "add hold 2 0 0 0\nplay 0 0 1p0 0 1p1 0 3p0 0\ntell 0\nreset 0\ntell 0\nset 0 1p0 0", "0", "1p0 0 1p0 0 3p0 0", "3p0 0", "ok", "0 0", "no")
	checkScript(t, "add slicer 0 1p0 0 5 -1p0 0 6\nplay 0 0 3p0 1p0 -3p-1 0 nan 0\ntell 0\nundo\ntell 0\nrun 0 1\ntell 0", "0", "1p0 0 -1p0 0 0 0", "-1p0 0", "ok", "0 0", "1p0 0", "5p0 0")
	checkScript(t, "add meter 0\nplay 0 0 -3p0 1p0 0 -1p2\ntell 0\nadd mixer 0 1p0 1p0 0\nplay 1 1 1p0 0 1p0 0 1p0 0\ntell 1", "0", "-3p0 1p0 0 -1p2", "1p2 0", "1", "1p0 0 0 1p0 -1p0 0", "-0 -1p0")
	checkScript(t, "add delay 0 0 0 0 0\nadd gain 1p-1\ncable 0 1\ncable 1 0\nplay 0 1 1p0 0 0 0 0 0 0 0 0 0 0 0 0 0\nrun 0 0\nswap 0 sum\ndrop 0\njacks", "0", "1", "ok", "ok", "0 0 0 0 1p-1 0 0 0 1p-2 0 0 0 1p-3 0", "none", "no", "ok", "0")
}

// TestP10LinesOfScripts has texts with few lines, all of which are counted, also empty ones.
func TestP10LinesOfScripts(t *testing.T) {
	checkScript(t, "", "no")
	checkScript(t, "\n", "no", "no")
	checkScript(t, "\n\n", "no", "no", "no")
	checkScript(t, "add sum", "0")
	checkScript(t, "add sum\n", "0", "no")
	checkScript(t, "\nadd sum", "no", "0")
	checkScript(t, "add sum\n\nadd sum", "0", "no", "1")
	checkScript(t, "add sum\n\n\norder\n\n", "0", "no", "no", "0", "no", "no")
	checkScript(t, "add sum\r\norder\r\n", "no", "no", "no")
	checkScript(t, "add sum\rorder", "no")
	checkScript(t, "add sum\n order\norder \n\torder\norder", "0", "no", "no", "no", "0")
	checkScript(t, "add sum;order\nadd\nsum\norder", "no", "no", "no", "none")
	checkScript(t, "\xff\nadd sum\xff\nadd sum\n\x00\n\xed\xa0\x80", "no", "no", "0", "no", "no")
	checkScript(t, "add sum\vadd sum\fadd sum\u0085add sum\u2028add sum", "no")
}

func TestP10LongScripts(t *testing.T) {
	for n := 1; n <= 50; n++ {
		checkScript(t, strings.Repeat("\n", n-1), slices.Repeat([]string{"no"}, n)...)
		checkScript(t, strings.Repeat("order\n", n-1)+"order", slices.Repeat([]string{"none"}, n)...)
		want := []string{"0"}
		for i := 1; i < n; i++ {
			want = append(want, []string{"none", "1p0 0", "ok"}[i%3])
		}
		text := "add source 0 1p0 1p0 0"
		for i := 1; i < n; i++ {
			text += []string{"\nrun 0 0", "\nrun 0 1", "\nundo"}[i%3]
		}
		checkScript(t, text, want...)
	}
	for _, n := range []int{50, 51, 52, 100, 255, 256, 300, 305, 65536} {
		checkNoScript(t, strings.Repeat("\n", n))
		checkNoScript(t, strings.Repeat("add sum\n", n))
		checkNoScript(t, strings.Repeat("order\n", n)+"order")
		checkNoScript(t, "add sum\n"+strings.Repeat("\n", n-1)+"x")
	}
	checkScript(t, strings.Repeat("order\n", 49), append(slices.Repeat([]string{"none"}, 49), "no")...)
	checkNoScript(t, strings.Repeat("order\n", 49)+"\n")
	checkNoScript(t, strings.Repeat("order\n", 50))
}

// TestP9ScriptsKeepSomeRacks changes a rack 30 times, and takes back what can be taken back.
func TestP9ScriptsKeepSomeRacks(t *testing.T) {
	lines, want := []string{"add sum"}, []string{"0"}
	for i := 1; i < 28; i++ {
		lines, want = append(lines, "swap 0 gain "+numberTextOf(float32(i))), append(want, "ok")
	}
	for range 20 {
		lines, want = append(lines, "undo"), append(want, "ok")
	}
	lines, want = append(lines, "undo", "play 0 0 1p0 0"), append(want, "no", "7p0 0")
	checkScript(t, strings.Join(lines, "\n"), want...)
}

func TestP9RandomScripts(t *testing.T) {
	choice := rand.New(rand.NewPCG(53, 54))
	for range 200 {
		s, lines, want := impl.NewSession(), []string{}, []string{}
		for range 1 + choice.IntN(50) {
			line := randomLine(choice, s)
			next, out := executed(s, line)
			s, lines, want = next, append(lines, line), append(want, out)
		}
		checkScript(t, strings.Join(lines, "\n"), want...)
	}
}

// TestP10ScriptsBeginAnew runs texts one after the other, with nothing kept.
func TestP10ScriptsBeginAnew(t *testing.T) {
	for range 3 {
		checkScript(t, "order\nundo\nadd sum\nadd sum\ncable 0 1", "none", "no", "0", "1", "ok")
	}
	first, _ := impl.RunSession("add sum\norder")
	second, _ := impl.RunSession("add sum\norder")
	for i := range second[:cap(second)] {
		second[:cap(second)][i] = "x"
	}
	if third, ok := impl.RunSession("add sum\norder"); !ok || !slices.Equal(first, []string{"0", "0"}) || !slices.Equal(third, first) {
		t.Errorf("the outputs are %q and %q", first, third)
	}
	if s := impl.NewSession(); !noRack(s.Rack) || len(s.Past) != 0 {
		t.Errorf("NewSession() = %v", s)
	}
}
