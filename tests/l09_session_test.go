package tests

import (
	"slices"
	"strings"
	"testing"

	"loop.example/g03223/impl"
)

func sameSession(a impl.Session, b impl.Session) bool {
	return sameRack(a.Rack, b.Rack) && slices.EqualFunc(a.Past, b.Past, sameRack)
}

func copyOfSession(s impl.Session) impl.Session {
	past := []impl.Rack{}
	for _, r := range s.Past {
		past = append(past, copyOfRack(r))
	}
	return impl.Session{Rack: copyOfRack(s.Rack), Past: past}
}

// sessionOf has a rack, and racks before.
func sessionOf(r impl.Rack, past ...impl.Rack) impl.Session {
	return impl.Session{Rack: r, Past: past}
}

// somePast are n racks that are valid, no two neighbours of which are the same.
func somePast(n int) []impl.Rack {
	racks, list := []impl.Rack{{}, rackOf("dtg", 0, 1, 1, 2), rackOf("+"), rackOf("odxtmh", 0, 1, 1, 0), rackOf("gd", 1, 0)}, []impl.Rack{}
	for i := range n {
		list = append(list, copyOfRack(racks[i%len(racks)]))
	}
	return list
}

// validSession is what IsSession should return.
func validSession(s impl.Session) bool {
	for _, r := range append(slices.Clone(s.Past), s.Rack) {
		if !validRack(r) {
			return false
		}
	}
	return len(s.Past) <= 20
}

// badSessions are wrong in one thing, and some in several.
func badSessions() []impl.Session {
	list, good := []impl.Session{}, rackOf("odg", 0, 1, 1, 2, 2, 1)
	for i, bad := range badRacks() {
		n := []int{1, 2, 3, 10, 19, 20}[i%6]
		list = append(list, sessionOf(bad), sessionOf(bad, somePast(n)...), sessionOf(bad, slices.Repeat([]impl.Rack{bad}, n)...))
		for _, k := range []int{0, n / 2, n - 1} {
			past := somePast(n)
			past[k] = bad
			list = append(list, sessionOf(good, past...))
		}
	}
	for _, n := range []int{21, 22, 40, 41, 256, 276} {
		list = append(list, sessionOf(good, somePast(n)...), sessionOf(impl.Rack{}, make([]impl.Rack, n)...))
	}
	return append(list, sessionOf(rackOf("g", 0, 0), somePast(21)...), sessionOf(good, slices.Repeat([]impl.Rack{rackOf("g", 0, 0)}, 21)...))
}

// goodSessions have racks of all sorts, and as many racks before as a session may have, or fewer.
func goodSessions() []impl.Session {
	list := []impl.Session{}
	racks := append(manyRacks(), runRacks()...)
	for i, r := range racks {
		list = append(list, sessionOf(r, somePast([]int{0, 20, 1, 19, 2, 7}[i%6])...))
		if i%10 == 0 {
			list = append(list, sessionOf(r, racks[i:min(i+20, len(racks))]...))
		}
	}
	return list
}

func textOrNone(text string) string {
	if text == "" {
		return "none"
	}
	return strings.TrimPrefix(text, " ")
}

// replacedModule replaces the module i by what a power makes of it.
func replacedModule(r impl.Rack, i int, use func(m impl.Module) (impl.Module, bool)) (impl.Rack, bool) {
	if i < 0 || i >= len(r.Modules) {
		return impl.Rack{}, false
	}
	m, ok := use(r.Modules[i])
	return impl.Rack{Modules: slices.Concat(r.Modules[:i], []impl.Module{m}, r.Modules[i+1:]), Cables: r.Cables}, ok
}

// playedRack returns the texts of all outputs, each behind a space.
func playedRack(r impl.Rack, p impl.Plug, input []complex64, n int) (impl.Rack, []string, bool) {
	next, heard, ok := impl.RunRack(r, p, input, n)
	texts := []string{}
	for _, z := range heard {
		texts = append(texts, partsOf(z))
	}
	return next, texts, ok
}

// changedByLine does what the functions do, with a rack that is valid and a line that may be any. It returns the rack and the output, and whether the line changes the rack.
func changedByLine(r impl.Rack, line string) (next impl.Rack, out string, ok bool) {
	p := partList{parts: strings.Split(line, " ")}
	word, n, out, fine := p.parts[0], len(p.parts), "ok", true
	switch word {
	case "add":
		m, read := moduleIn(strings.TrimPrefix(line, "add "))
		i := 0
		next, i, ok = impl.AddModule(r, m)
		fine, out = read, textOrNone(integersOf(i))
	case "swap":
		m, read := moduleIn(strings.Join(p.parts[min(2, n):], " "))
		next, ok = impl.SwapModule(r, p.integer(1), m)
		fine = read
	case "drop":
		next, ok = impl.DropModule(r, p.integer(1))
		fine = n == 2
	case "cable":
		next, ok = impl.AddCable(r, p.integer(1), p.integer(2))
		fine = n == 3
	case "cut":
		next, ok = impl.DropCable(r, p.integer(1))
		fine = n == 2
	case "reset":
		next, ok = replacedModule(r, p.integer(1), impl.ResetModule)
		fine = n == 2
	case "set":
		next, ok = replacedModule(r, p.integer(1), func(m impl.Module) (impl.Module, bool) { return impl.ControlModule(m, p.point(2)) })
		fine = n == 4
	case "run":
		texts := []string{}
		next, texts, ok = playedRack(r, impl.Plug{In: -1, Out: p.integer(1)}, nil, p.integer(2))
		fine, out = n == 3, textOrNone(strings.Join(texts[max(0, len(texts)-1):], ""))
	case "play":
		input, texts := []complex64{}, []string{}
		for k := 3; k < n; k += 2 {
			input = append(input, p.point(k))
		}
		next, texts, ok = playedRack(r, impl.Plug{In: p.integer(1), Out: p.integer(2)}, input, len(input))
		fine, out = n > 3, textOrNone(strings.Join(texts, ""))
	}
	return next, out, ok && fine && !p.bad
}

// answeredByRack returns the output of a line that asks something, and whether it is such a line.
func answeredByRack(r impl.Rack, line string) (string, bool) {
	p := partList{parts: strings.Split(line, " ")}
	word, n := p.parts[0], len(p.parts)
	switch {
	case line == "order":
		order, ok := impl.OrderOf(r)
		return textOrNone(integersOf(order...)), ok
	case line == "jacks":
		text := ""
		for _, group := range impl.JacksOf(r) {
			text += " " + strings.ReplaceAll(textOrNone(integersOf(group...)), " ", ",")
		}
		return textOrNone(text), true
	case word == "reach" && n == 2:
		reach, ok := impl.ReachOf(r, p.integer(1))
		return textOrNone(integersOf(reach...)), ok && !p.bad
	case word == "tell" && n == 2:
		i := p.integer(1)
		if i < 0 || i >= len(r.Modules) {
			return "", false
		}
		z, ok := impl.TellModule(r.Modules[i])
		return textOrNone(partsOf(z)), ok && !p.bad
	}
	return "", false
}

// executed is what ExecuteLine should return.
func executed(s impl.Session, line string) (impl.Session, string) {
	if !validSession(s) {
		return s, "no"
	}
	n := len(s.Past)
	if line == "undo" && n > 0 {
		return sessionOf(s.Past[n-1], s.Past[:n-1]...), "ok"
	}
	if out, ok := answeredByRack(s.Rack, line); ok {
		return s, out
	}
	if next, out, ok := changedByLine(s.Rack, line); ok {
		past := slices.Concat(s.Past, []impl.Rack{s.Rack})
		return sessionOf(next, past[max(0, n-19):]...), out
	}
	return s, "no"
}

// checkLine executes any line, and returns what comes of it.
func checkLine(t *testing.T, s impl.Session, line string) (impl.Session, string) {
	t.Helper()
	want, wantOut := executed(s, line)
	got, out := impl.ExecuteLine(s, line)
	if out != wantOut || !sameSession(got, want) {
		t.Fatalf("ExecuteLine(%v, %q) = %v, %q; not %v, %q", s, line, got, out, want, wantOut)
	}
	if out != "no" && !impl.IsSession(got) {
		t.Fatalf("ExecuteLine(%v, %q) = %v, which is not valid", s, line, got)
	}
	return got, out
}

// checkNoLine has lines that are refused, and change nothing.
func checkNoLine(t *testing.T, s impl.Session, lines ...string) {
	t.Helper()
	before := copyOfSession(s)
	for _, line := range lines {
		if got, out := checkLine(t, s, line); out != "no" || !sameSession(got, before) || !sameSession(s, before) {
			t.Fatalf("ExecuteLine(%v, %q) = %v, %q", before, line, got, out)
		}
	}
}

// checkOutputs executes lines, each of which is followed by its output, one after the other.
func checkOutputs(t *testing.T, s impl.Session, lines ...string) impl.Session {
	t.Helper()
	for pair := range slices.Chunk(lines, 2) {
		next, out := checkLine(t, s, pair[0])
		if out != pair[1] {
			t.Fatalf("the output of %q is %q, not %q, in %v", pair[0], out, pair[1], s)
		}
		s = next
	}
	return s
}

func TestP10ConstantsOfSessions(t *testing.T) {
	if impl.MaxPast != 20 || impl.MaxScript != 50 {
		t.Error("MaxPast or MaxScript")
	}
}

func TestP10NewSession(t *testing.T) {
	if s := impl.NewSession(); len(s.Rack.Modules) != 0 || len(s.Rack.Cables) != 0 || len(s.Past) != 0 || !impl.IsSession(s) {
		t.Errorf("NewSession() = %v", s)
	}
}

func TestP10IsSession(t *testing.T) {
	for _, s := range goodSessions() {
		if !impl.IsSession(s) || !validSession(s) {
			t.Fatalf("%v is not valid", s)
		}
	}
	for _, s := range badSessions() {
		if impl.IsSession(s) || validSession(s) {
			t.Fatalf("%v is valid", s)
		}
	}
	for n := range 25 {
		if s := sessionOf(rackOf("dg", 0, 1, 1, 0), somePast(n)...); impl.IsSession(s) != (n <= 20) {
			t.Errorf("a session with %d racks before", n)
		}
		for k := range n {
			past := somePast(n)
			past[k] = rackOf("gg", 0, 1, 1, 0)
			if impl.IsSession(sessionOf(impl.Rack{}, past...)) {
				t.Errorf("a session with %d racks before, of which %d has no order, is valid", n, k)
			}
		}
	}
}
