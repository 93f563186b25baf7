package tests

import (
	"slices"
	"testing"

	"loop.example/g03223/impl"
)

// roomySession returns s with room behind all its slices, in which there is something, and a function that reports whether all is as it was.
func roomySession(s impl.Session) (impl.Session, func() bool) {
	past, n := []impl.Rack{}, len(s.Past)
	rack, sameNow := roomyRack(s.Rack)
	unchanged := []func() bool{sameNow}
	for _, r := range append(slices.Clone(s.Past), rackOf("dtg", 0, 1), rackOf("+"), rackOf("g", 0, 0)) {
		roomy, same := roomyRack(r)
		past, unchanged = append(past, roomy), append(unchanged, same)
	}
	whole := copyOfSession(sessionOf(impl.Rack{}, past...))
	return sessionOf(rack, past[:n]...), func() bool {
		for _, same := range unchanged {
			if !same() {
				return false
			}
		}
		return slices.EqualFunc(past, whole.Past, sameRack)
	}
}

// tightSession returns s with no room behind its slices.
func tightSession(s impl.Session) impl.Session {
	past := []impl.Rack{}
	for _, r := range s.Past {
		past = append(past, tightRack(r))
	}
	return sessionOf(tightRack(s.Rack), slices.Clip(past)...)
}

// scribbleSession writes all over the racks of a session, and over the room behind all slices.
func scribbleSession(s impl.Session) {
	scribbleRack(s.Rack)
	past := s.Past[:cap(s.Past)]
	for k := range past {
		scribbleRack(past[k])
		past[k] = impl.Rack{Modules: []impl.Module{{Kind: 1234}}}
	}
}

// keptLines are lines of all words, and some that are refused, for a session with a rack of two modules or more.
func keptLines() []string {
	return append(goodLines(), "add delay 0 1p0 0", "add slicer 0 1p0 0 5", "swap 0 delay 0 1p0 0 1p1 0", "swap 1 slicer 0 1p0 0 5", "swap 0 sum", "drop 1", "cut 0", "cable 0 1", "cable 1 0", "cable 0 0", "reset 0", "set 1 1p0 0", "run 0 0", "run 1 0", "run 0 3", "play -1 1 1p0 0", "play 0 0 1p0 0 0 1p0", "tell 1", "reach 1", "", "no", "undo ", "drop 16", "add sum sum", "run 0 501", "set 0 1 1")
}

// keptSessions have rings and tables in all their racks.
func keptSessions() []impl.Session {
	racks := keptRacks()
	list := []impl.Session{sessionOf(rackOf("g")), sessionOf(impl.Rack{}, racks...)}
	for i, r := range racks {
		list = append(list, sessionOf(r), sessionOf(r, racks[i]), sessionOf(r, racks...))
		past := []impl.Rack{}
		for k := range 20 {
			past = append(past, racks[(i+k)%len(racks)])
		}
		list = append(list, sessionOf(r, past[:19]...), sessionOf(r, past...), sessionOf(r, append(past, r)...), sessionOf(rackOf("dtg", 2, 2), past...), sessionOf(r, append(past[:10:10], rackOf("tdg", 2, 2))...))
	}
	return list
}

func TestP10LinesLeaveSessionsAlone(t *testing.T) {
	refused := 0
	for _, made := range append(keptSessions(), badSessions()[:60]...) {
		for _, line := range keptLines() {
			s, same := roomySession(made)
			got, out := impl.ExecuteLine(s, line)
			if !same() {
				t.Fatalf("%q changes %v, or what is behind it", line, made)
			}
			tight, outToo := impl.ExecuteLine(tightSession(made), line)
			if out != outToo || !sameSession(got, tight) {
				t.Fatalf("%q in %v depends on a capacity: %v, %q; %v, %q", line, made, got, out, tight, outToo)
			}
			if impl.IsSession(s) != impl.IsSession(tightSession(made)) || !same() {
				t.Fatalf("IsSession(%v) changes it, or depends on a capacity", made)
			}
			if out == "no" {
				refused++
			}
		}
	}
	if refused < 1000 {
		t.Errorf("%d lines are refused", refused)
	}
}

func TestP10SessionsShareNoMemory(t *testing.T) {
	for _, made := range append(keptSessions(), badSessions()[:60]...) {
		for _, line := range keptLines() {
			s, same := roomySession(made)
			got, _ := impl.ExecuteLine(s, line)
			want := copyOfSession(got)
			again, _ := impl.ExecuteLine(s, line)
			scribbleSession(again)
			if !same() || !sameSession(got, want) {
				t.Fatalf("%q in %v: the result has memory of what was given, or of an earlier result", line, made)
			}
			scribbleSession(s)
			if !sameSession(got, want) {
				t.Fatalf("%q in %v: what was given has memory of the result", line, made)
			}
		}
	}
}

// racksIn are the racks of a session, and those that are left in the room behind the ones before.
func racksIn(s impl.Session) []impl.Rack {
	return append([]impl.Rack{s.Rack}, s.Past[:cap(s.Past)]...)
}

// TestP10RacksOfSessionsShareNoMemory writes all over one rack of a result after the other.
func TestP10RacksOfSessionsShareNoMemory(t *testing.T) {
	shared := rackOf("dtg", 0, 1, 1, 2)
	sessions := append(keptSessions(), sessionOf(shared, shared), sessionOf(shared, shared, shared, shared), sessionOf(shared, slices.Repeat([]impl.Rack{shared}, 20)...), sessionOf(shared, slices.Repeat([]impl.Rack{shared}, 21)...), sessionOf(withCables(shared, 2, 2), shared, shared))
	for i, made := range sessions {
		for k, line := range keptLines() {
			if i > 6 && (i+k)%4 > 0 && i < len(sessions)-5 {
				continue
			}
			got, _ := impl.ExecuteLine(made, line)
			racks := racksIn(got)
			want := copyOfSession(sessionOf(impl.Rack{}, racks...)).Past
			for j, r := range racks {
				scribbleRack(r)
				want[j] = copyOfRack(r)
				if !slices.EqualFunc(racks, want, sameRack) {
					t.Fatalf("%q in %v: the rack %d of the result has memory of another one", line, made, j)
				}
			}
		}
	}
	if !sameRack(shared, rackOf("dtg", 0, 1, 1, 2)) {
		t.Errorf("what was given is %v now", shared)
	}
}

// TestP10ModulesOfSessionsShareNoMemory has racks all of whose modules share their memory.
func TestP10ModulesOfSessionsShareNoMemory(t *testing.T) {
	for _, m := range []impl.Module{delayOf(1, 2i, 3, 4), slicerOf(5, 6, 7i)} {
		rack := impl.Rack{Modules: []impl.Module{m, m, m}}
		for _, line := range keptLines() {
			got, _ := impl.ExecuteLine(sessionOf(rack, rack, rack), line)
			for k, r := range racksIn(got) {
				for i := range r.Modules {
					want := copyOfRack(r)
					scribbleModule(r.Modules[i])
					want.Modules[i] = copyOfModule(r.Modules[i])
					if !sameRack(r, want) {
						t.Fatalf("%q in %v: the module %d of the rack %d has memory of another one", line, rack, i, k)
					}
				}
			}
		}
	}
}

// TestP10SessionsGoOnAfterScribbles executes lines in what was returned, while what was given is written over.
func TestP10SessionsGoOnAfterScribbles(t *testing.T) {
	s, want := impl.NewSession(), impl.NewSession()
	for _, line := range []string{"add delay 0 1p0 0 0 1p0", "add slicer 0 1p0 0 5 0 1p0 6", "cable 0 1", "add hold 2 0 0 0", "cable 1 2", "run 2 3", "cable 2 0", "play 0 2 1p0 0 3p0 0", "undo", "undo", "reset 0", "tell 1", "drop 2", "undo", "swap 2 sum", "cut 0", "undo", "undo", "jacks", "nothing", "undo"} {
		next, out := impl.ExecuteLine(s, line)
		scribbleSession(s)
		wanted, wantOut := executed(want, line)
		if out != wantOut || !sameSession(next, wanted) {
			t.Fatalf("%q makes %v, %q; not %v, %q", line, next, out, wanted, wantOut)
		}
		s, want = next, copyOfSession(wanted)
	}
	// What NewSession returns is new each time.
	first := impl.NewSession()
	scribbleSession(impl.NewSession())
	if !sameSession(first, impl.Session{}) || !sameSession(impl.NewSession(), impl.Session{}) {
		t.Error("two new sessions share memory")
	}
}
