package tests

import (
	"math/rand/v2"
	"slices"
	"strconv"
	"testing"

	"loop.example/g03223/impl"
)

// TestP9OnlySomeRacksAreKept changes a rack more often than there are racks before, and takes it back as often as it can.
func TestP9OnlySomeRacksAreKept(t *testing.T) {
	for _, n := range []int{1, 2, 19, 20, 21, 22, 39, 40, 41, 45, 60} {
		s, racks := impl.NewSession(), []impl.Rack{{}}
		for i := range n {
			line := "swap 0 gain " + numberTextOf(float32(i))
			if i == 0 {
				line = "add gain -1p0"
			}
			s, _ = checkLine(t, s, line)
			racks = append(racks, copyOfRack(s.Rack))
			if want := racks[max(0, i-19) : i+1]; !slices.EqualFunc(s.Past, want, sameRack) {
				t.Fatalf("behind %d changes, the racks before are %v, not %v", i+1, s.Past, want)
			}
		}
		for k := range min(n, 20) {
			s = checkOutputs(t, s, "undo", "ok")
			if want := sessionOf(racks[n-1-k], racks[max(0, n-20):n-1-k]...); !sameSession(s, want) {
				t.Fatalf("behind %d changes, and %d that are taken back, there is %v, not %v", n, k+1, s, want)
			}
		}
		checkOutputs(t, s, "undo", "no")
	}
}

// TestP9OneChangeMore has sessions with as many racks before as there may be, and each line that changes the rack.
func TestP9OneChangeMore(t *testing.T) {
	for _, line := range []string{"add sum", "swap 1 sum", "drop 0", "cable 0 2", "cut 0", "reset 0", "set 1 1p0 0", "run 0 0", "run 1 3", "play 0 2 1p0 0"} {
		for n := range 21 {
			s := sessionOf(rackOf("dg+", 0, 1, 1, 2), somePast(n)...)
			got, out := checkLine(t, s, line)
			want := append(somePast(n), s.Rack)
			if out == "no" || !slices.EqualFunc(got.Past, want[max(0, n-19):], sameRack) {
				t.Fatalf("%q, with %d racks before, has the output %q, and %v", line, n, out, got.Past)
			}
			back := checkOutputs(t, got, "undo", "ok")
			if !sameRack(back.Rack, s.Rack) || !slices.EqualFunc(back.Past, s.Past[max(0, n-19):], sameRack) {
				t.Fatalf("%q, with %d racks before, is taken back to %v", line, n, back)
			}
		}
	}
}

// TestP9ChangesToEqualRacks has lines that change nothing but what is before.
func TestP9ChangesToEqualRacks(t *testing.T) {
	modules := []impl.Module{impl.NewMixer(1i), delayOf(0, 0, 0), impl.NewGain(minusZero()), impl.NewSum(), impl.NewMeter(), {Kind: 8, Count: 3}, slicerOf(0, 5), {Kind: 1, Turn: complex(minusZero(), notANumber())}}
	for n := range 21 {
		s := sessionOf(impl.Rack{Modules: modules, Cables: cablesOf(3, 4)}, somePast(n)...)
		want := append(somePast(n), s.Rack)
		for line, out := range map[string]string{
			"swap 3 sum": "ok", "swap 2 gain -0": "ok", "swap 5 hold 3 0 0 0": "ok", "swap 7 source -0 nan 0 0": "ok", "reset 0": "ok", "reset 1": "ok", "reset 4": "ok", "reset 5": "ok", "reset 6": "ok", "set 0 0 1p0": "ok", "set 2 -0 1p0": "ok", "set 7 -0 nan": "ok",
			"run 3 0": "none", "run 0 0": "none", "run 7 0": "none",
		} {
			got := checkOutputs(t, s, line, out)
			if !sameRack(got.Rack, s.Rack) || !slices.EqualFunc(got.Past, want[max(0, n-19):], sameRack) {
				t.Fatalf("%q, with %d racks before, makes %v", line, n, got)
			}
		}
	}
	// A played number and a run may also change nothing.
	s := checkOutputs(t, sessionOf(rackOf("++", 0, 1)), "play 0 1 1p0 1p0", "1p0 1p0", "run 1 500", "0 0", "play -1 0 inf 0", "0 0", "run 0 0", "none")
	if !slices.EqualFunc(s.Past, slices.Repeat([]impl.Rack{rackOf("++", 0, 1)}, 4), sameRack) {
		t.Errorf("the racks before are %v", s.Past)
	}
	undone(t, s, 4)
}

// TestP9CablesThatComeBack has changes that are made and unmade by lines, and not by undo.
func TestP9CablesThatComeBack(t *testing.T) {
	s := checkOutputs(t, sessionOf(rackOf("dg+", 0, 1, 1, 2)), "cable 2 0", "ok", "cut 2", "ok", "add sum", "3", "drop 3", "ok", "cut 0", "ok", "cable 0 1", "ok")
	if !sameRack(s.Rack, rackOf("dg+", 1, 2, 0, 1)) || len(s.Past) != 6 {
		t.Errorf("the session is %v", s)
	}
	if back := undone(t, s, 6); !sameRack(back.Rack, rackOf("dg+", 0, 1, 1, 2)) {
		t.Errorf("the first rack was %v", back.Rack)
	}
}

func TestP9NothingBefore(t *testing.T) {
	for _, r := range manyRacks() {
		checkNoLine(t, sessionOf(r), "undo")
		// What is before comes back as it is, whatever the rack is now.
		if s := undone(t, sessionOf(rackOf("+"), r), 1); !sameSession(s, sessionOf(r)) {
			t.Fatalf("%v comes back as %v", r, s)
		}
	}
	checkNoLine(t, impl.NewSession(), "undo", "undo 1", "undo 0", "undo undo")
}

// randomLine is one that the session may be given, with indices that are often those of modules.
func randomLine(choice *rand.Rand, s impl.Session) string {
	n, texts := len(s.Rack.Modules), append(plainModules(), moduleAt('d', 2), moduleAt('t', 3))
	index := func() string { return strconv.Itoa(choice.IntN(n+2) - choice.IntN(2)) }
	module := func() string { return moduleTextOf(texts[choice.IntN(len(texts))]) }
	switch choice.IntN(18) {
	case 0, 1, 2, 3:
		return "add " + module()
	case 4, 5:
		return "cable " + index() + " " + index()
	case 6:
		return "swap " + index() + " " + module()
	case 7:
		return "drop " + index()
	case 8:
		return "cut " + index()
	case 9:
		return "reset " + index()
	case 10:
		return "set " + index() + partsOf(randomInput(choice, 1)...)
	case 11, 12:
		return "run " + index() + " " + strconv.Itoa(choice.IntN(30))
	case 13, 14:
		return "play " + index() + " " + index() + partsOf(randomInput(choice, 1+choice.IntN(12))...)
	case 15:
		return "undo"
	case 16:
		return []string{"order", "jacks", "Undo", ""}[choice.IntN(4)]
	}
	return []string{"tell ", "reach "}[choice.IntN(2)] + index()
}

// TestP9RandomSessions keeps all racks that were there, and holds what is taken back against them.
func TestP9RandomSessions(t *testing.T) {
	choice := rand.New(rand.NewPCG(51, 52))
	counts := map[string]int{}
	for range 150 {
		s, racks := impl.NewSession(), []impl.Rack{}
		for range 60 {
			line := randomLine(choice, s)
			next, out := checkLine(t, s, line)
			switch {
			case out == "no":
				counts["no"]++
			case line == "undo":
				racks = racks[:len(racks)-1]
				counts["undo"]++
			case len(next.Past) != len(s.Past) || len(s.Past) == 20 && !slices.EqualFunc(next.Past, s.Past, sameRack):
				racks = append(racks, copyOfRack(s.Rack))
				racks = racks[max(0, len(racks)-20):]
				counts["change"]++
			default:
				counts["other"]++
			}
			if s = next; !slices.EqualFunc(s.Past, racks, sameRack) {
				t.Fatalf("behind %q, the racks before are %v, not %v", line, s.Past, racks)
			}
		}
		for _, r := range slices.Backward(racks) {
			if s = checkOutputs(t, s, "undo", "ok"); !sameRack(s.Rack, r) {
				t.Fatalf("%v is taken back to %v", r, s.Rack)
			}
		}
		checkNoLine(t, s, "undo")
	}
	if counts["no"] < 500 || counts["undo"] < 200 || counts["change"] < 2000 || counts["other"] < 300 {
		t.Errorf("there were %v", counts)
	}
}
