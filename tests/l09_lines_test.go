package tests

import (
	"slices"
	"strconv"
	"strings"
	"testing"

	"loop.example/g03223/impl"
)

// undone takes back n lines, and checks that there is none before.
func undone(t *testing.T, s impl.Session, n int) impl.Session {
	t.Helper()
	for range n {
		s = checkOutputs(t, s, "undo", "ok")
	}
	return checkOutputs(t, s, "undo", "no")
}

// TestP9RackThatIsBuiltAndTakenBack builds a rack line by line, plays it, and takes all back.
func TestP9RackThatIsBuiltAndTakenBack(t *testing.T) {
	built := checkOutputs(t, impl.NewSession(),
		"order", "none", "jacks", "none", "undo", "no",
		"add source 0 1p0 1p0 0", "0", "add gain 1p1", "1", "add delay 0 0 0 0 0", "2", "add sum", "3",
		"order", "0 1 2 3", "jacks", "0,1,2,3", "reach 0", "none", "tell 0", "1p0 0", "tell 1", "no",
		"cable 0 1", "ok", "cable 1 3", "ok", "cable 3 2", "ok", "cable 2 3", "ok",
		"order", "0 1 3 2", "jacks", "0 1 2 3", "reach 0", "1 2 3", "reach 2", "2 3", "reach 3", "2 3",
		// The delay has two samples, so the sum is fed by the gain alone in the first two steps.
		"run 3 1", "1p1 0", "run 3 0", "none", "run 3 1", "0 1p1", "tell 0", "-1p0 0",
		"play 3 3 1p0 0", "1p0 0", "play -1 0 nan inf", "-0 -1p0",
		"set 1 3p0 nan", "ok", "reset 2", "ok", "play 3 3 0 1p0 0 0", "3p0 1p0 0 3p0",
	)
	if len(built.Past) != 16 || !noRack(undone(t, built, 16).Rack) {
		t.Errorf("there are %d racks before %v", len(built.Past), built.Rack)
	}
	// Five more lines, with which the empty rack is too far back.
	s := checkOutputs(t, built,
		"swap 3 meter 0", "ok", "tell 3", "0 0", "drop 0", "ok", "order", "0 2 1", "jacks", "0 1 2",
		"cut 0", "ok", "cut 2", "no", "cut 1", "ok", "cut 0", "ok", "cut 0", "no", "jacks", "0,1,2",
	)
	first := impl.Rack{Modules: []impl.Module{impl.NewSource(1i, 1)}}
	if len(s.Past) != 20 || !sameSession(undone(t, s, 20), sessionOf(first)) {
		t.Errorf("there are %d racks before %v", len(s.Past), s.Rack)
	}
}

func TestP9AddedModules(t *testing.T) {
	texts := []string{"source nan -0 inf 1p-149", "mixer 0 1p0 1p0 0", "gain -0", "delay 1 1p0 0 0 -0", "sum", "slicer -9223372036854775808 1p0 -1p1 9223372036854775807", "slicer 7", "meter inf", "hold 100 99 0 -3p-1"}
	want, lines := impl.Rack{}, []string{}
	for i, text := range texts {
		m, ok := impl.ParseModule(text)
		if !ok {
			t.Fatalf("%q is not read", text)
		}
		want.Modules = append(want.Modules, m)
		lines = append(lines, "add "+text, strconv.Itoa(i))
	}
	if s := checkOutputs(t, impl.NewSession(), lines...); !sameRack(s.Rack, want) || len(s.Past) != len(texts) {
		t.Errorf("what is built is %v", s)
	}
	// The second digit of the last indices, and one module too many.
	s := sessionOf(chainOf(9, false))
	for i := 9; i < 16; i++ {
		s = checkOutputs(t, s, "add sum", strconv.Itoa(i))
	}
	checkNoLine(t, s, "add sum", "add gain 1p0", "add delay 0 0 0")
	checkOutputs(t, s, "order", "0 1 2 3 4 5 6 7 8 9 10 11 12 13 14 15", "jacks", "0,9,10,11,12,13,14,15 1 2 3 4 5 6 7 8", "reach 6", "7 8", "reach 15", "none", "drop 3", "ok", "add sum", "15")
}

// TestP9AllModules adds each module, swaps it in, and uses its powers.
func TestP9AllModules(t *testing.T) {
	modules := append(plainModules(), delayOf(7, someSamples(16)...), impl.Module{Kind: 6, Table: lineTable(64), Count: 5})
	for i, m := range append(modules, goodModules()...) {
		if i > 100 && i%5 > 0 {
			continue
		}
		text, good := moduleTextOf(m), sessionOf(rackOf("dg", 0, 1, 1, 0), somePast(i%21)...)
		added, out := checkLine(t, good, "add "+text)
		swapped, outToo := checkLine(t, good, "swap 1 "+text)
		if out != "2" || outToo != "ok" || !sameModule(added.Rack.Modules[2], m) || !sameModule(swapped.Rack.Modules[1], m) {
			t.Fatalf("%q is added as %q, and swapped in as %q", text, out, outToo)
		}
		for _, s := range []impl.Session{added, swapped} {
			k := strconv.Itoa(len(s.Rack.Modules) - 1)
			reset, control, tell := namedPowers(m.Kind)
			_, told := checkLine(t, s, "tell "+k)
			if tell != (told != "no") || tell && told != textOrNone(partsOf(toldSample(m))) {
				t.Fatalf("%q tells %q", text, told)
			}
			s, out = checkLine(t, s, "reset "+k)
			s, outToo = checkLine(t, s, "set "+k+" -3p-1 nan")
			if reset != (out == "ok") || control != (outToo == "ok") || !reset && out != "no" || !control && outToo != "no" {
				t.Fatalf("%q is reset with %q, and controlled with %q", text, out, outToo)
			}
			want := m
			if reset {
				want = resetModule(want)
			}
			if control {
				want = controlledModule(want, complex(-1.5, notANumber()))
			}
			if !sameModule(s.Rack.Modules[len(s.Rack.Modules)-1], want) {
				t.Fatalf("%q becomes %v", text, s.Rack)
			}
		}
	}
}

// linesOfIndices are all lines that end with one index or with two, some of which no module or no cable has.
func linesOfIndices(r impl.Rack) []string {
	lines := []string{"order", "jacks", "undo"}
	most := max(len(r.Modules), len(r.Cables))
	for i := -2; i <= most+1; i++ {
		end := integersOf(i)
		lines = append(lines, "drop"+end, "cut"+end, "reset"+end, "tell"+end, "reach"+end)
	}
	for i := -1; i <= len(r.Modules); i++ {
		lines = append(lines, "swap"+integersOf(i)+" sum", "swap"+integersOf(i)+" delay 0 1p0 0", "set"+integersOf(i)+" 3p-2 -1p-1", "run"+integersOf(i, 3), "run"+integersOf(i, 0))
		for k := -1; k <= len(r.Modules); k++ {
			lines = append(lines, "cable"+integersOf(i, k))
		}
		for _, in := range []int{-2, -1, 0, len(r.Modules) / 2, len(r.Modules) - 1, len(r.Modules)} {
			lines = append(lines, "play"+integersOf(in, i)+" 1p-1 3p0 0 -1p2")
		}
	}
	return lines
}

func TestP9LinesDoWhatTheFunctionsDo(t *testing.T) {
	all, refused := 0, 0
	for i, s := range goodSessions() {
		for k, line := range linesOfIndices(s.Rack) {
			if i > 30 && (i+k)%7 > 0 {
				continue
			}
			all++
			if _, out := checkLine(t, s, line); out == "no" {
				refused++
			}
		}
	}
	if refused < all/10 || refused > all/2 {
		t.Errorf("%d of %d lines are refused", refused, all)
	}
}

func TestP9LinesOfSmallRacks(t *testing.T) {
	for i, r := range smallRacks() {
		if !validRack(r) {
			checkNoLine(t, sessionOf(r, somePast(i%21)...), "add sum", "undo", "order")
			continue
		}
		s := sessionOf(r, somePast(i%21)...)
		for _, line := range linesOfIndices(r) {
			checkLine(t, s, line)
		}
	}
}

func TestP9RunsOfASession(t *testing.T) {
	s := sessionOf(rackOf("od+", 0, 1, 1, 2), rackOf("g"))
	checkOutputs(t, sessionOf(impl.Rack{Modules: []impl.Module{impl.NewSource(1i, 1)}}), "run 0 500", "-0 -1p0", "run 0 0", "none", "run 0 4", "-0 -1p0", "run 0 1", "1p0 -0", "undo", "ok", "run 0 3", "-1p0 0", "undo", "ok", "run 0 499", "-1p0 0")
	for _, n := range []int{0, 1, 2, 3, 10, 499, 500} {
		for out := range 3 {
			next, text := checkLine(t, s, "run"+integersOf(out, n))
			want, heard, _ := impl.RunRack(s.Rack, impl.Plug{In: -1, Out: out}, nil, n)
			if !sameRack(next.Rack, want) || len(next.Past) != 2 || !sameRack(next.Past[1], s.Rack) || n == 0 && text != "none" || n > 0 && text != textOrNone(partsOf(heard[n-1])) {
				t.Fatalf("a run of %v by %d is %v, with the output %q", s, n, next, text)
			}
		}
	}
	for _, n := range []int{-1, -500, 501, 502, 1000, 1 << 32, 1<<32 + 1, 1<<63 - 1, -1 << 63} {
		checkNoLine(t, s, "run"+integersOf(0, n), "run"+integersOf(1, n), "run"+integersOf(n, 1))
	}
}

// TestP9PlayedNumbers has numbers of all sorts, and as many of them as can be played.
func TestP9PlayedNumbers(t *testing.T) {
	sum := sessionOf(impl.Rack{Modules: []impl.Module{impl.NewSum()}})
	checkOutputs(t, sum,
		"play 0 0 1p0 -3p-1", "1p0 -3p-1", "play -1 0 1p0 -3p-1", "0 0", "play 0 0 -0 -0", "0 0", "play 0 0 0 0", "0 0", "play 0 0 nan inf -inf nan 0 -1p-149 16777215p104 -0", "nan inf -inf nan 0 -1p-149 16777215p104 0",
		"play 0 0 1p0 0 1p1 0 3p0 0", "1p0 0 1p1 0 3p0 0", "play -1 0 1p0 0 1p1 0", "0 0 0 0",
	)
	checkOutputs(t, sessionOf(impl.Rack{Modules: []impl.Module{impl.NewGain(-1)}}), "play 0 0 -0 0 inf nan -1p-149 1p-126", "-0 -0 -inf nan 0 -1p-126", "set 0 nan 0", "ok", "play 0 0 0 0", "nan nan", "set 0 -inf 0", "ok", "play 0 0 1p0 0", "-inf nan", "set 0 -0 5p0", "ok", "play 0 0 1p0 -1p0", "-0 0")
	for _, n := range []int{1, 2, 97, 193, 194, 195, 196, 250, 498, 499, 500} {
		input := randomPlayed(n)
		s, out := checkLine(t, sum, "play 0 0"+partsOf(input...))
		if out != textOrNone(partsOf(plainSums(input)...)) || len(s.Past) != 1 {
			t.Fatalf("the output of %d numbers is %q", n, out)
		}
		checkLine(t, sessionOf(rackOf("xd", 0, 1, 1, 0)), "play 1 0"+partsOf(input...))
		checkLine(t, sessionOf(rackOf("xd", 0, 1, 1, 0)), "play -1 1"+partsOf(input...))
		checkNoLine(t, sum, "play 0 0"+partsOf(input...)+" 1p0", "play 0 0"+partsOf(input...)+" ", "play 0 0"+partsOf(input...)+" 1p0 x", "play 0 0"+partsOf(input...)+"  1p0 0", "play 0 1"+partsOf(input...), "play 1 0"+partsOf(input...), "play -2 0"+partsOf(input...))
	}
	for _, n := range []int{501, 502, 503, 1000, 5000} {
		checkNoLine(t, sum, "play 0 0"+partsOf(randomPlayed(n)...), "play -1 0"+strings.Repeat(" 0 0", n), "play 0 0"+strings.Repeat(" 1p0", 2*n-1))
	}
}

// randomPlayed are n samples, most of which are finite.
func randomPlayed(n int) []complex64 {
	list := []complex64{}
	for i := range n {
		z := sampleAt(i)
		if i%3 > 0 {
			z = complex(float32(i)/8, -float32(i))
		}
		list = append(list, z)
	}
	return list
}

// plainSums are what sums give for these inputs.
func plainSums(list []complex64) []complex64 {
	sums := []complex64{}
	for _, z := range list {
		sums = append(sums, sumOver(samples(z)))
	}
	return sums
}

func TestP9WhatIsTold(t *testing.T) {
	s := sessionOf(impl.Rack{Modules: []impl.Module{
		impl.NewSource(1, complex(minusZero(), infinity(-1))), {Kind: 2, State: complex(notANumber(), 0.5)}, impl.NewGain(3), delayOf(0, 5), impl.NewSum(),
		slicerOf(-16777217, 1), {Kind: 7, Level: infinity(1)}, {Kind: 8, Count: 3, State: complex(-3, minusZero())}, {Kind: 6, Count: 1<<63 - 1}, impl.NewMeter(),
	}})
	checkOutputs(t, s, "tell 0", "-0 -inf", "tell 1", "nan 1p-1", "tell 2", "no", "tell 3", "no", "tell 4", "no", "tell 5", "-1p24 0", "tell 6", "inf 0", "tell 7", "-3p0 -0", "tell 8", "1p63 0", "tell 9", "0 0", "tell 10", "no", "tell -1", "no")
}

func TestP9ListsOfNothingAndMore(t *testing.T) {
	for _, c := range []struct {
		r     impl.Rack
		lines []string
	}{
		{impl.Rack{}, []string{"order", "none", "jacks", "none", "reach 0", "no", "reach -1", "no", "run 0 0", "no", "run -1 0", "no", "play -1 0 0 0", "no", "play -1 -1 0 0", "no"}},
		{rackOf("g"), []string{"order", "0", "jacks", "0", "reach 0", "none", "reach 1", "no"}}, {rackOf("d", 0, 0), []string{"order", "0", "jacks", "0", "reach 0", "0"}},
		{rackOf("gog", 1, 0, 1, 2), []string{"order", "1 0 2", "jacks", "0,2 1", "reach 1", "0 2", "reach 0", "none"}},
		{rackOf("ggggo", 3, 2, 2, 1, 1, 0, 4, 3), []string{"order", "4 3 2 1 0", "jacks", "0 1 2 3 4", "reach 4", "0 1 2 3", "reach 1", "0"}},
		// Two cables from one outlet are another jack than one, and their order counts.
		{rackOf("oo++++", 0, 2, 1, 2, 1, 3, 0, 3, 0, 4, 1, 4, 0, 5, 0, 5), []string{"order", "0 1 2 3 4 5", "jacks", "0,1 2,4 3 5", "reach 0", "2 3 4 5"}},
		{chainOf(16, true), []string{"order", "15 14 13 12 11 10 9 8 7 6 5 4 3 2 1 0", "jacks", "0 1 2 3 4 5 6 7 8 9 10 11 12 13 14 15", "reach 15", "0 1 2 3 4 5 6 7 8 9 10 11 12 13 14", "reach 0", "none"}},
		{rackOf("++++++++++++"), []string{"jacks", "0,1,2,3,4,5,6,7,8,9,10,11", "reach 11", "none"}},
	} {
		s := sessionOf(c.r, somePast(3)...)
		if next := checkOutputs(t, s, c.lines...); !sameSession(next, s) {
			t.Errorf("%v is changed by questions, to %v", s, next)
		}
	}
	if full := checkOutputs(t, sessionOf(crowdedRack()), "cut 39", "ok", "cable 3 4", "ok", "cable 3 4", "no"); len(full.Rack.Cables) != 40 || !slices.Equal(full.Rack.Cables, crowdedRack().Cables) {
		t.Errorf("the cables are %v", full.Rack.Cables)
	}
}
