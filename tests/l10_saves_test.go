package tests

import (
	"math"
	"math/rand/v2"
	"slices"
	"strings"
	"testing"

	"loop.example/g03223/impl"
)

// savedTexts is what SaveRuns should return, for arguments that are valid.
func savedTexts(r impl.Rack, p impl.Plug, input []complex64, every int, n int) []string {
	texts, left := []string{rackTextOf(r)}, every
	for step := range n {
		r, _ = ranRack(r, p, restFrom(input, step), 1)
		if left--; left == 0 {
			texts, left = append(texts, rackTextOf(r)), every
		}
	}
	return texts
}

// checkSaves holds the saves of a run against a model, and resumes the run from each of them.
func checkSaves(t *testing.T, r impl.Rack, p impl.Plug, input []complex64, every int, n int) []string {
	t.Helper()
	want := savedTexts(r, p, input, every, n)
	saves, ok := impl.SaveRuns(r, p, input, every, n)
	if !ok || !slices.Equal(saves, want) {
		t.Fatalf("SaveRuns(%v, %v, %g, %d, %d) = %q, %v; not %q", r, p, input, every, n, saves, ok, want)
	}
	if every <= 500 {
		for k := range saves {
			checkResumed(t, r, p, input, saves, k, every, n)
		}
	}
	return saves
}

// checkResumed resumes a run from one of its saves, and holds this against the whole run.
func checkResumed(t *testing.T, r impl.Rack, p impl.Plug, input []complex64, saves []string, k int, every int, n int) {
	t.Helper()
	whole, wholeHeard, ok := impl.RunRack(r, p, input, n)
	got, heard, okToo := impl.ResumeRun(saves, k, p, input, every, n)
	if !ok || !okToo || !sameRack(got, whole) || !sameSamples(heard, wholeHeard[k*every:]) || impl.FormatRack(got) != impl.FormatRack(whole) {
		t.Fatalf("%v with %v and %g, resumed from the save %d of those behind %d steps each, for %d steps, becomes %v and gives %g, %v; whole %v and %g", r, p, input, k, every, n, got, heard, okToo, whole, wholeHeard)
	}
	// The saves of the rest are the rest of the saves.
	read, _ := impl.ParseRack(saves[k])
	rest, ok := impl.SaveRuns(read, p, restFrom(input, k*every), every, n-k*every)
	if !ok || !slices.Equal(rest, saves[k:]) {
		t.Fatalf("the saves of %v from the save %d on are %q, %v; not %q", r, k, rest, ok, saves[k:])
	}
}

func TestP10NamedSaves(t *testing.T) {
	r, p := modulesRack([]impl.Module{delayOf(0, 1, 2), impl.NewSum()}, 0, 1), impl.Plug{Out: 1}
	text := func(at string, items string) string { return "delay " + at + " " + items + "\nsum\ncable 0 1\n" }
	one, two, three := text("0", "1p0 0 1p1 0"), text("1", "5p0 0 1p1 0"), text("0", "5p0 0 3p1 0")
	four, five := text("1", "0 0 3p1 0"), text("0", "0 0 0 0")
	for _, c := range []struct {
		every, n int
		want     []string
	}{
		{1, 0, []string{one}}, {2, 0, []string{one}}, {500, 0, []string{one}}, {1, 1, []string{one, two}}, {2, 1, []string{one}}, {1, 4, []string{one, two, three, four, five}}, {2, 4, []string{one, three, five}}, {3, 4, []string{one, four}}, {4, 4, []string{one, five}}, {5, 4, []string{one}}, {2, 3, []string{one, three}}, {3, 3, []string{one, four}}, {2, 5, []string{one, three, five}}, {3, 5, []string{one, four}},
		{500, 4, []string{one}}, {501, 4, []string{one}}, {499, 500, []string{one, text("1", "0 0 0 0")}}, {500, 500, []string{one, five}}, {250, 500, []string{one, five, five}}, {251, 500, []string{one, text("1", "0 0 0 0")}}, {500, 499, []string{one}},
	} {
		if saves := checkSaves(t, r, p, samples(5, 6), c.every, c.n); !slices.Equal(saves, c.want) {
			t.Errorf("SaveRuns by %d, for %d steps, = %q, not %q", c.every, c.n, saves, c.want)
		}
	}
}

// TestP10SavesFarApart has saves none of which but the first one is reached, also where twice as many steps, or a few more, are beyond the greatest integer.
func TestP10SavesFarApart(t *testing.T) {
	const most = math.MaxInt
	r, p := rackOf("odg", 0, 1, 1, 2, 2, 1), impl.Plug{In: 1, Out: 2}
	for _, every := range []int{501, 502, 1000, 65535, 65536, 1<<31 - 1, 1 << 31, 1<<32 - 1, 1 << 32, 1<<32 + 1, 1<<32 + 2, 1 << 62, 1<<62 + 1, 1<<62 - 1, most / 2, most/2 + 1, most / 3, most/500 + 1, most - 500, most - 499, most - 1, most} {
		for _, n := range []int{0, 1, 2, 3, 499, 500} {
			if saves := checkSaves(t, r, p, samples(5, 6), every, n); len(saves) != 1 || saves[0] != rackTextOf(r) {
				t.Errorf("SaveRuns by %d, for %d steps, = %q", every, n, saves)
			}
		}
	}
}

// TestP11RunsAreResumed has runs of some lengths, saved behind each number of steps.
func TestP11RunsAreResumed(t *testing.T) {
	choice := rand.New(rand.NewPCG(71, 72))
	for _, r := range runRacks() {
		for _, n := range []int{0, 1, 2, 6, 13} {
			p, input := randomPlug(choice, r), randomInput(choice, choice.IntN(n+8))
			for _, every := range []int{1, 2, 3, n - 1, n, n + 1, 500} {
				if every >= 1 {
					checkSaves(t, r, p, input, every, n)
				}
			}
		}
	}
}

// TestP11InputsOfResumedRuns has inputs that end before a save, at it, and behind it, and such as are longer than the run.
func TestP11InputsOfResumedRuns(t *testing.T) {
	input := samples(0.1+3i, 0.7, -0.2i, complex(minusZero(), 5), 1, 4-1i, 0.3, -9, 8i, 7, 6, complex(notANumber(), 2), 5, 4)
	r := calmRack(rackOf("+odgxdthm", 0, 3, 3, 1, 1, 2, 2, 0, 4, 0, 2, 4, 5, 4, 0, 5, 4, 6, 6, 7, 7, 8, 5, 5, 3, 8))
	for size := range len(input) + 1 {
		for every := 1; every <= 12; every++ {
			for n := range 11 {
				checkSaves(t, r, impl.Plug{In: size%10 - 1, Out: (every + n) % 9}, input[:size], every, n)
			}
		}
	}
	sum := impl.Rack{Modules: []impl.Module{impl.NewSum()}}
	for k, want := range [][]complex64{samples(1, 2, 3, 0, 0, 0), samples(3, 0, 0, 0), samples(0, 0), nil} {
		_, heard, ok := impl.ResumeRun(slices.Repeat([]string{"sum\n"}, 4), k, impl.Plug{}, samples(1, 2, 3), 2, 6)
		if !ok || !sameSamples(heard, want) {
			t.Errorf("resumed from the save %d, the outputs are %g, %v; not %g", k, heard, ok, want)
		}
	}
	checkSaves(t, sum, impl.Plug{}, samples(1, 2, 3), 2, 6)
}

func TestP11LongRunsAreResumed(t *testing.T) {
	choice := rand.New(rand.NewPCG(73, 74))
	for i, r := range runRacks() {
		if i%40 == 0 {
			for _, n := range []int{499, 500} {
				p, input := randomPlug(choice, r), randomInput(choice, 480+choice.IntN(40))
				for _, every := range []int{7, 50, 249, 250, 251, 498, 499, 500} {
					checkSaves(t, r, p, input, every, n)
				}
				saves, ok := impl.SaveRuns(r, p, input, 1, n)
				if !ok || len(saves) != n+1 || !slices.Equal(saves, savedTexts(r, p, input, 1, n)) {
					t.Fatalf("SaveRuns of %v, behind each of %d steps, has %d saves, %v", r, n, len(saves), ok)
				}
				for _, k := range []int{0, 1, n / 2, n - 1, n} {
					checkResumed(t, r, p, input, saves, k, 1, n)
				}
			}
		}
	}
}

// TestP11SavesOfAllModules has numbers of all sorts in what is saved.
func TestP11SavesOfAllModules(t *testing.T) {
	for i, m := range append(plainModules(), goodModules()...) {
		r := modulesRack([]impl.Module{m, giving(complex(minusZero(), 2.5)), delayOf(0, 1, 2)}, 1, 0, 0, 2)
		checkSaves(t, r, impl.Plug{Out: i % 3}, samples(3-4i, complex(notANumber(), 1), complex(infinity(-1), minusZero()), 0x1p-149), 1+i%4, 4)
	}
}

// TestP10ResumedFromAnyText has saves that are of no run, each of which is used as the rack that it is the text of.
func TestP10ResumedFromAnyText(t *testing.T) {
	input := samples(1, 2i, 3, 4, 5i, 6, 7)
	racks := []impl.Rack{rackOf("g"), rackOf("dtg", 0, 1, 1, 2), rackOf("+d", 0, 1, 1, 0), fullRack()}
	saves := []string{"", "x", "gain 2p0\n", "sum\ncable 0 0\n", "sum"}
	for _, r := range racks {
		saves = append(saves, rackTextOf(r))
	}
	saves = append(saves, "\n", "sum\n\n", "\xff")
	for k := range saves {
		for every := 1; every <= 9; every++ {
			for n := range 60 {
				got, heard, ok := impl.ResumeRun(saves, k, impl.Plug{}, input, every, n)
				if k < 5 || k > 8 || n < k*every {
					if ok || !noRack(got) || len(heard) != 0 {
						t.Fatalf("ResumeRun(%q, %d, .., %d, %d) = %v, %g, %v", saves, k, every, n, got, heard, ok)
					}
					continue
				}
				want, wantHeard := ranRack(racks[k-5], impl.Plug{}, restFrom(input, k*every), n-k*every)
				if !ok || !sameRack(got, want) || !sameSamples(heard, wantHeard) {
					t.Fatalf("ResumeRun(%q, %d, .., %d, %d) = %v, %g, %v; not %v, %g", saves, k, every, n, got, heard, ok, want, wantHeard)
				}
			}
		}
	}
}

// TestP10ResumedBehindManySteps has runs of more than MaxRun steps, of which at most MaxRun are left.
func TestP10ResumedBehindManySteps(t *testing.T) {
	saves, input := slices.Repeat([]string{"sum\n"}, 1000), someSamples(1200)
	for _, c := range []struct{ k, every, n, want int }{
		{1, 500, 500, 0}, {1, 500, 501, 1}, {1, 500, 1000, 500}, {1, 500, 1001, -1}, {1, 500, 499, -1}, {2, 500, 1000, 0}, {2, 500, 1500, 500}, {2, 500, 1501, -1}, {2, 500, 999, -1}, {999, 500, 499500, 0}, {999, 500, 500000, 500}, {999, 500, 500001, -1}, {999, 500, 499499, -1}, {999, 1, 999, 0}, {999, 1, 1499, 500}, {999, 1, 500, -1}, {999, 1, 0, -1}, {1000, 1, 1000, -1},
		{0, 500, 500, 500}, {0, 500, 501, -1}, {0, 1, 500, 500}, {0, 1, 0, 0}, {1, 1, 0, -1}, {1, 1, 1, 0}, {1, 1, 501, 500}, {1, 1, 502, -1}, {2, 1, 1, -1}, {3, 499, 1497, 0}, {3, 499, 1997, 500}, {0, 501, 500, -1}, {0, 501, 0, -1}, {1, 501, 501, -1}, {0, 0, 5, -1}, {1, 0, 5, -1}, {1, -1, 5, -1}, {1, -1, -1, -1}, {2, -5, -5, -1},
	} {
		got, heard, ok := impl.ResumeRun(saves, c.k, impl.Plug{}, input, c.every, c.n)
		if c.want < 0 {
			if ok || !noRack(got) || len(heard) != 0 {
				t.Errorf("ResumeRun from the save %d by %d, for %d steps, = %v, %g, %v", c.k, c.every, c.n, got, heard, ok)
			}
			continue
		}
		want := append(plainSums(restFrom(input, c.k*c.every)), make([]complex64, 500)...)
		if !ok || len(heard) != c.want || !sameSamples(heard, want[:c.want]) || rackTextOf(got) != "sum\n" {
			t.Errorf("ResumeRun from the save %d by %d, for %d steps, = %v, %g, %v", c.k, c.every, c.n, got, heard, ok)
		}
	}
}

// TestP10ResumedFromOneOfVeryManySaves has a save before which there are more steps than 32 bits can number.
func TestP10ResumedFromOneOfVeryManySaves(t *testing.T) {
	const k = 1<<32/500 + 1
	saves := make([]string, k+1)
	saves[k] = "delay 0 5p0 0\n"
	got, heard, ok := impl.ResumeRun(saves, k, impl.Plug{}, samples(1, 2, 3), 500, k*500+2)
	if !ok || !sameSamples(heard, samples(5, 0)) || rackTextOf(got) != "delay 0 0 0\n" {
		t.Errorf("ResumeRun from the save %d = %v, %g, %v", k, got, heard, ok)
	}
	checkNotResumed(t, saves, k, impl.Plug{}, samples(1, 2, 3), 500, k*500-1)
	checkNotResumed(t, saves, k, impl.Plug{}, samples(1, 2, 3), 500, k*500+501)
	checkNotResumed(t, saves, k, impl.Plug{}, samples(1, 2, 3), 500, 204+2)
	checkNotResumed(t, saves, k, impl.Plug{}, samples(1, 2, 3), 500, math.MinInt)
	checkNotResumed(t, saves, k-1, impl.Plug{}, samples(1, 2, 3), 500, (k-1)*500)
}

func checkNotResumed(t *testing.T, saves []string, k int, p impl.Plug, input []complex64, every int, n int) {
	t.Helper()
	if got, heard, ok := impl.ResumeRun(saves, k, p, input, every, n); ok || !noRack(got) || len(heard) != 0 {
		t.Fatalf("ResumeRun(%.60q, %d, %v, %g, %d, %d) = %v, %g, %v", saves, k, p, input, every, n, got, heard, ok)
	}
}

func TestP10SavesThatAreNotThere(t *testing.T) {
	for _, size := range []int{0, 1, 2, 3, 17} {
		saves := slices.Repeat([]string{"sum\n"}, size)
		for _, k := range append(oddIndices(size), oddLengths()...) {
			if k >= 0 && k < size {
				continue
			}
			for _, every := range []int{1, 2, 499, 500} {
				for _, n := range []int{0, 1, 500, k, k * every, k*every + 5} {
					checkNotResumed(t, saves, k, impl.Plug{}, samples(1, 2), every, n)
				}
			}
		}
	}
	checkNotResumed(t, nil, 0, impl.Plug{}, nil, 1, 0)
}

// oddEverys are no numbers of steps that a save may stand behind.
func oddEverys() []int {
	const most, least = math.MaxInt, math.MinInt
	return append(oddLengths(), 0, most/2, most/2+1, most/3+1, least/2, least/2+1, least/3, -1<<61, 1<<61, 1<<60, 1<<63-1, -500, -501, -2)
}

func TestP10EveryThatIsNotValid(t *testing.T) {
	r, p, saves := rackOf("g"), impl.Plug{}, slices.Repeat([]string{"gain 1p0\n"}, 9)
	for _, every := range oddEverys() {
		for _, n := range []int{0, 1, 2, 500} {
			for k := range 9 {
				checkNotResumed(t, saves, k, p, samples(1, 2), every, n)
				checkNotResumed(t, saves, k, p, samples(1, 2), every, k*every+n)
			}
			got, ok := impl.SaveRuns(r, p, samples(1, 2), every, n)
			if ok != (every >= 1) || ok != (len(got) == 1) {
				t.Fatalf("SaveRuns by %d, for %d steps, = %q, %v", every, n, got, ok)
			}
		}
	}
	for every := 1; every <= 500; every++ {
		got, heard, ok := impl.ResumeRun(saves, 1, p, nil, every, every+3)
		if !ok || len(heard) != 3 || len(got.Modules) != 1 {
			t.Fatalf("ResumeRun by %d = %v, %g, %v", every, got, heard, ok)
		}
	}
}

func TestP10TextsThatAreNotResumed(t *testing.T) {
	plugs := []impl.Plug{{}, {In: -1}, {In: -1, Out: -1}, {In: 1, Out: 1}}
	for _, text := range []string{
		"", "\n", " ", "x", "x\n", "sum", "sum\nsum", " sum\n", "sum \n", "sum\n\n", "\nsum\n", "Sum\n", "sum\r\n", "sum\ncable 0 0\n", "cable 0 0\n", "sum\ncable 0 1\n", "cable 0 1\nsum\nsum\n", "gain 2p0\n", "gain 01p0\n", "gain 1\n", "meter -1p0\n", "hold 0 0 0 0\n", "delay 0\n", "sum\n\xff", "\xff\n", "sum\x00\n", "sum\nsum\ncable 0 1\ncable 1 0\n",
		strings.Repeat("sum\n", 17), strings.Repeat("sum\n", 100000), strings.Repeat("x", 100000), "sum\nsum\n" + strings.Repeat("cable 0 1\n", 41),
	} {
		for _, p := range plugs {
			for _, saves := range [][]string{{text}, {"sum\nsum\n", text}, {text, text, text}, {text, "sum\nsum\n"}} {
				k := slices.Index(saves, text)
				checkNotResumed(t, saves, k, p, samples(1), 1, k)
				checkNotResumed(t, saves, k, p, nil, 3, 6+k)
			}
		}
	}
	// The other saves may be anything.
	if got, heard, ok := impl.ResumeRun([]string{"x", "sum\n", "", "\xff"}, 1, impl.Plug{}, samples(5, 6), 1, 2); !ok || !sameSamples(heard, samples(6)) || len(got.Modules) != 1 {
		t.Errorf("ResumeRun between other texts = %v, %g, %v", got, heard, ok)
	}
}
