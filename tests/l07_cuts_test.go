package tests

import (
	"math/rand/v2"
	"slices"
	"testing"

	"loop.example/g03223/impl"
)

func sumOfCuts(cuts []int) int {
	all := 0
	for _, n := range cuts {
		all += n
	}
	return all
}

// checkCut runs r in blocks, and holds this against the whole run, and against blocks of RunRack.
func checkCut(t *testing.T, r impl.Rack, p impl.Plug, input []complex64, cuts []int) {
	t.Helper()
	want, wantHeard := ranRack(r, p, input, sumOfCuts(cuts))
	got, heard, ok := impl.RunCut(r, p, input, cuts)
	if !ok || !sameRack(got, want) || !sameSamples(heard, wantHeard) || !impl.IsRack(got) {
		t.Fatalf("RunCut(%v, %v, %g, %d) = %v, %g, %v; not %v, %g", r, p, input, cuts, got, heard, ok, want, wantHeard)
	}
	whole, wholeHeard, ok := impl.RunRack(r, p, input, sumOfCuts(cuts))
	if !ok || !sameRack(got, whole) || !sameSamples(heard, wholeHeard) {
		t.Fatalf("RunCut(%v, %v, %g, %d) = %v, %g; but whole %v, %g, %v", r, p, input, cuts, got, heard, whole, wholeHeard, ok)
	}
}

// checkBlocks runs r by RunRack, block after block.
func checkBlocks(t *testing.T, r impl.Rack, p impl.Plug, input []complex64, cuts []int) {
	t.Helper()
	want, wantHeard, ok := impl.RunCut(r, p, input, cuts)
	rack, all := r, []complex64{}
	for _, n := range cuts {
		next, heard, fine := impl.RunRack(rack, p, input, n)
		if !ok || !fine || len(heard) != n {
			t.Fatalf("a run of %v by %d is %v, with the outputs %g, or RunCut is not %v", rack, n, fine, heard, ok)
		}
		rack, all, input = next, append(all, heard...), input[min(n, len(input)):]
	}
	if !sameRack(rack, want) || !sameSamples(all, wantHeard) {
		t.Fatalf("%v, run by RunRack in blocks of %d, becomes %v and gives %g; not %v and %g", r, cuts, rack, all, want, wantHeard)
	}
}

// randomCuts are up to 50 blocks, many of them with no steps.
func randomCuts(choice *rand.Rand) []int {
	cuts := []int{}
	for range choice.IntN([]int{3, 8, 51}[choice.IntN(3)]) {
		cuts = append(cuts, max(choice.IntN(6)-choice.IntN(4), 0))
	}
	return cuts
}

func TestP7RunsGoOnAsIfNotCut(t *testing.T) {
	choice := rand.New(rand.NewPCG(29, 30))
	for _, r := range runRacks() {
		for range 6 {
			cuts := randomCuts(choice)
			p, input := randomPlug(choice, r), randomInput(choice, choice.IntN(sumOfCuts(cuts)+5))
			checkCut(t, r, p, input, cuts)
			checkBlocks(t, r, p, input, cuts)
		}
	}
}

// TestP7RunsAreCutAnywhere has all ways to cut a run of eight steps, with inputs of all lengths up to ten.
func TestP7RunsAreCutAnywhere(t *testing.T) {
	input := samples(0.1+3i, 0.7, -0.2i, complex(minusZero(), 5), 1, 4-1i, 0.3, -9, 8i, 7)
	r := calmRack(rackOf("+odgxdthm", 0, 3, 3, 1, 1, 2, 2, 0, 4, 0, 2, 4, 5, 4, 0, 5, 4, 6, 6, 7, 7, 8, 5, 5, 3, 8))
	for set := range 1 << 7 {
		cuts := []int{1}
		for i := range 7 {
			if set>>i&1 == 1 {
				cuts = append(cuts, 0)
			}
			cuts[len(cuts)-1]++
		}
		for n := range len(input) + 1 {
			checkCut(t, r, impl.Plug{In: 0, Out: 8}, input[:n], cuts)
			checkBlocks(t, r, impl.Plug{In: n%10 - 1, Out: set % 9}, input[:n], cuts)
		}
	}
}

func TestP10NamedCuts(t *testing.T) {
	input := samples(10, 20, 30, 40, 50, 60)
	r := modulesRack([]impl.Module{delayOf(0, 1, 2), impl.NewSum(), impl.NewMeter()}, 0, 1, 0, 2)
	plug, tens, ones := impl.Plug{In: 0, Out: 1}, slices.Repeat([]int{10}, 50), slices.Repeat([]int{1}, 50)
	for _, c := range []struct {
		cuts []int
		want []complex64
	}{
		{nil, nil}, {[]int{}, nil}, {[]int{0}, nil}, {[]int{0, 0, 0}, nil}, {make([]int, 50), nil}, {[]int{4}, samples(1, 2, 10, 20)},
		// Blocks of no steps first, in the middle and last.
		{[]int{0, 4}, samples(1, 2, 10, 20)}, {[]int{2, 0, 2}, samples(1, 2, 10, 20)}, {[]int{4, 0}, samples(1, 2, 10, 20)}, {[]int{0, 0, 1, 0, 0, 3, 0, 0}, samples(1, 2, 10, 20)}, {append(make([]int, 49), 4), samples(1, 2, 10, 20)}, {append([]int{4}, make([]int, 49)...), samples(1, 2, 10, 20)},
		{[]int{1, 3}, samples(1, 2, 10, 20)}, {[]int{3, 1}, samples(1, 2, 10, 20)}, {[]int{1, 1, 1, 1}, samples(1, 2, 10, 20)},
		// The input ends inside a block, and where one ends.
		{[]int{4, 6}, samples(1, 2, 10, 20, 30, 40, 50, 60, 0, 0)}, {[]int{6, 4}, samples(1, 2, 10, 20, 30, 40, 50, 60, 0, 0)}, {[]int{7, 3}, samples(1, 2, 10, 20, 30, 40, 50, 60, 0, 0)}, {[]int{1, 4, 3, 2}, samples(1, 2, 10, 20, 30, 40, 50, 60, 0, 0)}, {[]int{10}, samples(1, 2, 10, 20, 30, 40, 50, 60, 0, 0)},
		{ones, append(samples(1, 2, 10, 20, 30, 40, 50, 60), make([]complex64, 42)...)}, {tens, append(samples(1, 2, 10, 20, 30, 40, 50, 60), make([]complex64, 492)...)}, {[]int{500}, append(samples(1, 2, 10, 20, 30, 40, 50, 60), make([]complex64, 492)...)}, {[]int{0, 499, 1}, append(samples(1, 2, 10, 20, 30, 40, 50, 60), make([]complex64, 492)...)},
	} {
		checkCut(t, r, plug, input, c.cuts)
		checkBlocks(t, r, plug, input, c.cuts)
		if _, heard, ok := impl.RunCut(r, plug, input, c.cuts); !ok || !sameSamples(heard, c.want) {
			t.Errorf("RunCut by %d has the outputs %g, %v; not %g", c.cuts, heard, ok, c.want)
		}
		checkCut(t, r, impl.Plug{In: -1, Out: 1}, input, c.cuts)
	}
}

func TestP10LongCuts(t *testing.T) {
	choice := rand.New(rand.NewPCG(31, 32))
	for i, r := range runRacks() {
		if i%25 == 0 {
			cuts := slices.Repeat([]int{10}, 50)
			for range 30 {
				from, to, n := choice.IntN(50), choice.IntN(50), choice.IntN(3)
				if cuts[from] >= n {
					cuts[from] -= n
					cuts[to] += n
				}
			}
			checkCut(t, r, randomPlug(choice, r), randomInput(choice, 480+choice.IntN(40)), cuts)
		}
	}
}
