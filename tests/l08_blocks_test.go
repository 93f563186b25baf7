package tests

import (
	"math/rand/v2"
	"slices"
	"testing"

	"loop.example/g03223/impl"
)

// reread writes a rack, and reads it.
func reread(t *testing.T, r impl.Rack) impl.Rack {
	t.Helper()
	text := impl.FormatRack(r)
	back, ok := impl.ParseRack(text)
	if !ok || text != rackTextOf(r) {
		t.Fatalf("the text of %v is %q, which is read as %v, %v", r, text, back, ok)
	}
	return back
}

// checkBlocksInTexts runs r in blocks, is left with nothing but the text of the rack behind each of them, and holds this against the whole run.
func checkBlocksInTexts(t *testing.T, r impl.Rack, p impl.Plug, input []complex64, cuts []int) {
	t.Helper()
	rack, all, rest := reread(t, r), []complex64{}, input
	for _, n := range cuts {
		next, heard, ok := impl.RunRack(rack, p, rest, n)
		if !ok {
			t.Fatalf("RunRack(%v, %v, %g, %d) fails", rack, p, rest, n)
		}
		rack, all, rest = reread(t, next), append(all, heard...), rest[min(n, len(rest)):]
	}
	whole, heard, ok := impl.RunRack(r, p, input, sumOfCuts(cuts))
	if !ok || !sameSamples(all, heard) {
		t.Fatalf("%v, written and read in blocks of %d, gives %g; not %g, %v", r, cuts, all, heard, ok)
	}
	if !sameRack(rack, whole) || !impl.SameRacks(rack, whole) || impl.FormatRack(rack) != impl.FormatRack(whole) {
		t.Fatalf("%v, written and read in blocks of %d, becomes %v, not %v", r, cuts, rack, whole)
	}
}

func TestP1RacksAreWrittenAndReadBehindBlocks(t *testing.T) {
	choice := rand.New(rand.NewPCG(43, 44))
	all, finite := 0, 0
	for _, r := range runRacks() {
		for range 3 {
			cuts := randomCuts(choice)
			p, input := randomPlug(choice, r), randomInput(choice, choice.IntN(sumOfCuts(cuts)+5))
			checkBlocksInTexts(t, r, p, input, cuts)
			_, heard, _ := impl.RunRack(r, p, input, sumOfCuts(cuts))
			for _, z := range heard {
				all++
				if finitePoint(z) && z != 0 {
					finite++
				}
			}
		}
	}
	if finite < all/3 {
		t.Errorf("%d of %d outputs are finite, and not 0", finite, all)
	}
}

// TestP1BlocksOfAnyLength has all ways to cut a run of eight steps, of a rack with modules of all kinds, in loops.
func TestP1BlocksOfAnyLength(t *testing.T) {
	input := samples(0.1+3i, 0.7, -0.2i, complex(minusZero(), 5), 1, 4-1i, 0.3, -9, 8i, 7)
	r := calmRack(rackOf("+odgxdthm", 0, 3, 3, 1, 1, 2, 2, 0, 4, 0, 2, 4, 5, 4, 0, 5, 4, 6, 6, 7, 7, 8, 5, 5, 3, 8))
	for set := range 1 << 7 {
		cuts := []int{1}
		for i := range 7 {
			if set>>i&1 == 1 {
				cuts = append(cuts, 0)
			}
			cuts[len(cuts)-1]++
		}
		checkBlocksInTexts(t, r, impl.Plug{In: 0, Out: 8}, input[:set%11], cuts)
		checkBlocksInTexts(t, r, impl.Plug{In: set%10 - 1, Out: set % 9}, input, cuts)
	}
	for n := range 60 {
		checkBlocksInTexts(t, r, impl.Plug{In: 0, Out: 6}, input, []int{n, 0, 60 - n})
		checkBlocksInTexts(t, r, impl.Plug{In: -1, Out: 0}, nil, slices.Repeat([]int{n}, 100/(n+1)))
	}
}

// TestP1BlocksOfAllModules has numbers of all sorts in what is written.
func TestP1BlocksOfAllModules(t *testing.T) {
	for _, m := range append(goodModules(), plainModules()...) {
		r := impl.Rack{Modules: []impl.Module{m, giving(complex(minusZero(), 2.5)), delayOf(0, 1, 2)}, Cables: cablesOf(1, 0, 0, 2)}
		checkBlocksInTexts(t, r, impl.Plug{In: 0, Out: 0}, samples(3-4i, complex(notANumber(), 1), complex(infinity(-1), minusZero())), []int{1, 2, 0, 1})
		checkBlocksInTexts(t, r, impl.Plug{In: 1, Out: 2}, samples(0x1p-149, complex(0x1p-126, -greatest)), []int{3, 1, 1})
	}
}

// TestP1DelaysGoOnWhereTheyWere has rings that are written with their oldest sample at each index.
func TestP1DelaysGoOnWhereTheyWere(t *testing.T) {
	input := someSamples(40)
	for n := 1; n <= 16; n++ {
		for at := range n {
			r := impl.Rack{Modules: []impl.Module{impl.NewSum(), delayOf(at, someSamples(n)...)}, Cables: cablesOf(0, 1, 1, 0)}
			checkBlocksInTexts(t, r, impl.Plug{In: 0, Out: 1}, input, slices.Repeat([]int{1}, 40))
			checkBlocksInTexts(t, r, impl.Plug{In: 0, Out: 1}, input, []int{at, n, 7, 3})
		}
	}
}

func TestP1LongRunsInBlocks(t *testing.T) {
	choice := rand.New(rand.NewPCG(45, 46))
	for i, r := range runRacks() {
		if i%25 == 0 {
			p, input := randomPlug(choice, r), randomInput(choice, 480+choice.IntN(40))
			checkBlocksInTexts(t, r, p, input, slices.Repeat([]int{10}, 50))
			checkBlocksInTexts(t, r, p, input, slices.Repeat([]int{1}, 500))
			checkBlocksInTexts(t, r, p, input, []int{0, 1, 498, 0, 1})
		}
	}
}
