package tests

import (
	"math/rand/v2"
	"slices"
	"testing"

	"loop.example/g03223/impl"
)

// namesAll reports whether order names each number from 0 to n - 1 once.
func namesAll(order []int, n int) bool {
	sorted := slices.Sorted(slices.Values(order))
	for i, k := range sorted {
		if i != k {
			return false
		}
	}
	return len(order) == n
}

// renumbered gives the modules of r the numbers of order, and does not ask whether it is valid.
func renumbered(r impl.Rack, order []int) impl.Rack {
	p := pickedRack(r, order)
	for _, c := range r.Cables {
		p.Cables = append(p.Cables, impl.Cable{From: slices.Index(order, c.From), To: slices.Index(order, c.To)})
	}
	return p
}

// permutedRack is what PermuteRack should return.
func permutedRack(r impl.Rack, order []int) (impl.Rack, bool) {
	if !validRack(r) || !namesAll(order, len(r.Modules)) {
		return impl.Rack{}, false
	}
	return renumbered(r, order), true
}

func checkPermuted(t *testing.T, r impl.Rack, order []int, want impl.Rack, wantOK bool) {
	t.Helper()
	got, ok := impl.PermuteRack(r, order)
	checkRack(t, "PermuteRack", r, got, ok, want, wantOK)
}

// someOrders are orders of n modules: as they are, backwards, turned, and at random.
func someOrders(n int) [][]int {
	choice := rand.New(rand.NewPCG(13, 14))
	same := []int{}
	for i := range n {
		same = append(same, i)
	}
	back := slices.Clone(same)
	slices.Reverse(back)
	list := [][]int{same, back, choice.Perm(n), choice.Perm(n), choice.Perm(n)}
	if n > 0 {
		list = append(list, slices.Concat(same[1:], same[:1]), slices.Concat(same[n-1:], same[:n-1]))
	}
	return list
}

func TestP10PermuteRack(t *testing.T) {
	for _, r := range manyRacks() {
		for _, order := range someOrders(len(r.Modules)) {
			want, ok := permutedRack(r, order)
			checkPermuted(t, r, order, want, ok)
		}
	}
}

// TestP10PermuteSmallRacks gives all lists of up to four numbers from -1 to 3 to racks with an order and without.
func TestP10PermuteSmallRacks(t *testing.T) {
	lists, longest := [][]int{{}}, [][]int{{}}
	for range 4 {
		longer := [][]int{}
		for _, list := range longest {
			for i := -1; i <= 3; i++ {
				longer = append(longer, append(slices.Clone(list), i))
			}
		}
		longest = longer
		lists = append(lists, longer...)
	}
	for k, r := range smallRacks() {
		for i, list := range lists {
			if len(r.Modules) < 3 || namesAll(list, 3) || (i+k)%29 == 0 {
				want, ok := permutedRack(r, list)
				checkPermuted(t, r, list, want, ok)
			}
		}
	}
}

func TestP10NamedPermutations(t *testing.T) {
	checkPermuted(t, impl.Rack{}, nil, impl.Rack{}, true)
	checkPermuted(t, impl.Rack{}, []int{}, impl.Rack{}, true)
	checkPermuted(t, impl.Rack{}, []int{0}, impl.Rack{}, false)
	checkPermuted(t, rackOf("g"), []int{0}, rackOf("g"), true)
	checkPermuted(t, rackOf("g"), nil, impl.Rack{}, false)
	r := rackOf("odgh", 0, 1, 1, 1, 1, 2, 2, 3, 0, 3, 0, 1, 2, 1)
	for _, c := range []struct{ order, ends []int }{
		{[]int{0, 1, 2, 3}, []int{0, 1, 1, 1, 1, 2, 2, 3, 0, 3, 0, 1, 2, 1}},
		{[]int{3, 2, 1, 0}, []int{3, 2, 2, 2, 2, 1, 1, 0, 3, 0, 3, 2, 1, 2}},
		// These two are the opposites of each other: the module k is the module order[k], not the other way round.
		{[]int{1, 2, 3, 0}, []int{3, 0, 0, 0, 0, 1, 1, 2, 3, 2, 3, 0, 1, 0}},
		{[]int{3, 0, 1, 2}, []int{1, 2, 2, 2, 2, 3, 3, 0, 1, 0, 1, 2, 3, 2}},
		{[]int{2, 0, 1, 3}, []int{1, 2, 2, 2, 2, 0, 0, 3, 1, 3, 1, 2, 0, 2}},
	} {
		checkPermuted(t, r, c.order, pickedRack(r, c.order, c.ends...), true)
	}
	for _, order := range [][]int{
		nil, {0}, {0, 1, 2}, {3, 2, 1}, {0, 1, 2, 3, 4}, {0, 1, 2, 3, 0}, {0, 1, 2, 3, 3}, {4, 0, 1, 2, 3}, {0, 1, 2, 3, -1},
		{0, 0, 0, 0}, {0, 1, 2, 2}, {3, 1, 2, 3}, {1, 1, 2, 3}, {0, 1, 2, 4}, {-1, 0, 1, 2}, {1, 2, 3, 4}, {0, 1, -1, 3},
	} {
		checkPermuted(t, r, order, impl.Rack{}, false)
	}
	for k := range 4 {
		for _, i := range oddIndices(4) {
			order := []int{3, 1, 0, 2}
			order[k] = i
			checkPermuted(t, r, order, impl.Rack{}, false)
		}
	}
	checkPermuted(t, fullRack(), make([]int, 16), impl.Rack{}, false)
	checkPermuted(t, fullRack(), make([]int, 1000), impl.Rack{}, false)
}

// numbersIn gives modules the numbers that they have in the order.
func numbersIn(order []int, list []int) []int {
	numbers := []int{}
	for _, i := range list {
		numbers = append(numbers, slices.Index(order, i))
	}
	return numbers
}

func sortedLists(lists [][]int) [][]int {
	sorted := [][]int{}
	for _, list := range lists {
		sorted = append(sorted, slices.Sorted(slices.Values(list)))
	}
	slices.SortFunc(sorted, slices.Compare)
	return sorted
}

// checkNumbering asks for all that chapter 7 tells about r, and about the same rack with other numbers.
func checkNumbering(t *testing.T, r impl.Rack, order []int) {
	t.Helper()
	p, ok := impl.PermuteRack(r, order)
	if !ok || !impl.IsRack(p) {
		t.Fatalf("PermuteRack(%v, %v) = %v, %v", r, order, p, ok)
	}
	back, ok := impl.PermuteRack(p, numbersIn(order, someOrders(len(order))[0]))
	if !ok || !sameRack(back, r) {
		t.Fatalf("PermuteRack(%v, %v) leads back to %v, %v", r, order, back, ok)
	}
	checkOrder(t, p)
	jacks := [][]int{}
	for _, group := range impl.JacksOf(r) {
		jacks = append(jacks, numbersIn(order, group))
	}
	if got := impl.JacksOf(p); !slices.EqualFunc(sortedLists(got), sortedLists(jacks), slices.Equal) {
		t.Fatalf("the jacks of %v are %v, and those of it in the order %v %v", r, impl.JacksOf(r), order, got)
	}
	for k, i := range order {
		feeds, one := impl.FeedsOf(r, i)
		reach, two := impl.ReachOf(r, i)
		feedsToo, three := impl.FeedsOf(p, k)
		reachToo, four := impl.ReachOf(p, k)
		if !one || !two || !three || !four {
			t.Fatalf("FeedsOf or ReachOf(%v, %d) fails, or in the order %v", r, i, order)
		}
		if !slices.Equal(numbersIn(order, feeds), feedsToo) || !slices.Equal(slices.Sorted(slices.Values(numbersIn(order, reach))), reachToo) {
			t.Fatalf("the feeds and the reach of %d in %v are %v and %v, and in the order %v they are %v and %v", i, r, feeds, reach, order, feedsToo, reachToo)
		}
	}
}

func TestP6NumberingMakesNoDifference(t *testing.T) {
	for _, r := range manyRacks() {
		for _, order := range someOrders(len(r.Modules)) {
			checkNumbering(t, r, order)
		}
	}
	for _, r := range smallRacks() {
		if impl.IsRack(r) {
			for _, order := range ordersOf(len(r.Modules)) {
				checkNumbering(t, r, order)
			}
		}
	}
	// All orders of one rack of five modules.
	for _, order := range ordersOf(5) {
		checkNumbering(t, rackOf("odgd+", 0, 2, 1, 1, 3, 2, 2, 4, 1, 0, 3, 3, 2, 3, 0, 4, 2, 4, 3, 1, 4, 1), order)
	}
}

// TestP6NoNumberingGivesAnOrder has racks that are not valid, too: other numbers, or cables in another order, do not make them valid.
func TestP6NoNumberingGivesAnOrder(t *testing.T) {
	choice := rand.New(rand.NewPCG(15, 16))
	list := append(loopRacks(), manyRacks()...)
	for range 300 {
		list = append(list, randomRack(choice, false))
	}
	for _, r := range list {
		for _, order := range someOrders(len(r.Modules)) {
			p := renumbered(r, order)
			if impl.IsRack(p) != impl.IsRack(r) {
				t.Fatalf("%v is valid: %v; but not in the order %v", r, impl.IsRack(r), order)
			}
			choice.Shuffle(len(p.Cables), func(i int, k int) { p.Cables[i], p.Cables[k] = p.Cables[k], p.Cables[i] })
			if impl.IsRack(p) != impl.IsRack(r) {
				t.Fatalf("%v is valid: %v; but not with the cables of %v", r, impl.IsRack(r), p)
			}
		}
	}
}

// TestP6EditsGoBack takes away what was added, and puts back what was taken away.
func TestP6EditsGoBack(t *testing.T) {
	for _, r := range manyRacks() {
		n := len(r.Modules)
		longer, i, ok := impl.AddModule(r, impl.NewMeter())
		if ok != (n < 16) {
			t.Fatalf("AddModule(%v) is %v", r, ok)
		}
		if ok {
			checkDropModule(t, longer, i, r, true)
		}
		for i, m := range r.Modules {
			swapped, ok := impl.SwapModule(r, i, moduleAt('d', 5))
			if !ok {
				t.Fatalf("SwapModule(%v, %d) for a delay fails", r, i)
			}
			checkSwap(t, swapped, i, m, r, true)
		}
		rest := r
		for k := len(r.Cables) - 1; k >= 0; k-- {
			last := rest.Cables[k]
			shorter, ok := impl.DropCable(rest, k)
			if !ok {
				t.Fatalf("DropCable(%v, %d) fails", rest, k)
			}
			checkAddCable(t, shorter, last.From, last.To, rest, true)
			rest = shorter
		}
		checkRack(t, "DropCable of all cables", r, rest, true, impl.Rack{Modules: r.Modules}, true)
	}
}
