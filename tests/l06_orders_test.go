package tests

import (
	"math/rand/v2"
	"slices"
	"testing"

	"loop.example/g03223/impl"
)

// isReady reports whether each cable to the module i comes from a module that is listed or is a delay.
func isReady(r impl.Rack, listed []int, i int) bool {
	for _, c := range r.Cables {
		if c.To == i && waits(r, c) && !slices.Contains(listed, c.From) {
			return false
		}
	}
	return true
}

// checkOrder takes the order of a valid rack apart, as the document tells how it is found.
func checkOrder(t *testing.T, r impl.Rack) {
	t.Helper()
	order, ok := impl.OrderOf(r)
	if !ok || len(order) != len(r.Modules) {
		t.Fatalf("OrderOf(%v) = %v, %v", r, order, ok)
	}
	for k, next := range order {
		listed := order[:k]
		if next < 0 || next >= len(r.Modules) || slices.Contains(listed, next) || !isReady(r, listed, next) {
			t.Fatalf("OrderOf(%v) is %v, where %d cannot come next", r, order, next)
		}
		for i := range next {
			if !slices.Contains(listed, i) && isReady(r, listed, i) {
				t.Fatalf("OrderOf(%v) is %v, where %d could come instead of %d", r, order, i, next)
			}
		}
	}
}

func TestP10OrderOf(t *testing.T) {
	for _, r := range manyRacks() {
		checkOrder(t, r)
	}
}

// TestP10OrdersOfSmallAndRandomRacks has racks with an order and without.
func TestP10OrdersOfSmallAndRandomRacks(t *testing.T) {
	list, choice := smallRacks(), rand.New(rand.NewPCG(9, 10))
	for range 1000 {
		list = append(list, randomRack(choice, false), randomRack(choice, true))
	}
	for _, r := range list {
		if validRack(r) {
			checkOrder(t, r)
		} else if order, ok := impl.OrderOf(r); ok || len(order) != 0 {
			t.Fatalf("OrderOf(%v) = %v, %v", r, order, ok)
		}
	}
}

func TestP10NamedOrders(t *testing.T) {
	ascending, descending := []int{}, []int{}
	for i := range 16 {
		ascending, descending = append(ascending, i), append(descending, 15-i)
	}
	for _, c := range []struct {
		r    impl.Rack
		want []int
	}{
		{impl.Rack{}, nil}, {rackOf("g"), []int{0}}, {rackOf("+++"), []int{0, 1, 2}}, {rackOf("og", 0, 1), []int{0, 1}}, {rackOf("go", 1, 0), []int{1, 0}}, {rackOf("go", 1, 0, 1, 0, 1, 0), []int{1, 0}},
		{chainOf(16, false), ascending}, {chainOf(16, true), descending}, {rackOf("dddddddddddddddd"), ascending},
		// Of several modules that could come next, the one with the least index does, also if it was passed before.
		{rackOf("gggg", 3, 0), []int{1, 2, 3, 0}}, {rackOf("gggg", 1, 0), []int{1, 0, 2, 3}}, {rackOf("gggg", 2, 0, 3, 1), []int{2, 0, 3, 1}}, {rackOf("gggg", 3, 0, 2, 1), []int{2, 1, 3, 0}}, {rackOf("ggggg", 2, 0, 3, 0, 4, 1), []int{2, 3, 0, 4, 1}}, {rackOf("ggggg", 4, 2, 2, 0, 2, 1), []int{3, 4, 2, 0, 1}},
		// The order of the cables makes no difference.
		{rackOf("gggg", 2, 1, 3, 0), []int{2, 1, 3, 0}}, {rackOf("ggggg", 4, 1, 3, 0, 2, 0), []int{2, 3, 0, 4, 1}},
		// Nothing waits for a delay, which waits for what feeds it.
		{rackOf("d", 0, 0), []int{0}}, {rackOf("gd", 1, 0), []int{0, 1}}, {rackOf("dg", 1, 0), []int{1, 0}}, {rackOf("dg", 0, 1, 1, 0), []int{1, 0}}, {rackOf("gd", 0, 1, 1, 0), []int{0, 1}}, {rackOf("dd", 0, 1, 1, 0), []int{0, 1}}, {rackOf("dgd", 0, 1, 1, 2, 2, 0), []int{0, 1, 2}}, {rackOf("ddg", 2, 0, 0, 1, 1, 2), []int{1, 2, 0}},
		{rackOf("dggg", 3, 0, 2, 3, 1, 2, 0, 1), []int{1, 2, 3, 0}}, {rackOf("gdgg", 1, 3, 3, 2, 2, 0, 0, 1), []int{3, 2, 0, 1}}, {rackOf("dxd", 1, 0, 1, 2, 0, 1, 2, 1, 0, 0), []int{1, 0, 2}},
		// Only delays are like this: a hold, which may also give what it got before, is not.
		{rackOf("gh", 1, 0), []int{1, 0}}, {rackOf("g+", 1, 0), []int{1, 0}}, {rackOf("gm", 1, 0), []int{1, 0}}, {rackOf("gt", 1, 0), []int{1, 0}}, {rackOf("gx", 1, 0), []int{1, 0}}, {rackOf("go", 1, 0), []int{1, 0}},
	} {
		order, ok := impl.OrderOf(c.r)
		if !ok || !slices.Equal(order, c.want) {
			t.Errorf("OrderOf(%v) = %v, %v; not %v", c.r, order, ok, c.want)
		}
	}
	for _, r := range loopRacks() {
		if order, ok := impl.OrderOf(r); ok || len(order) != 0 {
			t.Errorf("OrderOf(%v) = %v, %v", r, order, ok)
		}
	}
}

// ordersOf are all lists of the numbers from 0 to n - 1, in which each of them is once, in ascending order of the lists.
func ordersOf(n int) [][]int {
	list := [][]int{{}}
	for range n {
		longer := [][]int{}
		for _, order := range list {
			for i := range n {
				if !slices.Contains(order, i) {
					longer = append(longer, append(slices.Clone(order), i))
				}
			}
		}
		list = longer
	}
	return list
}

// goesForward reports whether each cable comes from a module before in order, or from a delay.
func goesForward(r impl.Rack, order []int) bool {
	for _, c := range r.Cables {
		if waits(r, c) && slices.Index(order, c.From) >= slices.Index(order, c.To) {
			return false
		}
	}
	return true
}

// TestP6CablesComeFromBeforeOrFromDelays finds the order among all orders: it is the first one of those in which no cable goes back, and if there is none, the rack is not valid.
func TestP6CablesComeFromBeforeOrFromDelays(t *testing.T) {
	choice := rand.New(rand.NewPCG(11, 12))
	list := smallRacks()
	for range 400 {
		list = append(list, randomRack(choice, false), randomRack(choice, true))
	}
	orders := [][][]int{}
	for n := range 6 {
		orders = append(orders, ordersOf(n))
	}
	for _, r := range append(list, manyRacks()...) {
		order, ok := impl.OrderOf(r)
		if ok != impl.IsRack(r) || ok && !goesForward(r, order) {
			t.Fatalf("in the order %v, %v, of %v a cable comes from behind, or the rack is not valid", order, ok, r)
		}
		if len(r.Modules) > 5 || len(r.Cables) > 40 {
			continue
		}
		k := slices.IndexFunc(orders[len(r.Modules)], func(order []int) bool { return goesForward(r, order) })
		if ok != (k >= 0) || ok && !slices.Equal(order, orders[len(r.Modules)][k]) {
			t.Fatalf("OrderOf(%v) = %v, %v; not the first of all orders", r, order, ok)
		}
	}
}
