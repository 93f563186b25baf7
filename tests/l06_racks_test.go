package tests

import (
	"math"
	"math/rand/v2"
	"slices"
	"testing"

	"loop.example/g03223/impl"
)

func sameRack(a impl.Rack, b impl.Rack) bool {
	return slices.EqualFunc(a.Modules, b.Modules, sameModule) && slices.Equal(a.Cables, b.Cables)
}

// noRack reports whether r is the zero value.
func noRack(r impl.Rack) bool { return len(r.Modules) == 0 && len(r.Cables) == 0 }

func copyOfRack(r impl.Rack) impl.Rack {
	modules := []impl.Module{}
	for _, m := range r.Modules {
		modules = append(modules, copyOfModule(m))
	}
	return impl.Rack{Modules: modules, Cables: slices.Clone(r.Cables)}
}

// cablesOf makes cables of the numbers From and To of each.
func cablesOf(ends ...int) []impl.Cable {
	list := []impl.Cable{}
	for pair := range slices.Chunk(ends, 2) {
		list = append(list, impl.Cable{From: pair[0], To: pair[1]})
	}
	return list
}

// moduleAt is a module of the kind with this letter, which differs from those for other numbers, but for a sum.
func moduleAt(letter rune, i int) impl.Module {
	z := complex(float32(i+1), float32(-i)/4)
	switch letter {
	case 'o':
		return impl.Module{Kind: 1, Turn: z, State: 1i}
	case 'x':
		return impl.Module{Kind: 2, Turn: 1i, State: z}
	case 'g':
		return impl.Module{Kind: 3, Level: float32(i) + 0.5}
	case 'd':
		return delayOf(i%3, z, complex(0, minusZero()), complex(notANumber(), float32(i)))
	case 't':
		return slicerOf(i, z, 200, 300i)
	case 'm':
		return impl.Module{Kind: 7, Level: float32(i) + 0.25}
	case 'h':
		return impl.Module{Kind: 8, State: z, Count: 50, Left: i}
	}
	return impl.Module{Kind: 5}
}

// rackOf has a module for each letter (o, x, g, d, +, t, m and h are the kinds in their order), and cables with these ends.
func rackOf(letters string, ends ...int) impl.Rack {
	modules := []impl.Module{}
	for i, letter := range letters {
		modules = append(modules, moduleAt(letter, i))
	}
	return impl.Rack{Modules: modules, Cables: cablesOf(ends...)}
}

// chainOf has n gains, each of which feeds the next one, or the one before if back is true.
func chainOf(n int, back bool) impl.Rack {
	r := impl.Rack{}
	for i := range n {
		r.Modules = append(r.Modules, moduleAt('g', i))
		if i > 0 && back {
			r.Cables = append(r.Cables, impl.Cable{From: i, To: i - 1})
		} else if i > 0 {
			r.Cables = append(r.Cables, impl.Cable{From: i - 1, To: i})
		}
	}
	return r
}

// withCables returns r with cables with these ends behind its own.
func withCables(r impl.Rack, ends ...int) impl.Rack {
	return impl.Rack{Modules: r.Modules, Cables: slices.Concat(r.Cables, cablesOf(ends...))}
}

// withModules returns r with modules behind its own.
func withModules(r impl.Rack, modules ...impl.Module) impl.Rack {
	return impl.Rack{Modules: slices.Concat(r.Modules, modules), Cables: r.Cables}
}

// withModule returns r with m in the place of the module i.
func withModule(r impl.Rack, i int, m impl.Module) impl.Rack {
	r = impl.Rack{Modules: slices.Clone(r.Modules), Cables: r.Cables}
	r.Modules[i] = m
	return r
}

// waits reports whether a cable is one from which the module it leads to has to wait for another one.
func waits(r impl.Rack, c impl.Cable) bool { return r.Modules[c.From].Kind != 4 }

// hasLoop reports whether one can go around through cables, none of which comes from a delay, for cables whose ends exist.
func hasLoop(r impl.Rack) bool {
	n := len(r.Modules)
	reached := make([][]bool, n)
	for i := range reached {
		reached[i] = make([]bool, n)
	}
	for _, c := range r.Cables {
		reached[c.From][c.To] = reached[c.From][c.To] || waits(r, c)
	}
	for via := range n {
		for i := range n {
			for k := range n {
				reached[i][k] = reached[i][k] || reached[i][via] && reached[via][k]
			}
		}
	}
	for i := range n {
		if reached[i][i] {
			return true
		}
	}
	return false
}

// validRack is what IsRack should return.
func validRack(r impl.Rack) bool {
	n := len(r.Modules)
	if n > 16 || len(r.Cables) > 40 || slices.ContainsFunc(r.Modules, func(m impl.Module) bool { return !validModule(m) }) {
		return false
	}
	for _, c := range r.Cables {
		if min(c.From, c.To) < 0 || max(c.From, c.To) >= n {
			return false
		}
	}
	return !hasLoop(r)
}

// crowdedRack has 40 cables, from four modules to a fifth one.
func crowdedRack() impl.Rack {
	r := rackOf("ogdh+")
	for k := range 40 {
		r = withCables(r, k%4, 4)
	}
	return r
}

// fullRack has 16 modules and 40 cables, among them loops through delays.
func fullRack() impl.Rack {
	r := rackOf("ogdxt+mhdgog+dth")
	for k := range 40 {
		from, to := k*7%16, k*5%16
		if waits(r, impl.Cable{From: from}) {
			from, to = min(from, 14), max(to, min(from, 14)+1)
		}
		r = withCables(r, from, to)
	}
	return r
}

// namedRacks are valid, and have what the chapter names.
func namedRacks() []impl.Rack {
	return []impl.Rack{
		{}, {Modules: []impl.Module{}, Cables: []impl.Cable{}}, rackOf("+"), rackOf("oxgd+tmh"), rackOf("+++"), rackOf("dddddddddddddddd"), rackOf("oxgd+tmhhmt+dgxo"),
		// Loops through one delay, two of them, and more.
		rackOf("d", 0, 0), rackOf("d", 0, 0, 0, 0, 0, 0), rackOf("dg", 0, 1, 1, 0), rackOf("gd", 0, 1, 1, 0), rackOf("dd", 0, 1, 1, 0), rackOf("gdgd", 0, 1, 1, 2, 2, 3, 3, 0), rackOf("gdgdg", 4, 3, 3, 2, 2, 1, 1, 0, 0, 1, 1, 4, 1, 1), rackOf("hdxdo", 4, 0, 0, 2, 2, 1, 1, 0, 2, 3, 3, 2),
		// Several cables between the same two modules, and modules behind those with greater indices.
		rackOf("og", 0, 1, 0, 1, 0, 1), rackOf("go", 1, 0, 1, 0), rackOf("ogh+", 0, 3, 1, 3, 2, 3, 0, 3, 2, 1), rackOf("+ggo", 3, 2, 2, 1, 1, 0, 3, 0), rackOf("ggghgg", 5, 0, 0, 4, 4, 1, 5, 1, 3, 2),
		chainOf(2, true), chainOf(15, false), chainOf(16, false), chainOf(16, true), crowdedRack(), fullRack(),
	}
}

// loopRacks have no order, and nothing else against them.
func loopRacks() []impl.Rack {
	list := []impl.Rack{
		rackOf("g", 0, 0), rackOf("+", 0, 0), rackOf("og", 0, 1, 1, 1), rackOf("gg", 0, 1, 1, 0), rackOf("gg", 0, 1, 0, 1, 1, 0), rackOf("ggg", 0, 2, 2, 1, 1, 0), rackOf("dgg", 0, 1, 1, 2, 2, 1), rackOf("dgg", 0, 0, 0, 1, 1, 0, 2, 2), rackOf("dgd", 0, 1, 1, 1, 1, 2),
		// One loop is broken by a delay, another one is not; a delay that is fed by a loop, or feeds it, does not break it.
		rackOf("gdgg", 0, 1, 1, 0, 2, 3, 3, 2), rackOf("gdg", 0, 1, 1, 2, 2, 0, 0, 2), rackOf("ggd", 0, 1, 1, 0, 1, 2, 2, 0),
		withCables(chainOf(16, false), 15, 0), withCables(chainOf(16, true), 0, 15), withCables(chainOf(16, false), 9, 8), withCables(chainOf(16, false), 15, 15), withCables(chainOf(16, true), 0, 0),
	}
	for _, letter := range "oxg+tmh" {
		list = append(list, rackOf(string(letter), 0, 0), rackOf("d"+string(letter), 1, 1), rackOf(string(letter)+"g", 0, 1, 1, 0))
	}
	return list
}

// oddIndices are no indices of n elements.
func oddIndices(n int) []int {
	list := []int{-1, n, n + 1, math.MaxInt, math.MinInt}
	for _, i := range append(oddNumbers(n), 15, 16, 40, 41, 255, 256, 1<<31, -1<<31, 1<<16, 1<<8) {
		if (i < 0 || i >= n) && !slices.Contains(list, i) {
			list = append(list, i)
		}
	}
	return list
}

// oddModules are some that are not valid, each of which is wrong in another way.
func oddModules() []impl.Module {
	type module = impl.Module
	return []module{
		{}, {Kind: 9}, {Kind: -1}, {Kind: 1<<32 + 3}, {Kind: 3, Count: 1}, {Kind: 5, Level: minusZero()}, {Kind: 1, Ring: ringOf(1, 0, 5)},
		{Kind: 4}, {Kind: 4, Ring: ringOf(2, 0, 5)}, {Kind: 4, Ring: ringOf(17, 0, someSamples(17)...)}, {Kind: 4, Ring: impl.Ring{Store: make([]complex64, 2), At: 2, Count: 2}},
		{Kind: 6, Table: tableOf(1, 1)}, {Kind: 6, Table: lineTable(65)}, {Kind: 6, Table: tableOf(complex(notANumber(), 0))}, {Kind: 7, Level: -1}, {Kind: 7, Level: notANumber()}, {Kind: 8}, {Kind: 8, Count: 101}, {Kind: 8, Count: 3, Left: 3},
	}
}

// badRacks are wrong in one thing, and some in several.
func badRacks() []impl.Rack {
	list := loopRacks()
	for _, m := range oddModules() {
		list = append(list, impl.Rack{Modules: []impl.Module{m}}, withModule(rackOf("ogd+", 0, 1, 2, 2), 1, m), withModule(chainOf(16, false), 15, m), withModule(chainOf(16, true), 0, m))
	}
	for _, n := range []int{0, 1, 2, 5, 15, 16} {
		good := chainOf(n, n%2 == 0)
		for _, i := range oddIndices(n) {
			list = append(list, withCables(good, i, i), withCables(withCables(impl.Rack{Modules: good.Modules}, i, i), 0, n-1))
			if n > 0 {
				list = append(list, withCables(good, i, n-1), withCables(good, 0, i), withCables(impl.Rack{Modules: good.Modules}, i, 0, n-1, n-1), withCables(impl.Rack{Modules: good.Modules}, n-1, i))
			}
		}
	}
	sums := slices.Repeat([]impl.Module{{Kind: 5}}, 300)
	list = append(list, impl.Rack{Modules: sums}, impl.Rack{Modules: sums[:17]}, impl.Rack{Modules: sums[:18]}, impl.Rack{Modules: sums[:17], Cables: cablesOf(0, 1, 1, 2)}, impl.Rack{Modules: sums[:17], Cables: cablesOf(16, 1)})
	list = append(list, chainOf(17, false), chainOf(17, true), chainOf(100, false), withModules(fullRack(), impl.Module{Kind: 4, Ring: ringOf(1, 0, 5)}))
	list = append(list, withCables(crowdedRack(), 0, 4), withCables(crowdedRack(), 2, 2, 3, 4), withCables(fullRack(), 2, 2), impl.Rack{Modules: rackOf("d").Modules, Cables: make([]impl.Cable, 41)}, impl.Rack{Modules: sums[:2], Cables: slices.Repeat(cablesOf(0, 1), 1000)})
	return append(list, impl.Rack{Modules: sums[:17], Cables: slices.Repeat(cablesOf(0, 1), 41)}, impl.Rack{Modules: make([]impl.Module, 17)}, impl.Rack{Modules: sums[:0], Cables: make([]impl.Cable, 41)}, impl.Rack{Cables: make([]impl.Cable, 1)})
}

// randomRack has any number of modules and of cables. Most of those with order true are valid.
func randomRack(choice *rand.Rand, order bool) impl.Rack {
	n := []int{1, 2, 3, 4, 5, 7, 12, 16}[choice.IntN(8)]
	letters := ""
	for range n {
		letters += string("ddoxg+tmh"[choice.IntN(9)])
	}
	r, place := rackOf(letters), choice.Perm(n)
	for range choice.IntN([]int{3, 8, 20, 41}[choice.IntN(4)]) {
		c := impl.Cable{From: choice.IntN(n), To: choice.IntN(n)}
		if order && waits(r, c) && place[c.From] >= place[c.To] {
			continue
		}
		r.Cables = append(r.Cables, c)
	}
	return r
}

// manyRacks are valid, those of chapter 7 and random ones.
func manyRacks() []impl.Rack {
	list, choice := namedRacks(), rand.New(rand.NewPCG(5, 6))
	for range 150 {
		list = append(list, randomRack(choice, true))
	}
	return list
}

// smallRacks are all racks of up to three gains and delays with at most one cable between two of them, in each direction, and from each one to itself. Many have no order.
func smallRacks() []impl.Rack {
	list := []impl.Rack{}
	for _, letters := range []string{"", "g", "d", "gg", "gd", "dg", "dd", "ggg", "ggd", "gdg", "dgg", "gdd", "dgd", "ddg", "ddd"} {
		n := len(letters)
		for set := range 1 << (n * n) {
			r := rackOf(letters)
			for i := range n * n {
				if set>>i&1 == 1 {
					r = withCables(r, i/n, i%n)
				}
			}
			list = append(list, r)
		}
	}
	return list
}

func TestP10ConstantsOfRacks(t *testing.T) {
	if impl.MaxModules != 16 || impl.MaxCables != 40 {
		t.Error("MaxModules or MaxCables")
	}
}

func TestP10IsRack(t *testing.T) {
	for _, r := range manyRacks() {
		if !impl.IsRack(r) || !validRack(r) {
			t.Fatalf("%v is not valid", r)
		}
	}
	for _, r := range badRacks() {
		if impl.IsRack(r) || validRack(r) {
			t.Fatalf("%v is valid", r)
		}
	}
}

func TestP10IsRackOfAllModules(t *testing.T) {
	for _, m := range append(goodModules(), plainModules()...) {
		if !impl.IsRack(impl.Rack{Modules: []impl.Module{m}}) || !impl.IsRack(withModules(rackOf("dg", 0, 1, 1, 0), m)) {
			t.Fatalf("a rack with %v is not valid", m)
		}
	}
	for _, m := range badModules() {
		if impl.IsRack(impl.Rack{Modules: []impl.Module{m}}) {
			t.Fatalf("a rack with %v is valid", m)
		}
	}
}

// TestP10SmallAndRandomRacks also has racks without an order among the others.
func TestP10SmallAndRandomRacks(t *testing.T) {
	choice := rand.New(rand.NewPCG(7, 8))
	list := smallRacks()
	for range 2000 {
		list = append(list, randomRack(choice, false))
	}
	good := 0
	for _, r := range list {
		want := validRack(r)
		if impl.IsRack(r) != want {
			t.Fatalf("IsRack(%v) is not %v", r, want)
		}
		if want {
			good++
		}
	}
	if good < 500 || good > len(list)-500 {
		t.Errorf("%d of %d racks are valid", good, len(list))
	}
}

// checkRackRefused gives a rack that is not valid, and an index, to all functions that need a valid one.
func checkRackRefused(t *testing.T, r impl.Rack, i int) {
	t.Helper()
	for _, m := range []impl.Module{{Kind: 5}, delayOf(0, 1), {}} {
		added, k, ok := impl.AddModule(r, m)
		swapped, okToo := impl.SwapModule(r, i, m)
		if ok || k != 0 || !noRack(added) || okToo || !noRack(swapped) {
			t.Fatalf("AddModule or SwapModule(%v, %d, %v) has a result: %v, %d, %v; %v, %v", r, i, m, added, k, ok, swapped, okToo)
		}
	}
	longer, one := impl.AddCable(r, i, 0)
	shorter, two := impl.DropCable(r, i)
	smaller, three := impl.DropModule(r, i)
	if one || two || three || !noRack(longer) || !noRack(shorter) || !noRack(smaller) {
		t.Fatalf("AddCable, DropCable or DropModule(%v, %d) has a result: %v, %v, %v", r, i, longer, shorter, smaller)
	}
	feeds, one := impl.FeedsOf(r, i)
	reach, two := impl.ReachOf(r, i)
	if one || two || len(feeds) != 0 || len(reach) != 0 {
		t.Fatalf("FeedsOf or ReachOf(%v, %d) has a result: %v, %v", r, i, feeds, reach)
	}
}

func TestP10RacksThatAreNotValid(t *testing.T) {
	for _, r := range badRacks() {
		n := len(r.Modules)
		for _, i := range append(oddIndices(n), 0, 1, 2, n/2, n-1, len(r.Cables)-1) {
			checkRackRefused(t, r, i)
		}
		same, opposite := []int{}, []int{}
		for i := range n {
			same, opposite = append(same, i), append(opposite, n-1-i)
		}
		for _, order := range [][]int{nil, {0}, {-1}, {0, 1}, same, opposite, append(same, n)} {
			if p, ok := impl.PermuteRack(r, order); ok || !noRack(p) {
				t.Fatalf("PermuteRack(%v, %v) = %v, %v", r, order, p, ok)
			}
		}
		order, ok := impl.OrderOf(r)
		if jacks := impl.JacksOf(r); ok || len(order) != 0 || len(jacks) != 0 {
			t.Fatalf("OrderOf or JacksOf(%v) has a result: %v, %v", r, order, jacks)
		}
	}
}
