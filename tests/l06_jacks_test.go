package tests

import (
	"math/rand/v2"
	"slices"
	"testing"

	"loop.example/g03223/impl"
)

// feedsOf is what FeedsOf should return, for a valid rack.
func feedsOf(r impl.Rack, i int) []int {
	feeds := []int{}
	for _, c := range r.Cables {
		if c.To == i {
			feeds = append(feeds, c.From)
		}
	}
	return feeds
}

// jacksOf is what JacksOf should return, for a valid rack: it looks for the group of a module when it comes to its first one.
func jacksOf(r impl.Rack) [][]int {
	groups := [][]int{}
	for i := range r.Modules {
		group := []int{}
		for k := range r.Modules {
			if slices.Equal(feedsOf(r, i), feedsOf(r, k)) {
				group = append(group, k)
			}
		}
		if group[0] == i {
			groups = append(groups, group)
		}
	}
	return groups
}

// reachOf is what ReachOf should return, for a valid rack: it goes one cable further as often as there are modules.
func reachOf(r impl.Rack, i int) []int {
	reached := map[int]bool{}
	for range r.Modules {
		for _, c := range r.Cables {
			if c.From == i || reached[c.From] {
				reached[c.To] = true
			}
		}
	}
	list := []int{}
	for k := range r.Modules {
		if reached[k] {
			list = append(list, k)
		}
	}
	return list
}

// cabledRacks are racks, valid ones and others.
func cabledRacks() []impl.Rack {
	list, choice := append(manyRacks(), smallRacks()...), rand.New(rand.NewPCG(17, 18))
	for range 400 {
		// With few sources and many sums, feeds are equal more often.
		r := rackOf("ogd++++d++++++")
		for range choice.IntN(36) {
			r = withCables(r, choice.IntN(3), 3+choice.IntN(11))
		}
		list = append(list, r, randomRack(choice, true))
	}
	return list
}

func TestP10FeedsOf(t *testing.T) {
	for _, r := range cabledRacks() {
		valid := validRack(r)
		for i := range r.Modules {
			feeds, ok := impl.FeedsOf(r, i)
			if want := feedsOf(r, i); ok != valid || ok && !slices.Equal(feeds, want) || !ok && len(feeds) != 0 {
				t.Fatalf("FeedsOf(%v, %d) = %v, %v; not %v", r, i, feeds, ok, want)
			}
		}
		for _, i := range oddIndices(len(r.Modules)) {
			if feeds, ok := impl.FeedsOf(r, i); ok || len(feeds) != 0 {
				t.Fatalf("FeedsOf(%v, %d) = %v, %v", r, i, feeds, ok)
			}
		}
	}
}

func TestP10NamedFeeds(t *testing.T) {
	r := rackOf("odgd+", 3, 4, 0, 2, 1, 1, 0, 4, 3, 2, 0, 4, 2, 3, 1, 4, 4, 1)
	for i, want := range [][]int{nil, {1, 4}, {0, 3}, {2}, {3, 0, 0, 1}} {
		if feeds, ok := impl.FeedsOf(r, i); !ok || !slices.Equal(feeds, want) {
			t.Errorf("FeedsOf(%v, %d) = %v, %v; not %v", r, i, feeds, ok, want)
		}
	}
	want := []int{}
	for k := range 40 {
		want = append(want, k%4)
	}
	if feeds, ok := impl.FeedsOf(crowdedRack(), 4); !ok || !slices.Equal(feeds, want) {
		t.Errorf("40 cables feed a module by %v, %v", feeds, ok)
	}
	if feeds, ok := impl.FeedsOf(impl.Rack{}, 0); ok || len(feeds) != 0 {
		t.Errorf("the first module of none is fed by %v, %v", feeds, ok)
	}
}

func TestP10JacksOf(t *testing.T) {
	for _, r := range cabledRacks() {
		want := [][]int{}
		if validRack(r) {
			want = jacksOf(r)
		}
		if jacks := impl.JacksOf(r); !slices.EqualFunc(jacks, want, slices.Equal) {
			t.Fatalf("JacksOf(%v) = %v, not %v", r, jacks, want)
		}
	}
}

func TestP10NamedJacks(t *testing.T) {
	for _, c := range []struct {
		r    impl.Rack
		want [][]int
	}{
		// Modules without any cable to them are one group.
		{impl.Rack{}, nil}, {rackOf("g"), [][]int{{0}}}, {rackOf("ogd"), [][]int{{0, 1, 2}}}, {rackOf("og", 0, 1), [][]int{{0}, {1}}}, {rackOf("ogg", 0, 1), [][]int{{0, 2}, {1}}}, {rackOf("ogg", 0, 1, 0, 2), [][]int{{0}, {1, 2}}},
		{chainOf(4, true), [][]int{{0}, {1}, {2}, {3}}}, {rackOf("d", 0, 0), [][]int{{0}}}, {rackOf("dd", 0, 0, 0, 1), [][]int{{0, 1}}}, {rackOf("dd", 0, 0, 1, 1), [][]int{{0}, {1}}}, {rackOf("dd", 0, 1, 1, 0), [][]int{{0}, {1}}}, {rackOf("ddd", 1, 0, 1, 1, 0, 2), [][]int{{0, 1}, {2}}},
		// The same modules in another order are not equal feeds.
		{rackOf("oo++", 0, 2, 1, 2, 1, 3, 0, 3), [][]int{{0, 1}, {2}, {3}}}, {rackOf("oo++", 0, 2, 1, 2, 0, 3, 1, 3), [][]int{{0, 1}, {2, 3}}}, {rackOf("oo++", 0, 2, 0, 3, 1, 3, 1, 2), [][]int{{0, 1}, {2, 3}}}, {rackOf("oo++", 0, 3, 0, 2, 1, 3, 1, 2), [][]int{{0, 1}, {2, 3}}},
		// Nor are the same modules, one of them more often, or more of them.
		{rackOf("o++", 0, 1, 0, 2, 0, 2), [][]int{{0}, {1}, {2}}}, {rackOf("o++", 0, 1, 0, 1, 0, 2, 0, 2), [][]int{{0}, {1, 2}}}, {rackOf("oo++", 0, 2, 0, 2, 1, 2, 0, 3, 1, 3, 1, 3), [][]int{{0, 1}, {2}, {3}}}, {rackOf("oo++", 0, 2, 1, 2, 0, 3), [][]int{{0, 1}, {2}, {3}}}, {rackOf("oo++", 1, 2, 0, 2, 0, 3), [][]int{{0, 1}, {2}, {3}}},
		// Modules are told by their places: equal ones are not the same ones.
		{rackOf("+++++", 0, 2, 1, 3, 0, 4), [][]int{{0, 1}, {2, 4}, {3}}},
		// Groups are in the order of their first modules, and each is ascending.
		{rackOf("++++++oo", 6, 3, 7, 2, 6, 1, 7, 4, 6, 5), [][]int{{0, 6, 7}, {1, 3, 5}, {2, 4}}}, {rackOf("+++o+", 3, 0, 4, 1, 3, 2), [][]int{{0, 2}, {1}, {3, 4}}}, {rackOf("++dd", 3, 0, 3, 2, 3, 1, 3, 3), [][]int{{0, 1, 2, 3}}},
	} {
		if jacks := impl.JacksOf(c.r); !slices.EqualFunc(jacks, c.want, slices.Equal) {
			t.Errorf("JacksOf(%v) = %v, not %v", c.r, jacks, c.want)
		}
	}
}

// TestP10GreatestJacks has 16 modules in one group, and in 16 of them.
func TestP10GreatestJacks(t *testing.T) {
	one, all := impl.Rack{Modules: rackOf("d+++++++++++++++").Modules}, chainOf(16, false)
	for i := range 16 {
		one = withCables(one, 0, i)
	}
	for _, r := range []impl.Rack{one, {Modules: all.Modules}} {
		if jacks := impl.JacksOf(r); len(jacks) != 1 || len(jacks[0]) != 16 || !slices.IsSorted(jacks[0]) {
			t.Errorf("JacksOf(%v) = %v", r, jacks)
		}
	}
	if jacks := impl.JacksOf(all); len(jacks) != 16 {
		t.Errorf("JacksOf(%v) = %v", all, jacks)
	}
}

func TestP10ReachOf(t *testing.T) {
	for _, r := range cabledRacks() {
		valid := validRack(r)
		for i := range r.Modules {
			reach, ok := impl.ReachOf(r, i)
			if want := reachOf(r, i); ok != valid || ok && !slices.Equal(reach, want) || !ok && len(reach) != 0 {
				t.Fatalf("ReachOf(%v, %d) = %v, %v; not %v", r, i, reach, ok, want)
			}
		}
		for _, i := range oddIndices(len(r.Modules)) {
			if reach, ok := impl.ReachOf(r, i); ok || len(reach) != 0 {
				t.Fatalf("ReachOf(%v, %d) = %v, %v", r, i, reach, ok)
			}
		}
	}
}

func TestP10NamedReach(t *testing.T) {
	for _, c := range []struct {
		r    impl.Rack
		i    int
		want []int
	}{
		// A module reaches itself only around a loop.
		{rackOf("g"), 0, nil}, {rackOf("d"), 0, nil}, {rackOf("d", 0, 0), 0, []int{0}}, {rackOf("gd", 0, 1, 1, 0), 0, []int{0, 1}}, {rackOf("gd", 0, 1, 1, 0), 1, []int{0, 1}}, {rackOf("gd", 0, 1, 1, 1), 0, []int{1}}, {rackOf("gd", 0, 1, 1, 1), 1, []int{1}}, {rackOf("gdg", 1, 2, 0, 1), 0, []int{1, 2}},
		// Delays are gone through as all other modules are, and cables only forward.
		{rackOf("oddg", 0, 1, 1, 2, 2, 3), 0, []int{1, 2, 3}}, {rackOf("oddg", 0, 1, 1, 2, 2, 3), 1, []int{2, 3}}, {rackOf("oddg", 0, 1, 1, 2, 2, 3), 3, nil}, {rackOf("oddg", 2, 3, 1, 2, 0, 1), 0, []int{1, 2, 3}}, {rackOf("ogx", 0, 1), 2, nil}, {rackOf("ogx", 0, 1), 0, []int{1}},
		{chainOf(16, true), 15, []int{0, 1, 2, 3, 4, 5, 6, 7, 8, 9, 10, 11, 12, 13, 14}}, {chainOf(16, true), 0, nil}, {chainOf(16, true), 3, []int{0, 1, 2}}, {chainOf(16, false), 12, []int{13, 14, 15}},
		// Several ways, and several cables, lead to the same module once.
		{rackOf("oggg", 0, 2, 0, 1, 1, 3, 2, 3), 0, []int{1, 2, 3}}, {rackOf("og", 0, 1, 0, 1), 0, []int{1}}, {rackOf("dddd", 3, 1, 1, 0, 0, 3, 2, 2), 1, []int{0, 1, 3}}, {rackOf("dddd", 3, 1, 1, 0, 0, 3, 2, 2), 2, []int{2}}, {crowdedRack(), 3, []int{4}}, {crowdedRack(), 4, nil},
	} {
		reach, ok := impl.ReachOf(c.r, c.i)
		if !ok || !slices.Equal(reach, c.want) {
			t.Errorf("ReachOf(%v, %d) = %v, %v; not %v", c.r, c.i, reach, ok, c.want)
		}
	}
}
