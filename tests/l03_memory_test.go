package tests

import (
	"slices"
	"testing"

	"loop.example/g03223/impl"
)

// roomyPool returns p with room behind its store and leases, in which there is something, and a function that reports whether all is as it was.
func roomyPool(p impl.Pool) (impl.Pool, func() bool) {
	store := slices.Concat(p.Store, []complex64{91, 92i, 93})
	leases := slices.Concat(p.Leases, []impl.Lease{lease(94, 95, 96), freeLease(), lease(97, 98, 99)})
	n, m := len(p.Store), len(p.Leases)
	wholeStore, wholeLeases := slices.Clone(store), slices.Clone(leases)
	return impl.Pool{Store: store[:n], Leases: leases[:m]}, func() bool {
		return slices.EqualFunc(store, wholeStore, samePoint) && slices.Equal(leases, wholeLeases)
	}
}

// scribblePool writes all over a pool, and over the room behind it.
func scribblePool(p impl.Pool) {
	store, leases := p.Store[:cap(p.Store)], p.Leases[:cap(p.Leases)]
	for i := range store {
		store[i] = 1234
	}
	for i := range leases {
		leases[i] = lease(1234, 1234, 1234)
	}
}

// poolFunctions are all functions that make a pool of one.
func poolFunctions() map[string]func(p impl.Pool) impl.Pool {
	type pool = impl.Pool
	return map[string]func(p pool) pool{
		"LendRoom":                func(p pool) pool { r, _, _ := impl.LendRoom(p, 1); return r },
		"GiveBack":                func(p pool) pool { r, _ := impl.GiveBack(p, 0); return r },
		"AppendTo":                func(p pool) pool { r, _ := impl.AppendTo(p, 0, []complex64{5}); return r },
		"AppendTo of nothing":     func(p pool) pool { r, _ := impl.AppendTo(p, 0, nil); return r },
		"AppendTo of the store":   func(p pool) pool { r, _ := impl.AppendTo(p, 0, p.Store[:2]); return r },
		"AppendWindow":            func(p pool) pool { r, _ := impl.AppendWindow(p, 0, 1); return r },
		"AppendWindow to its own": func(p pool) pool { r, _ := impl.AppendWindow(p, 0, 0); return r },
		"CutLease":                func(p pool) pool { r, _, _ := impl.CutLease(p, 0, 1); return r },
		"CompactPool":             impl.CompactPool,
	}
}

func TestP10PoolsShareNoMemory(t *testing.T) {
	for name, f := range poolFunctions() {
		for _, made := range []impl.Pool{
			poolOf(12, lease(1, 2, 5), lease(7, 1, 3)), poolOf(12, lease(6, 2, 6), lease(1, 2, 5)), poolOf(10, lease(0, 2, 5), lease(5, 1, 4)),
			poolOf(40, lease(3, 2, 9), lease(20, 3, 9), freeLease(), lease(30, 0, 10)), poolOf(256, lease(0, 2, 4), lease(4, 1, 251)),
		} {
			p, same := roomyPool(made)
			r := f(p)
			if noPool(r) || !same() {
				t.Fatalf("%s of %v is %v; the argument is as it was: %v", name, made, r, same())
			}
			want := copyOfPool(r)
			again := f(p)
			scribblePool(again)
			if !same() || !samePool(r, want) {
				t.Errorf("%s of %v: the result has memory of the argument, or of an earlier result", name, made)
			}
			scribblePool(p)
			if !samePool(r, want) {
				t.Errorf("%s of %v: the argument has memory of the result", name, made)
			}
		}
	}
}

func TestP10ListsAndWindowsShareNoMemory(t *testing.T) {
	for _, made := range goodPools() {
		p, same := roomyPool(made)
		for id, l := range p.Leases {
			window, ok := impl.WindowOf(p, id)
			other, _ := impl.WindowOf(p, id)
			want := slices.Clone(other)
			for i := range window[:cap(window)] {
				window[:cap(window)][i] = 1234
			}
			if ok != !l.Free || !same() || !slices.EqualFunc(other, want, samePoint) {
				t.Fatalf("a window of %v has memory of the pool, or of another window", made)
			}
			list := append(someSamples(l.Room-l.Count), 71, 72)
			whole := slices.Clone(list)
			q, _ := impl.AppendTo(p, id, list[:l.Room-l.Count])
			kept := copyOfPool(q)
			if !slices.EqualFunc(list, whole, samePoint) {
				t.Fatalf("the list is %v after AppendTo to %v", list, made)
			}
			for i := range list {
				list[i] = 1234
			}
			if !samePool(q, kept) || !same() {
				t.Fatalf("the list has memory of %v", q)
			}
		}
	}
	first, _ := impl.NewPool(9)
	second, _ := impl.NewPool(9)
	scribblePool(first)
	if !slices.Equal(second.Store, make([]complex64, 9)) {
		t.Error("two new pools share memory")
	}
}

// TestP10PoolsAreLeftAlone also checks that no result depends on what is behind an argument.
func TestP10PoolsAreLeftAlone(t *testing.T) {
	for _, made := range append(badPools(), goodPools()...) {
		p, same := roomyPool(made)
		tight := impl.Pool{Store: slices.Clip(slices.Clone(made.Store)), Leases: slices.Clip(slices.Clone(made.Leases))}
		impl.IsPool(p)
		impl.FreeRoom(p)
		list := []complex64{1, 2i}
		for _, room := range []int{0, 1, 3} {
			a, i, one := impl.LendRoom(p, room)
			b, k, two := impl.LendRoom(tight, room)
			if one != two || i != k || !samePool(a, b) {
				t.Fatalf("LendRoom(%v, %d) depends on a capacity: %v, %v", made, room, a, b)
			}
		}
		if a, b := impl.CompactPool(p), impl.CompactPool(tight); !samePool(a, b) {
			t.Fatalf("CompactPool(%v) depends on a capacity: %v, %v", made, a, b)
		}
		for _, id := range []int{-1, 0, 1, 2, 15, 16, len(p.Leases)} {
			impl.GiveBack(p, id)
			impl.WindowOf(p, id)
			a, i, one := impl.CutLease(p, id, 1)
			b, k, two := impl.CutLease(tight, id, 1)
			if one != two || i != k || !samePool(a, b) {
				t.Fatalf("CutLease(%v, %d, 1) depends on a capacity: %v, %v", made, id, a, b)
			}
			a, one = impl.AppendTo(p, id, list)
			b, two = impl.AppendTo(tight, id, list)
			if one != two || !samePool(a, b) {
				t.Fatalf("AppendTo(%v, %d) depends on a capacity: %v, %v", made, id, a, b)
			}
			impl.AppendWindow(p, id, 0)
			impl.AppendWindow(p, 0, id)
		}
		if !same() || !slices.Equal(list, []complex64{1, 2i}) {
			t.Fatalf("%v, or what is behind it, was changed", made)
		}
	}
}
