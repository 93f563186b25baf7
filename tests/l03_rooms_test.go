package tests

import (
	"math"
	"slices"
	"testing"

	"loop.example/g03223/impl"
)

// owners has the lease for each sample of the store of a valid pool, or -1.
func owners(p impl.Pool) []int {
	list := slices.Repeat([]int{-1}, len(p.Store))
	for id, l := range p.Leases {
		for i := l.Start; i < l.Start+l.Room; i++ {
			list[i] = id
		}
	}
	return list
}

// freeAt counts the samples from a place on that are in no room.
func freeAt(owner []int, start int) int {
	n := 0
	for start+n < len(owner) && owner[start+n] < 0 {
		n++
	}
	return n
}

// putLease puts a lease into p, which is changed, where LendRoom and CutLease should put it.
func putLease(p impl.Pool, l impl.Lease) (impl.Pool, int, bool) {
	id := 0
	for id < len(p.Leases) && !p.Leases[id].Free {
		id++
	}
	if id == 16 {
		return impl.Pool{}, 0, false
	}
	if id == len(p.Leases) {
		p.Leases = append(p.Leases, freeLease())
	}
	p.Leases[id] = l
	return p, id, true
}

// lend is what LendRoom should return, for a pool that is valid.
func lend(p impl.Pool, room int) (impl.Pool, int, bool) {
	owner := owners(p)
	for start := range owner {
		if room >= 1 && freeAt(owner, start) >= room {
			r := copyOfPool(p)
			for i := range room {
				r.Store[start+i] = 0
			}
			return putLease(r, lease(start, 0, room))
		}
	}
	return impl.Pool{}, 0, false
}

func TestP10LendRoom(t *testing.T) {
	lent, refused, again := 0, 0, 0
	for _, p := range goodPools() {
		rooms := []int{0, -1, -2, 257, 1 << 32, 1<<32 + 1, -1<<32 + 1, math.MaxInt, math.MinInt, math.MaxInt - 1}
		for room := 1; room <= len(p.Store)+1; room++ {
			rooms = append(rooms, room)
		}
		for _, room := range rooms {
			want, wantId, wantOk := lend(p, room)
			q, id, ok := impl.LendRoom(p, room)
			if ok != wantOk || id != wantId || !samePool(q, want) {
				t.Fatalf("LendRoom(%v, %d) = %v, %d, %v; not %v, %d, %v", p, room, q, id, ok, want, wantId, wantOk)
			}
			switch {
			case !ok:
				refused++
			case id < len(p.Leases):
				again++
			default:
				lent++
			}
		}
	}
	if lent == 0 || again == 0 || refused == 0 {
		t.Errorf("%d were lent, %d lent again, and %d refused", lent, again, refused)
	}
}

func TestP10RoomsThatJustFit(t *testing.T) {
	for _, c := range []struct {
		p     impl.Pool
		room  int
		start int
		id    int
	}{
		{poolOf(256), 256, 0, 0}, {poolOf(1), 1, 0, 0}, {poolOf(4, lease(0, 1, 3)), 1, 3, 1}, {poolOf(4, lease(1, 1, 3)), 1, 0, 1},
		// Several places have room, and the first one that has enough is taken, even if another one is smaller.
		{poolOf(20, lease(2, 0, 1), lease(7, 0, 2), lease(12, 0, 5)), 2, 0, 3}, {poolOf(20, lease(2, 0, 1), lease(7, 0, 2), lease(12, 0, 5)), 3, 3, 3},
		{poolOf(20, lease(12, 0, 5), lease(7, 0, 2), lease(2, 0, 1)), 3, 3, 3}, {poolOf(20, lease(2, 0, 1), lease(7, 0, 2), lease(12, 0, 5)), 4, 3, 3},
		{poolOf(20, lease(6, 0, 1), lease(9, 0, 2)), 2, 0, 2}, {poolOf(20, lease(6, 0, 1), lease(9, 0, 2)), 7, 11, 2}, {poolOf(20, lease(6, 0, 1), lease(9, 0, 2)), 9, 11, 2},
		// The first lease that is free is lent again, wherever its room is.
		{poolOf(9, lease(6, 1, 2), freeLease(), lease(0, 2, 2), freeLease()), 4, 2, 1}, {poolOf(9, freeLease(), freeLease(), lease(1, 2, 2)), 1, 0, 0}, {poolOf(9, lease(1, 2, 2), freeLease()), 2, 3, 1},
		{poolOf(256, withLease(rowOf(16, 16), 15, freeLease())...), 16, 240, 15}, {poolOf(256, withLease(rowOf(16, 16), 0, freeLease())...), 16, 0, 0},
		{poolOf(256, rowOf(15, 17)...), 1, 255, 15}, {poolOf(32, rowOf(15, 2)...), 2, 30, 15},
	} {
		q, id, ok := impl.LendRoom(c.p, c.room)
		if !ok || id != c.id || q.Leases[id] != lease(c.start, 0, c.room) {
			t.Errorf("LendRoom(%v, %d) = %v, %d, %v; not at %d, with %d", c.p, c.room, q, id, ok, c.start, c.id)
		}
	}
}

func TestP10RoomsThatDoNotFit(t *testing.T) {
	for _, c := range []struct {
		p    impl.Pool
		room int
	}{
		{impl.Pool{}, 1}, {impl.Pool{}, 0}, {poolOf(0, freeLease()), 1}, {poolOf(256), 257}, {poolOf(5), 0}, {poolOf(5), -1}, {poolOf(5), 6},
		{poolOf(256, rowOf(16, 16)...), 1}, {poolOf(256, rowOf(15, 17)...), 2}, {poolOf(20, lease(6, 0, 1), lease(9, 0, 2)), 10},
		// There is a place, but no lease.
		{poolOf(256, rowOf(16, 1)...), 1}, {poolOf(256, rowOf(16, 10)...), 96}, {poolOf(17, rowOf(16, 1)...), 1},
		// There is room, but not in one place.
		{poolOf(4, lease(1, 0, 1), lease(3, 0, 1)), 2}, {poolOf(5, lease(2, 0, 1)), 3}, {poolOf(5, lease(2, 0, 1)), 4},
	} {
		if q, id, ok := impl.LendRoom(c.p, c.room); ok || id != 0 || !noPool(q) {
			t.Errorf("LendRoom(%v, %d) = %v, %d, %v", c.p, c.room, q, id, ok)
		}
	}
}

func TestP10GiveBack(t *testing.T) {
	for _, p := range goodPools() {
		for id, l := range p.Leases {
			if l.Free {
				continue
			}
			want := copyOfPool(p)
			want.Leases[id] = freeLease()
			q, ok := impl.GiveBack(p, id)
			if !ok || !samePool(q, want) {
				t.Fatalf("GiveBack(%v, %d) = %v, %v", p, id, q, ok)
			}
			if again, ok := impl.GiveBack(q, id); ok || !noPool(again) {
				t.Fatalf("GiveBack(%v, %d) = %v, %v", q, id, again, ok)
			}
		}
	}
}

func TestP10RoomsAreLentAgain(t *testing.T) {
	p := poolOf(256, rowOf(16, 16)...)
	for _, id := range []int{9, 3, 15, 0} {
		q, ok := impl.GiveBack(p, id)
		if all, most := impl.FreeRoom(q); !ok || all != 16 || most != 16 {
			t.Fatalf("GiveBack(%v, %d) = %v, %v", p, id, q, ok)
		}
		r, again, ok := impl.LendRoom(q, 16)
		window, seen := impl.WindowOf(r, again)
		if !ok || again != id || !seen || len(window) != 0 || r.Leases[id] != lease(16*id, 0, 16) {
			t.Fatalf("LendRoom(%v, 16) = %v, %d, %v", q, r, again, ok)
		}
		for i, z := range r.Store {
			want := p.Store[i]
			if i/16 == id {
				want = 0
			}
			if !samePoint(z, want) {
				t.Fatalf("the sample %d is %g when the room %d is lent again, not %g", i, z, id, want)
			}
		}
	}
}

func TestP10FreeRoom(t *testing.T) {
	for _, p := range goodPools() {
		owner, all, most := owners(p), 0, 0
		for i := range owner {
			all += min(1, freeAt(owner, i))
			most = max(most, freeAt(owner, i))
		}
		if gotAll, gotMost := impl.FreeRoom(p); gotAll != all || gotMost != most {
			t.Errorf("FreeRoom(%v) = %d, %d; not %d, %d", p, gotAll, gotMost, all, most)
		}
		if _, _, ok := impl.LendRoom(p, most+1); ok {
			t.Errorf("%v lends %d samples", p, most+1)
		}
	}
	for _, c := range []struct {
		p         impl.Pool
		all, most int
	}{
		{impl.Pool{}, 0, 0}, {poolOf(0, freeLeases(16)...), 0, 0}, {poolOf(256), 256, 256}, {poolOf(256, freeLeases(16)...), 256, 256}, {poolOf(256, lease(0, 0, 256)), 0, 0},
		{poolOf(8, lease(0, 2, 3), lease(3, 0, 4)), 1, 1}, {poolOf(20, lease(9, 3, 5), lease(16, 1, 2)), 13, 9}, {poolOf(20, lease(14, 3, 5), lease(2, 1, 2)), 13, 10},
		{poolOf(20, lease(3, 3, 5), lease(1, 1, 1)), 14, 12}, {poolOf(20, lease(5, 2, 5), lease(15, 2, 5)), 10, 5}, {poolOf(256, rowOf(15, 17)...), 1, 1},
	} {
		if all, most := impl.FreeRoom(c.p); all != c.all || most != c.most {
			t.Errorf("FreeRoom(%v) = %d, %d; not %d, %d", c.p, all, most, c.all, c.most)
		}
	}
}
