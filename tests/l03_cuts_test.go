package tests

import (
	"math"
	"slices"
	"testing"

	"loop.example/g03223/impl"
)

// cut is what CutLease should return, for a lease that is lent.
func cut(p impl.Pool, id int, at int) (impl.Pool, int, bool) {
	l := p.Leases[id]
	if at < 1 || at > l.Count || at >= l.Room {
		return impl.Pool{}, 0, false
	}
	r := copyOfPool(p)
	r.Leases[id] = lease(l.Start, at, at)
	return putLease(r, lease(l.Start+at, l.Count-at, l.Room-at))
}

func TestP10CutLease(t *testing.T) {
	done, refused, again := 0, 0, 0
	for _, p := range goodPools() {
		for id, l := range p.Leases {
			if l.Free {
				continue
			}
			places := []int{-1, -2, math.MinInt, math.MaxInt, 1 << 32, 1<<32 + 1, 257}
			for at := 0; at <= l.Room+1; at++ {
				places = append(places, at)
			}
			for _, at := range places {
				want, wantId, wantOk := cut(p, id, at)
				q, other, ok := impl.CutLease(p, id, at)
				if ok != wantOk || other != wantId || !samePool(q, want) {
					t.Fatalf("CutLease(%v, %d, %d) = %v, %d, %v; not %v, %d, %v", p, id, at, q, other, ok, want, wantId, wantOk)
				}
				switch {
				case !ok:
					refused++
				case other < len(p.Leases):
					again++
				default:
					done++
				}
			}
		}
	}
	if done == 0 || again == 0 || refused == 0 {
		t.Errorf("%d were cut, %d with a lease that was free, and %d refused", done, again, refused)
	}
}

func TestP10CutsAtTheEnds(t *testing.T) {
	for _, c := range []struct {
		l, first, rest impl.Lease
		at             int
	}{
		{lease(2, 1, 2), lease(2, 1, 1), lease(3, 0, 1), 1}, {lease(2, 2, 2), lease(2, 1, 1), lease(3, 1, 1), 1},
		{lease(2, 3, 7), lease(2, 1, 1), lease(3, 2, 6), 1}, {lease(2, 7, 7), lease(2, 1, 1), lease(3, 6, 6), 1},
		{lease(2, 3, 7), lease(2, 3, 3), lease(5, 0, 4), 3}, {lease(2, 6, 7), lease(2, 6, 6), lease(8, 0, 1), 6}, {lease(2, 7, 7), lease(2, 6, 6), lease(8, 1, 1), 6},
		{lease(0, 10, 10), lease(0, 9, 9), lease(9, 1, 1), 9},
	} {
		p := poolOf(10, c.l)
		want := poolOf(10, c.first, c.rest)
		if q, other, ok := impl.CutLease(p, 0, c.at); !ok || other != 1 || !samePool(q, want) {
			t.Errorf("CutLease(%v, 0, %d) = %v, %d, %v", p, c.at, q, other, ok)
		}
	}
	for _, c := range []struct {
		l  impl.Lease
		at int
	}{
		{lease(2, 1, 1), 1}, {lease(2, 0, 1), 1}, {lease(2, 0, 5), 1}, {lease(2, 0, 5), 0}, {lease(2, 3, 7), 0}, {lease(2, 3, 7), -1}, {lease(2, 3, 7), 4}, {lease(2, 3, 7), 7},
		{lease(2, 6, 7), 7}, {lease(2, 7, 7), 7}, {lease(2, 7, 7), 8}, {lease(2, 0, 1), 0},
	} {
		p := poolOf(10, c.l)
		if q, other, ok := impl.CutLease(p, 0, c.at); ok || other != 0 || !noPool(q) {
			t.Errorf("CutLease(%v, 0, %d) = %v, %d, %v", p, c.at, q, other, ok)
		}
	}
}

func TestP10CutsNeedALease(t *testing.T) {
	full := poolOf(64, rowOf(16, 4)...)
	for id, l := range full.Leases {
		if q, other, ok := impl.CutLease(full, id, 1); ok || other != 0 || !noPool(q) {
			t.Errorf("a lease is cut where there are 16: %v, %d, %v", q, other, ok)
		}
		room := copyOfPool(full)
		room.Leases[(id+5)%16] = freeLease()
		q, other, ok := impl.CutLease(room, id, 1)
		if can := l.Count > 0; ok != can || ok && other != (id+5)%16 {
			t.Errorf("a lease is cut where there are 15: %v, %d, %v", q, other, ok)
		}
	}
	almost := poolOf(60, rowOf(15, 4)...)
	if q, other, ok := impl.CutLease(almost, 3, 2); !ok || other != 15 || len(q.Leases) != 16 {
		t.Errorf("the lease 15 is not made: %v, %d, %v", q, other, ok)
	}
}

// compacted is what CompactPool should return, for a pool that is valid: it goes through the store, sample by sample.
func compacted(p impl.Pool) impl.Pool {
	r := impl.Pool{Leases: slices.Clone(p.Leases)}
	for i, id := range owners(p) {
		if id < 0 {
			continue
		}
		if p.Leases[id].Start == i {
			r.Leases[id].Start = len(r.Store)
		}
		r.Store = append(r.Store, p.Store[i])
	}
	for len(r.Store) < len(p.Store) {
		r.Store = append(r.Store, 0)
	}
	return r
}

func TestP10CompactPool(t *testing.T) {
	moved := 0
	for _, p := range goodPools() {
		want := compacted(p)
		q := impl.CompactPool(p)
		if !samePool(q, want) || !impl.IsPool(q) {
			t.Fatalf("CompactPool(%v) = %v, not %v", p, q, want)
		}
		if !slices.Equal(q.Leases, p.Leases) {
			moved++
		}
		if again := impl.CompactPool(q); !samePool(again, q) {
			t.Fatalf("CompactPool(%v) = %v", q, again)
		}
		all, most := impl.FreeRoom(q)
		if was, _ := impl.FreeRoom(p); all != was || most != was {
			t.Errorf("FreeRoom(%v) = %d, %d; not %d", q, all, most, was)
		}
	}
	if moved == 0 {
		t.Error("no room was moved")
	}
}

func TestP10NamedPoolsAreCompacted(t *testing.T) {
	store := []complex64{1, 2, 3, 4, 5, 6, 7, 8, 9}
	for _, c := range []struct {
		leases []impl.Lease
		want   impl.Pool
	}{
		{nil, impl.Pool{Store: make([]complex64, 9)}},
		{freeLeases(2), impl.Pool{Store: make([]complex64, 9), Leases: freeLeases(2)}},
		{[]impl.Lease{lease(0, 9, 9)}, impl.Pool{Store: store, Leases: []impl.Lease{lease(0, 9, 9)}}},
		// What a holder does not see is moved, too, as it is in the room.
		{[]impl.Lease{lease(6, 0, 2)}, impl.Pool{Store: []complex64{7, 8, 0, 0, 0, 0, 0, 0, 0}, Leases: []impl.Lease{lease(0, 0, 2)}}},
		{[]impl.Lease{lease(6, 1, 2), freeLease(), lease(1, 1, 1), lease(4, 1, 2)}, impl.Pool{Store: []complex64{2, 5, 6, 7, 8, 0, 0, 0, 0}, Leases: []impl.Lease{lease(3, 1, 2), freeLease(), lease(0, 1, 1), lease(1, 1, 2)}}},
		{[]impl.Lease{lease(8, 0, 1), lease(1, 6, 7)}, impl.Pool{Store: []complex64{2, 3, 4, 5, 6, 7, 8, 9, 0}, Leases: []impl.Lease{lease(7, 0, 1), lease(0, 6, 7)}}},
		{[]impl.Lease{lease(0, 1, 4), lease(4, 1, 5)}, impl.Pool{Store: store, Leases: []impl.Lease{lease(0, 1, 4), lease(4, 1, 5)}}},
	} {
		p := impl.Pool{Store: store, Leases: c.leases}
		if q := impl.CompactPool(p); !samePool(q, c.want) {
			t.Errorf("CompactPool(%v) = %v, not %v", p, q, c.want)
		}
	}
}

func TestP4HoldersKeepTheirSamplesWhenAPoolIsCompacted(t *testing.T) {
	for _, p := range goodPools() {
		q := impl.CompactPool(p)
		for id, l := range p.Leases {
			before, lent := impl.WindowOf(p, id)
			after, still := impl.WindowOf(q, id)
			if lent != still || !slices.EqualFunc(before, after, samePoint) || q.Leases[id].Room != l.Room {
				t.Errorf("the lease %d of %v is another one in %v", id, p, q)
			}
		}
	}
}
