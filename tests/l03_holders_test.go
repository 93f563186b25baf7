package tests

import (
	"math/rand/v2"
	"slices"
	"testing"

	"loop.example/g03223/impl"
)

// holder knows what it appended, and how much room it has, whatever the pool does.
type holder struct {
	room int
	list []complex64
}

// walk is a pool with those to whom it lends, and how often each thing was done and refused.
type walk struct {
	t       *testing.T
	choice  *rand.Rand
	pool    impl.Pool
	holders map[int]holder
	done    map[string]int
	refused map[string]int
	next    int
}

// samples are n samples that nobody had before.
func (w *walk) samples(n int) []complex64 {
	list := []complex64{}
	for range n {
		w.next++
		list = append(list, complex(float32(w.next), float32(-w.next)))
	}
	return list
}

// take makes p the pool if ok is true, and checks that what is refused is the zero value.
func (w *walk) take(name string, p impl.Pool, ok bool, want bool) bool {
	w.t.Helper()
	if ok != want {
		w.t.Fatalf("%s of %v is %v", name, w.pool, ok)
	}
	if !ok {
		w.refused[name]++
		if !noPool(p) {
			w.t.Fatalf("%s of %v is refused, with %v", name, w.pool, p)
		}
		return false
	}
	w.done[name]++
	w.pool = p
	return true
}

// newLease checks that nobody holds id.
func (w *walk) newLease(id int, h holder) {
	w.t.Helper()
	if _, held := w.holders[id]; held || id < 0 || id >= 16 {
		w.t.Fatalf("%d is lent again in %v", id, w.pool)
	}
	w.holders[id] = h
}

func (w *walk) lend() {
	w.t.Helper()
	room := w.choice.IntN(30)
	_, most := impl.FreeRoom(w.pool)
	p, id, ok := impl.LendRoom(w.pool, room)
	if w.take("LendRoom", p, ok, room >= 1 && room <= most && len(w.holders) < 16) {
		w.newLease(id, holder{room: room})
	}
}

func (w *walk) giveBack(id int) {
	w.t.Helper()
	_, held := w.holders[id]
	p, ok := impl.GiveBack(w.pool, id)
	w.take("GiveBack", p, ok, held)
	delete(w.holders, id)
}

func (w *walk) append(id int) {
	w.t.Helper()
	h, held := w.holders[id]
	list := w.samples(w.choice.IntN(8))
	p, ok := impl.AppendTo(w.pool, id, list)
	if w.take("AppendTo", p, ok, held && len(h.list)+len(list) <= h.room) {
		h.list = slices.Concat(h.list, list)
		w.holders[id] = h
	}
}

func (w *walk) appendWindow(to int, from int) {
	w.t.Helper()
	h, held := w.holders[to]
	other, heldToo := w.holders[from]
	p, ok := impl.AppendWindow(w.pool, to, from)
	if w.take("AppendWindow", p, ok, held && heldToo && len(h.list)+len(other.list) <= h.room) {
		h.list = slices.Concat(h.list, other.list)
		w.holders[to] = h
	}
}

func (w *walk) cut(id int) {
	w.t.Helper()
	h, held := w.holders[id]
	at := w.choice.IntN(len(h.list) + 2)
	store := slices.Clone(w.pool.Store)
	p, other, ok := impl.CutLease(w.pool, id, at)
	if w.take("CutLease", p, ok, held && at >= 1 && at <= len(h.list) && at < h.room && len(w.holders) < 16) {
		w.newLease(other, holder{room: h.room - at, list: h.list[at:]})
		w.holders[id] = holder{room: at, list: h.list[:at]}
		if !slices.Equal(store, p.Store) {
			w.t.Fatalf("the store %v became %v when %d was cut", store, p.Store, id)
		}
	}
}

func (w *walk) compact() {
	w.t.Helper()
	w.take("CompactPool", impl.CompactPool(w.pool), true, true)
}

// check asks each holder for what it sees, and each sample for whose room it is in.
func (w *walk) check() {
	w.t.Helper()
	if !validPool(w.pool) || !impl.IsPool(w.pool) {
		w.t.Fatalf("%v is not valid", w.pool)
	}
	for id := range 16 {
		h, held := w.holders[id]
		list, ok := impl.WindowOf(w.pool, id)
		if ok != held || !slices.Equal(list, h.list) {
			w.t.Fatalf("the holder %d sees %v, %v in %v; not %v, %v", id, list, ok, w.pool, h.list, held)
		}
		if held && w.pool.Leases[id] != lease(w.pool.Leases[id].Start, len(h.list), h.room) {
			w.t.Fatalf("the holder %d has not the room %d in %v", id, h.room, w.pool)
		}
	}
	inRooms := map[int]int{}
	for id, l := range w.pool.Leases {
		for i := l.Start; i < l.Start+l.Room; i++ {
			if other, found := inRooms[i]; found {
				w.t.Fatalf("the sample %d is in the rooms %d and %d of %v", i, other, id, w.pool)
			}
			inRooms[i] = id
		}
	}
	if all, _ := impl.FreeRoom(w.pool); all != len(w.pool.Store)-len(inRooms) {
		w.t.Fatalf("FreeRoom(%v) = %d", w.pool, all)
	}
}

// step does one thing; lease 16 is never there, and others may not be.
func (w *walk) step() {
	id, other := w.choice.IntN(17), w.choice.IntN(17)
	switch w.choice.IntN(12) {
	case 0, 1, 2:
		w.lend()
	case 3:
		w.giveBack(id)
	case 4, 5, 6, 7:
		w.append(id)
	case 8, 9:
		w.appendWindow(id, other)
	case 10:
		w.cut(id)
	case 11:
		w.compact()
	}
}

func TestP4RoomsHaveNoSampleInCommon(t *testing.T) {
	choice := rand.New(rand.NewPCG(5, 6))
	done, refused := map[string]int{}, map[string]int{}
	for _, n := range []int{0, 1, 7, 40, 100, 255, 256} {
		p, _ := impl.NewPool(n)
		w := &walk{t: t, choice: choice, pool: p, holders: map[int]holder{}, done: done, refused: refused}
		for range 3000 {
			w.step()
			w.check()
		}
	}
	for _, name := range []string{"LendRoom", "GiveBack", "AppendTo", "AppendWindow", "CutLease"} {
		if done[name] < 50 || refused[name] < 50 {
			t.Errorf("%s was done %d times and refused %d times", name, done[name], refused[name])
		}
	}
}

func TestP4WhatIsAppendedIsSeenByNoOther(t *testing.T) {
	for _, p := range goodPools() {
		for id, l := range p.Leases {
			q, ok := impl.AppendTo(p, id, someSamples(l.Room-l.Count))
			if ok != !l.Free {
				t.Fatalf("AppendTo(%v, %d) is %v", p, id, ok)
			}
			if !ok {
				continue
			}
			for i, owner := range owners(p) {
				if owner != id && !samePoint(q.Store[i], p.Store[i]) {
					t.Fatalf("the sample %d of the room %d is another one when %d is full: %v", i, owner, id, q)
				}
			}
			for other := range p.Leases {
				before, _ := impl.WindowOf(p, other)
				after, _ := impl.WindowOf(q, other)
				if other != id && !slices.EqualFunc(before, after, samePoint) {
					t.Fatalf("the holder %d sees %v when %d is full, not %v", other, after, id, before)
				}
			}
		}
	}
}
