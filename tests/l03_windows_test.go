package tests

import (
	"slices"
	"testing"

	"loop.example/g03223/impl"
)

// window is what WindowOf should return, for a lease that is lent.
func window(p impl.Pool, id int) []complex64 {
	list := []complex64{}
	for i := range p.Leases[id].Count {
		list = append(list, p.Store[p.Leases[id].Start+i])
	}
	return list
}

// appended is what AppendTo should return, for a lease that is lent.
func appended(p impl.Pool, id int, list []complex64) (impl.Pool, bool) {
	r := copyOfPool(p)
	l := &r.Leases[id]
	for _, z := range list {
		if l.Count == l.Room {
			return impl.Pool{}, false
		}
		r.Store[l.Start+l.Count] = z
		l.Count++
	}
	return r, true
}

func TestP10WindowOf(t *testing.T) {
	for _, p := range goodPools() {
		for id, l := range p.Leases {
			if l.Free {
				continue
			}
			if list, ok := impl.WindowOf(p, id); !ok || !slices.EqualFunc(list, window(p, id), samePoint) {
				t.Errorf("WindowOf(%v, %d) = %v, %v", p, id, list, ok)
			}
		}
	}
	p := poolOf(6, lease(4, 0, 2), lease(1, 2, 3))
	if list, ok := impl.WindowOf(p, 0); !ok || len(list) != 0 {
		t.Errorf("the window of no samples is %v, %v", list, ok)
	}
	if list, ok := impl.WindowOf(p, 1); !ok || !slices.Equal(list, []complex64{2 - 0.25i, 3 - 0.5i}) {
		t.Errorf("the window of two samples is %v, %v", list, ok)
	}
}

func TestP10AppendTo(t *testing.T) {
	for _, p := range goodPools() {
		for id, l := range p.Leases {
			if l.Free {
				continue
			}
			rest := l.Room - l.Count
			for _, n := range []int{0, 1, 2, rest - 1, rest, rest + 1, rest + 2, l.Room + 1, 300} {
				list := someSamples(max(n, 0))
				want, wantOk := appended(p, id, list)
				q, ok := impl.AppendTo(p, id, list)
				if ok != wantOk || ok != (len(list) <= rest) || !samePool(q, want) {
					t.Fatalf("AppendTo(%v, %d) of %d samples = %v, %v; not %v", p, id, n, q, ok, want)
				}
			}
		}
	}
}

func TestP10AppendNothing(t *testing.T) {
	p := poolOf(6, lease(4, 2, 2), freeLease(), lease(1, 0, 3))
	for _, id := range []int{0, 2} {
		for _, list := range [][]complex64{nil, {}} {
			if q, ok := impl.AppendTo(p, id, list); !ok || !samePool(q, p) {
				t.Errorf("AppendTo of no samples to %d = %v, %v", id, q, ok)
			}
		}
		if q, ok := impl.AppendWindow(p, id, 2); !ok || !samePool(q, p) {
			t.Errorf("AppendWindow of no samples to %d = %v, %v", id, q, ok)
		}
	}
}

func TestP10SamplesOfAnySort(t *testing.T) {
	for _, x := range append(notFinite(), 0, minusZero(), 0x1p-149, greatest) {
		for _, y := range append(notFinite(), 0, minusZero(), -0x1p-149, -greatest) {
			z := complex(x, y)
			p, _ := impl.NewPool(4)
			p, id, _ := impl.LendRoom(p, 3)
			p, one := impl.AppendTo(p, id, []complex64{5, z})
			list, seen := impl.WindowOf(p, id)
			if !one || !seen || !slices.EqualFunc(list, []complex64{5, z}, samePoint) {
				t.Errorf("%g is kept as %v", z, list)
			}
			p, other, cut := impl.CutLease(p, id, 1)
			p, gone := impl.GiveBack(p, id)
			p, two := impl.AppendWindow(impl.CompactPool(p), other, other)
			list, seen = impl.WindowOf(p, other)
			if !cut || !gone || !two || !seen || !slices.EqualFunc(list, []complex64{z, z}, samePoint) {
				t.Errorf("%g becomes %v in %v", z, list, p)
			}
		}
	}
}

func TestP10AppendWindow(t *testing.T) {
	done, refused, own := 0, 0, 0
	for _, p := range goodPools() {
		for to, l := range p.Leases {
			for from, other := range p.Leases {
				if l.Free || other.Free {
					continue
				}
				want, wantOk := appended(p, to, window(p, from))
				q, ok := impl.AppendWindow(p, to, from)
				if ok != wantOk || !samePool(q, want) {
					t.Fatalf("AppendWindow(%v, %d, %d) = %v, %v; not %v", p, to, from, q, ok, want)
				}
				switch {
				case !ok:
					refused++
				case to == from:
					own++
				default:
					done++
				}
			}
		}
	}
	if done == 0 || own == 0 || refused == 0 {
		t.Errorf("%d were appended, %d to their own leases, and %d refused", done, own, refused)
	}
}

func TestP10WindowsThatAreAppendedToTheirOwnLease(t *testing.T) {
	for room := 1; room <= 12; room++ {
		for count := 0; count <= room; count++ {
			p := poolOf(14, lease(room+1, 0, 1), lease(1, count, room))
			q, ok := impl.AppendWindow(p, 1, 1)
			if ok != (2*count <= room) {
				t.Fatalf("AppendWindow of %d in %d = %v", count, room, ok)
			}
			if !ok {
				continue
			}
			list, _ := impl.WindowOf(q, 1)
			twice := slices.Repeat(p.Store[1:1+count], 2)
			if !slices.EqualFunc(list, twice, samePoint) || !slices.EqualFunc(q.Store[1+2*count:], p.Store[1+2*count:], samePoint) {
				t.Errorf("a window of %d in %d is %v when it is appended to its own lease: %v", count, room, list, q)
			}
		}
	}
}

func TestP10AppendPartsOfTheStoreItself(t *testing.T) {
	p := poolOf(20, lease(4, 3, 8), lease(13, 2, 6))
	for from := range p.Store {
		for to := from; to <= len(p.Store); to++ {
			part := p.Store[from:to]
			want, wantOk := appended(p, 0, slices.Clone(part))
			if q, ok := impl.AppendTo(p, 0, part); ok != wantOk || !samePool(q, want) {
				t.Fatalf("AppendTo of the samples from %d to %d = %v, %v; not %v", from, to, q, ok, want)
			}
		}
	}
}

func TestP4AppendsReachNoOtherRoom(t *testing.T) {
	// Three holders stand one behind the other, with no gap, and the one in the middle fills its room.
	p, _ := impl.NewPool(9)
	for range 3 {
		p, _, _ = impl.LendRoom(p, 3)
	}
	p, _ = impl.AppendTo(p, 2, []complex64{21, 22, 23})
	p, _ = impl.AppendTo(p, 0, []complex64{1})
	for i := range 5 {
		q, ok := impl.AppendTo(p, 1, []complex64{complex(float32(i), 11)})
		if ok != (i < 3) || !ok && !noPool(q) {
			t.Fatalf("the sample %d is appended: %v, %v", i, q, ok)
		}
		if ok {
			p = q
		}
		first, _ := impl.WindowOf(p, 0)
		last, _ := impl.WindowOf(p, 2)
		if !slices.Equal(first, []complex64{1}) || !slices.Equal(last, []complex64{21, 22, 23}) {
			t.Fatalf("the others see %v and %v", first, last)
		}
		if !slices.Equal(p.Store[:3], []complex64{1, 0, 0}) {
			t.Fatalf("the room before became %v", p.Store[:3])
		}
	}
}

func TestP4WindowsDoNotReachTheirPool(t *testing.T) {
	p := poolOf(9, lease(3, 1, 3), lease(6, 2, 3), lease(0, 3, 3))
	whole := copyOfPool(p)
	for id := range p.Leases {
		list, ok := impl.WindowOf(p, id)
		if !ok {
			t.Fatalf("the lease %d has no window", id)
		}
		list = append(list, 91, 92, 93, 94)
		for i := range list {
			list[i] = 77
		}
		if !samePool(p, whole) {
			t.Fatalf("who appends to the window %d reaches the pool: %v", id, p)
		}
	}
}
