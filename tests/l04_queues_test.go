package tests

import (
	"math/rand/v2"
	"slices"
	"testing"

	"loop.example/g03223/impl"
)

// pushedRing is what PushRing should return, for a ring that is valid.
func pushedRing(r impl.Ring, z complex64) (impl.Ring, complex64) {
	items, at, old := itemsOf(r), r.At, complex64(0)
	if len(items) == len(r.Store) {
		old, items, at = items[0], items[1:], nextIndex(at, len(r.Store))
	}
	return ringOf(len(r.Store), at, append(items, z)...), old
}

// takenRing is what TakeRing should return, for a ring that is valid and holds something.
func takenRing(r impl.Ring) (impl.Ring, complex64) {
	items := itemsOf(r)
	return ringOf(len(r.Store), nextIndex(r.At, len(r.Store)), items[1:]...), items[0]
}

// samplesOfAllSorts are those that a store may have where it holds none, and all others.
func samplesOfAllSorts() []complex64 {
	return slices.Concat(notZeros(), []complex64{0, 3 - 4i, 0x1p-126, complex(minusZero(), notANumber()), complex(infinity(-1), minusZero())})
}

func TestP10PushRing(t *testing.T) {
	full, other := 0, 0
	for _, r := range goodRings() {
		for _, z := range samplesOfAllSorts() {
			want, wantOld := pushedRing(r, z)
			q, old, ok := impl.PushRing(r, z)
			if !ok || !samePoint(old, wantOld) || !sameRing(q, want) {
				t.Fatalf("PushRing(%v, %g) = %v, %g, %v; not %v, %g", r, z, q, old, ok, want, wantOld)
			}
			if !impl.IsRing(q) {
				t.Fatalf("PushRing(%v, %g) = %v, which is not valid", r, z, q)
			}
		}
		if r.Count == len(r.Store) {
			full++
		} else {
			other++
		}
	}
	if full == 0 || other == 0 {
		t.Errorf("%d rings are full, and %d are not", full, other)
	}
}

func TestP10TakeRing(t *testing.T) {
	empty, last := 0, 0
	for _, r := range goodRings() {
		q, old, ok := impl.TakeRing(r)
		if r.Count == 0 {
			empty++
			if ok || !samePoint(old, 0) || !noRing(q) {
				t.Fatalf("TakeRing(%v) = %v, %g, %v", r, q, old, ok)
			}
			continue
		}
		want, wantOld := takenRing(r)
		if !ok || !samePoint(old, wantOld) || !sameRing(q, want) || !impl.IsRing(q) {
			t.Fatalf("TakeRing(%v) = %v, %g, %v; not %v, %g", r, q, old, ok, want, wantOld)
		}
		if r.Count == 1 {
			last++
		}
	}
	if empty == 0 || last == 0 {
		t.Errorf("%d rings are empty, and %d hold one sample", empty, last)
	}
}

func TestP10ItemsOf(t *testing.T) {
	for _, r := range goodRings() {
		if items := impl.ItemsOf(r); !slices.EqualFunc(items, itemsOf(r), samePoint) {
			t.Fatalf("ItemsOf(%v) = %v", r, items)
		}
	}
	for _, c := range []struct {
		r    impl.Ring
		want []complex64
	}{
		{impl.Ring{Store: []complex64{0}}, nil}, {impl.Ring{Store: []complex64{5}, Count: 1}, []complex64{5}},
		{impl.Ring{Store: []complex64{2, 3, 0, 1}, At: 3, Count: 3}, []complex64{1, 2, 3}}, {impl.Ring{Store: []complex64{2, 3, 4, 1}, At: 3, Count: 4}, []complex64{1, 2, 3, 4}},
		{impl.Ring{Store: []complex64{0, 1, 2, 0}, At: 1, Count: 2}, []complex64{1, 2}}, {impl.Ring{Store: []complex64{2, 0, 0, 0}, At: 3, Count: 2}, []complex64{0, 2}}, {impl.Ring{Store: make([]complex64, 4), At: 2, Count: 3}, []complex64{0, 0, 0}},
	} {
		if items := impl.ItemsOf(c.r); !slices.Equal(items, c.want) {
			t.Errorf("ItemsOf(%v) = %v", c.r, items)
		}
	}
}

func TestP10NamedPushesAndTakes(t *testing.T) {
	zero := complex(minusZero(), minusZero())
	for _, c := range []struct {
		r, want impl.Ring
		z, old  complex64
	}{
		{ringOf(1, 0), ringOf(1, 0, 7), 7, 0}, {ringOf(1, 0, 5), ringOf(1, 0, 7), 7, 5}, {ringOf(1, 0, zero), ringOf(1, 0, 7), 7, zero}, {ringOf(1, 0, 5), ringOf(1, 0, zero), zero, 5},
		{ringOf(3, 2), impl.Ring{Store: []complex64{0, 0, 7}, At: 2, Count: 1}, 7, 0}, {ringOf(3, 2, 1), impl.Ring{Store: []complex64{7, 0, 1}, At: 2, Count: 2}, 7, 0},
		{ringOf(3, 2, 1, 2), impl.Ring{Store: []complex64{2, 7, 1}, At: 2, Count: 3}, 7, 0}, {ringOf(3, 2, 1, 2, 3), impl.Ring{Store: []complex64{2, 3, 7}, At: 0, Count: 3}, 7, 1},
		{ringOf(3, 0, 1, 2, 3), impl.Ring{Store: []complex64{7, 2, 3}, At: 1, Count: 3}, 7, 1}, {ringOf(16, 15, someSamples(16)...), ringOf(16, 0, append(someSamples(16)[1:], 7)...), 7, sampleAt(1000)},
	} {
		if q, old, ok := impl.PushRing(c.r, c.z); !ok || !samePoint(old, c.old) || !sameRing(q, c.want) {
			t.Errorf("PushRing(%v, %g) = %v, %g, %v", c.r, c.z, q, old, ok)
		}
	}
	for _, c := range []struct {
		r, want impl.Ring
		old     complex64
	}{
		{ringOf(1, 0, 5), ringOf(1, 0), 5}, {ringOf(1, 0, 0), ringOf(1, 0), 0}, {ringOf(1, 0, zero), ringOf(1, 0), zero},
		{ringOf(3, 2, 1), impl.Ring{Store: []complex64{0, 0, 0}}, 1}, {ringOf(3, 0, 1), impl.Ring{Store: []complex64{0, 0, 0}, At: 1}, 1},
		{ringOf(3, 2, 1, 2, 3), impl.Ring{Store: []complex64{2, 3, 0}, Count: 2}, 1}, {ringOf(3, 1, 1, 2, 3), impl.Ring{Store: []complex64{3, 0, 2}, At: 2, Count: 2}, 1},
	} {
		if q, old, ok := impl.TakeRing(c.r); !ok || !samePoint(old, c.old) || !sameRing(q, c.want) {
			t.Errorf("TakeRing(%v) = %v, %g, %v", c.r, q, old, ok)
		}
	}
}

// checkQueue asks a ring for all that it holds.
func checkQueue(t *testing.T, r impl.Ring, n int, at int, list []complex64) {
	t.Helper()
	if !impl.IsRing(r) || !sameRing(r, ringOf(n, at, list...)) || !slices.EqualFunc(impl.ItemsOf(r), list, samePoint) {
		t.Fatalf("%v does not hold %v from %d on", r, list, at)
	}
}

func TestP4RingsKeepSamplesInOrder(t *testing.T) {
	choice := rand.New(rand.NewPCG(13, 14))
	sorts := samplesOfAllSorts()
	for n := 1; n <= 16; n++ {
		r, _ := impl.NewRing(n)
		list, at := []complex64{}, 0
		for i := range 3000 {
			// For a while a ring fills, and for a while it gets empty.
			if choice.IntN(10) < 3+i/200%2*4 {
				q, old, ok := impl.TakeRing(r)
				if ok != (len(list) > 0) || ok && !samePoint(old, list[0]) || !ok && !noRing(q) {
					t.Fatalf("TakeRing(%v) = %v, %g, %v where there is %v", r, q, old, ok, list)
				}
				if ok {
					r, list, at = q, list[1:], (at+1)%n
				}
			} else {
				z, want := complex(float32(i), float32(-n)), complex64(0)
				if i%5 == 0 {
					z = sorts[choice.IntN(len(sorts))]
				}
				if len(list) == n {
					want, list, at = list[0], list[1:], (at+1)%n
				}
				list = append(list, z)
				q, old, ok := impl.PushRing(r, z)
				if !ok || !samePoint(old, want) {
					t.Fatalf("PushRing(%v, %g) = %v, %g, %v, not %g", r, z, q, old, ok, want)
				}
				r = q
			}
			checkQueue(t, r, n, at, list)
		}
	}
}

func TestP4FullRingsDelay(t *testing.T) {
	list := someSamples(100)
	for n := 1; n <= 16; n++ {
		r, _ := impl.NewRing(n)
		for i, z := range list {
			q, old, ok := impl.PushRing(r, z)
			want := complex64(0)
			if i >= n {
				want = list[i-n]
			}
			if !ok || !samePoint(old, want) {
				t.Fatalf("the sample %d that comes out of %d is %g, not %g", i, n, old, want)
			}
			r = q
		}
		for i := range n {
			q, old, ok := impl.TakeRing(r)
			if !ok || !samePoint(old, list[100-n+i]) {
				t.Fatalf("the sample %d of the last %d is %g, %v", i, n, old, ok)
			}
			r = q
		}
		if !sameRing(r, ringOf(n, 100%n)) {
			t.Fatalf("the ring that is empty is %v", r)
		}
	}
}
