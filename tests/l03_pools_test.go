package tests

import (
	"math"
	"math/rand/v2"
	"slices"
	"testing"

	"loop.example/g03223/impl"
)

func samePool(a impl.Pool, b impl.Pool) bool {
	return slices.EqualFunc(a.Store, b.Store, samePoint) && slices.Equal(a.Leases, b.Leases)
}

// noPool reports whether p is the zero value.
func noPool(p impl.Pool) bool { return len(p.Store) == 0 && len(p.Leases) == 0 }

// sampleAt gives each place of a store a sample of its own, but for those that are not finite or are 0 with signs.
func sampleAt(i int) complex64 {
	odd := []complex64{
		complex(notANumber(), 1), complex(minusZero(), 0), complex(infinity(1), minusZero()),
		complex(2, infinity(-1)), complex(0, minusZero()), complex(0x1p-149, notANumber()),
	}
	if i%7 == 3 {
		return odd[i/7%len(odd)]
	}
	return complex(float32(i+1), float32(-i)/4)
}

// someSamples are n samples, of which no store of these tests has many.
func someSamples(n int) []complex64 {
	list := []complex64{}
	for i := range n {
		list = append(list, sampleAt(i+1000))
	}
	return list
}

// poolOf has a store of n samples, also outside of all rooms, and in rooms where no holder sees them.
func poolOf(n int, leases ...impl.Lease) impl.Pool {
	p := impl.Pool{Leases: leases}
	for i := range n {
		p.Store = append(p.Store, sampleAt(i))
	}
	return p
}

func lease(start int, count int, room int) impl.Lease {
	return impl.Lease{Start: start, Count: count, Room: room}
}

func freeLease() impl.Lease { return impl.Lease{Free: true} }

// rowOf are n leases of one size, one behind the other.
func rowOf(n int, size int) []impl.Lease {
	list := []impl.Lease{}
	for i := range n {
		list = append(list, lease(i*size, i%(size+1), size))
	}
	return list
}

// freeLeases are n leases that are not lent.
func freeLeases(n int) []impl.Lease {
	return slices.Repeat([]impl.Lease{freeLease()}, n)
}

func withLease(list []impl.Lease, i int, l impl.Lease) []impl.Lease {
	list = slices.Clone(list)
	list[i] = l
	return list
}

func copyOfPool(p impl.Pool) impl.Pool {
	return impl.Pool{Store: slices.Clone(p.Store), Leases: slices.Clone(p.Leases)}
}

// randomPool has rooms and gaps of any size, lent in any order, and free leases among them.
func randomPool(choice *rand.Rand) impl.Pool {
	n := []int{0, 1, 2, 5, 20, 60, 255, 256}[choice.IntN(8)]
	leases := []impl.Lease{}
	for at := choice.IntN(3); at < n && len(leases) < 16; {
		room := 1 + choice.IntN(min(n-at, 24))
		if choice.IntN(3) > 0 {
			leases = append(leases, lease(at, []int{0, room, choice.IntN(room + 1)}[choice.IntN(3)], room))
		}
		at += room + []int{0, 0, choice.IntN(5)}[choice.IntN(3)]
	}
	for len(leases) < 16 && choice.IntN(3) > 0 {
		leases = append(leases, freeLease())
	}
	choice.Shuffle(len(leases), func(i int, k int) { leases[i], leases[k] = leases[k], leases[i] })
	return poolOf(n, leases...)
}

func goodPools() []impl.Pool {
	list := []impl.Pool{
		{}, {Store: []complex64{}, Leases: []impl.Lease{}},
		poolOf(0, freeLease()), poolOf(0, freeLeases(16)...), poolOf(1), poolOf(255), poolOf(256), poolOf(256, freeLeases(16)...),
		poolOf(1, lease(0, 0, 1)), poolOf(1, lease(0, 1, 1)), poolOf(1, freeLease(), lease(0, 1, 1)),
		poolOf(256, lease(0, 0, 256)), poolOf(256, lease(0, 256, 256)), poolOf(256, lease(255, 1, 1)), poolOf(256, lease(1, 100, 255)),
		poolOf(256, rowOf(16, 16)...), poolOf(256, rowOf(15, 17)...), poolOf(16, rowOf(16, 1)...), poolOf(32, rowOf(15, 2)...),
		poolOf(200, withLease(rowOf(16, 12), 7, freeLease())...), poolOf(200, withLease(rowOf(16, 12), 15, freeLease())...),
		poolOf(9, lease(6, 1, 2), freeLease(), lease(0, 2, 2), freeLease(), lease(3, 0, 1)),
		poolOf(12, lease(9, 2, 3), lease(5, 4, 4), lease(1, 3, 4)),
		poolOf(12, lease(2, 1, 3), lease(6, 1, 3), lease(10, 1, 2)), poolOf(12, freeLease(), lease(1, 0, 1), freeLease(), freeLease(), lease(3, 1, 2)),
		// The greatest gap is before, between and behind the rooms, and there are two of them.
		poolOf(20, lease(9, 3, 5), lease(16, 1, 2)), poolOf(20, lease(14, 3, 5), lease(2, 1, 2)), poolOf(20, lease(3, 3, 5), lease(1, 1, 1)), poolOf(20, lease(5, 2, 5), lease(15, 2, 5)),
	}
	choice := rand.New(rand.NewPCG(3, 4))
	for range 120 {
		list = append(list, randomPool(choice))
	}
	return list
}

// badLeases fit no store of 12 samples.
func badLeases() []impl.Lease {
	const most, least = math.MaxInt, math.MinInt
	return []impl.Lease{
		// Behind the store, or before it.
		lease(0, 0, 13), lease(12, 0, 1), lease(11, 1, 2), lease(6, 3, 7), lease(13, 0, 1), lease(100, 0, 1), lease(-1, 0, 1), lease(-1, 0, 13), lease(-5, 1, 6),
		// A sum, or a difference, that is beyond the greatest integer.
		lease(most, 0, 1), lease(most, 1, most), lease(1, 0, most), lease(0, 0, most), lease(most, 0, 12), lease(most-5, 0, 12), lease(2, most, most),
		lease(least, 0, 1), lease(least, 0, most), lease(least+1, 0, most), lease(least, 0, 12), lease(least+13, 0, 1),
		lease(0, 0, least), lease(12, 0, least), lease(most, 0, least), lease(most, least, least), lease(0, least, least), lease(least, least, least),
		lease(0, least, 1), lease(0, most, 1), lease(3, least, 2), lease(1<<32, 0, 1), lease(0, 1<<32, 1), lease(0, 0, 1<<32+1),
		// A Count above the Room, or below 0, and a Room below 1.
		lease(2, 3, 2), lease(2, 4, 3), lease(2, 1, 0), lease(2, 0, 0), lease(0, 0, 0), lease(12, 0, 0), lease(3, -1, 2), lease(3, -2, 1), lease(2, 0, -1), lease(2, -1, -1), lease(2, -2, -1), lease(5, -3, -3),
		// Free, and yet with something.
		{Start: 1, Free: true}, {Count: 1, Free: true}, {Room: 1, Free: true}, {Start: -1, Free: true}, {Count: -1, Free: true}, {Room: -1, Free: true},
		{Start: 3, Count: 1, Room: 2, Free: true}, {Start: 12, Free: true}, {Room: 12, Free: true}, {Start: most, Free: true}, {Room: least, Free: true}, {Count: most, Free: true},
	}
}

// badPools have something wrong in the store, the leases, or one of them, whatever else there is.
func badPools() []impl.Pool {
	list := []impl.Pool{
		poolOf(257), poolOf(300), poolOf(257, lease(0, 1, 2)), poolOf(257, lease(256, 0, 1)), poolOf(512, freeLease()),
		poolOf(4, freeLeases(17)...), poolOf(4, freeLeases(300)...), poolOf(17, rowOf(17, 1)...), poolOf(256, rowOf(17, 2)...), poolOf(16, append(rowOf(16, 1), freeLease())...),
		// Two rooms with a sample in common: one, several, all of one, or all of both.
		poolOf(12, lease(2, 1, 3), lease(4, 1, 3)), poolOf(12, lease(4, 1, 3), lease(2, 1, 3)), poolOf(12, lease(2, 0, 3), lease(4, 0, 3)), poolOf(12, lease(2, 3, 3), lease(2, 3, 3)),
		poolOf(12, lease(0, 0, 12), lease(5, 0, 1)), poolOf(12, lease(5, 0, 1), lease(0, 0, 12)), poolOf(12, lease(3, 1, 5), lease(3, 1, 2)), poolOf(12, lease(3, 1, 2), lease(3, 1, 5)),
		poolOf(12, lease(3, 1, 5), lease(6, 1, 2)), poolOf(1, lease(0, 0, 1), lease(0, 0, 1)), poolOf(1, lease(0, 1, 1), freeLease(), lease(0, 1, 1)),
		poolOf(12, lease(0, 1, 8), lease(2, 1, 1), lease(6, 1, 2)), poolOf(12, lease(6, 1, 2), lease(2, 1, 1), freeLease(), lease(0, 1, 8)), poolOf(12, lease(0, 1, 8), lease(1, 1, 1), lease(9, 1, 2)),
		poolOf(256, withLease(rowOf(16, 16), 15, lease(0, 1, 1))...), poolOf(256, withLease(rowOf(16, 16), 0, lease(255, 1, 1))...), poolOf(256, withLease(rowOf(16, 16), 7, lease(112, 1, 17))...),
	}
	for _, bad := range badLeases() {
		list = append(list,
			poolOf(12, bad), poolOf(12, lease(0, 1, 2), bad), poolOf(12, bad, lease(9, 1, 2)), poolOf(12, freeLease(), bad, freeLease()),
			poolOf(12, append(rowOf(11, 1), freeLease(), freeLease(), freeLease(), freeLease(), bad)...),
		)
	}
	return list
}

func TestP10ConstantsOfPools(t *testing.T) {
	if impl.MaxStore != 256 || impl.MaxLeases != 16 {
		t.Error("MaxStore or MaxLeases")
	}
}

func TestP10NewPool(t *testing.T) {
	for n := range 257 {
		p, ok := impl.NewPool(n)
		if !ok || len(p.Store) != n || len(p.Leases) != 0 || !slices.EqualFunc(p.Store, make([]complex64, n), samePoint) {
			t.Errorf("NewPool(%d) = %v, %v", n, p, ok)
		}
		if !impl.IsPool(p) {
			t.Errorf("NewPool(%d) is not valid", n)
		}
	}
	for _, n := range []int{-1, -2, -256, 257, 258, 1 << 32, 1<<32 + 8, math.MaxInt, math.MinInt, math.MinInt + 8} {
		if p, ok := impl.NewPool(n); ok || !noPool(p) {
			t.Errorf("NewPool(%d) = %v, %v", n, p, ok)
		}
	}
}

func TestP10IsPool(t *testing.T) {
	for _, p := range goodPools() {
		if !impl.IsPool(p) {
			t.Errorf("IsPool(%v) is false", p)
		}
	}
	for _, p := range badPools() {
		if impl.IsPool(p) {
			t.Errorf("IsPool(%v) is true", p)
		}
	}
}

// validPool marks the samples of each room, for leases with small numbers.
func validPool(p impl.Pool) bool {
	marked := make([]bool, len(p.Store))
	for _, l := range p.Leases {
		if l.Free {
			if l.Start != 0 || l.Count != 0 || l.Room != 0 {
				return false
			}
			continue
		}
		if l.Start < 0 || l.Room < 1 || l.Count < 0 || l.Count > l.Room || l.Start+l.Room > len(p.Store) {
			return false
		}
		for i := l.Start; i < l.Start+l.Room; i++ {
			if marked[i] {
				return false
			}
			marked[i] = true
		}
	}
	return len(p.Store) <= 256 && len(p.Leases) <= 16
}

// smallLeases are all leases whose numbers are from -1 to 3.
func smallLeases() []impl.Lease {
	list := []impl.Lease{}
	for start := -1; start <= 3; start++ {
		for count := -1; count <= 3; count++ {
			for room := -1; room <= 3; room++ {
				list = append(list, lease(start, count, room), impl.Lease{Start: start, Count: count, Room: room, Free: true})
			}
		}
	}
	return list
}

func TestP10SmallPools(t *testing.T) {
	leases, valid := smallLeases(), 0
	for n := range 4 {
		p := poolOf(n, freeLease(), freeLease())
		for _, a := range leases {
			for _, b := range leases {
				p.Leases[0], p.Leases[1] = a, b
				want := validPool(p)
				if impl.IsPool(p) != want {
					t.Fatalf("IsPool(%v) is not %v", p, want)
				}
				if want {
					valid++
				}
			}
		}
	}
	if valid < 50 {
		t.Errorf("only %d small pools are valid", valid)
	}
}

// ids are indices of leases of p, and others.
func ids(p impl.Pool) []int {
	n := len(p.Leases)
	list := []int{-1, -2, -n - 1, n, n + 1, 16, 17, 1 << 32, 1<<32 + 1, -1 << 32, math.MaxInt, math.MinInt}
	for i := range n {
		list = append(list, i)
	}
	return list
}

func TestP10PoolsThatAreNotValid(t *testing.T) {
	for _, bad := range badPools() {
		for _, room := range []int{-1, 0, 1, 2, 5, 257, math.MaxInt} {
			if p, id, ok := impl.LendRoom(bad, room); ok || id != 0 || !noPool(p) {
				t.Errorf("LendRoom(%v, %d) = %v, %d, %v", bad, room, p, id, ok)
			}
		}
		if p := impl.CompactPool(bad); !noPool(p) {
			t.Errorf("CompactPool(%v) = %v", bad, p)
		}
		if all, most := impl.FreeRoom(bad); all != 0 || most != 0 {
			t.Errorf("FreeRoom(%v) = %d, %d", bad, all, most)
		}
		for _, id := range ids(bad) {
			checkLeaseRefused(t, bad, id)
		}
	}
}

// checkLeaseRefused checks that all functions that are given the index of a lease return the zero value.
func checkLeaseRefused(t *testing.T, p impl.Pool, id int) {
	t.Helper()
	if q, ok := impl.GiveBack(p, id); ok || !noPool(q) {
		t.Errorf("GiveBack(%v, %d) = %v, %v", p, id, q, ok)
	}
	if window, ok := impl.WindowOf(p, id); ok || len(window) != 0 {
		t.Errorf("WindowOf(%v, %d) = %v, %v", p, id, window, ok)
	}
	for n := range 3 {
		if q, ok := impl.AppendTo(p, id, someSamples(n)); ok || !noPool(q) {
			t.Errorf("AppendTo(%v, %d) of %d samples = %v, %v", p, id, n, q, ok)
		}
	}
	for _, other := range []int{0, 1, len(p.Leases) - 1, id} {
		if q, ok := impl.AppendWindow(p, id, other); ok || !noPool(q) {
			t.Errorf("AppendWindow(%v, %d, %d) = %v, %v", p, id, other, q, ok)
		}
		if q, ok := impl.AppendWindow(p, other, id); ok || !noPool(q) {
			t.Errorf("AppendWindow(%v, %d, %d) = %v, %v", p, other, id, q, ok)
		}
	}
	for _, at := range []int{-1, 0, 1, 2, math.MaxInt, math.MinInt} {
		if q, other, ok := impl.CutLease(p, id, at); ok || other != 0 || !noPool(q) {
			t.Errorf("CutLease(%v, %d, %d) = %v, %d, %v", p, id, at, q, other, ok)
		}
	}
}

func TestP10LeasesThatAreNotLent(t *testing.T) {
	for _, p := range goodPools() {
		for _, id := range ids(p) {
			if id < 0 || id >= len(p.Leases) || p.Leases[id].Free {
				checkLeaseRefused(t, p, id)
			}
		}
	}
}
