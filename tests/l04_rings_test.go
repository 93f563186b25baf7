package tests

import (
	"math"
	"slices"
	"testing"

	"loop.example/g03223/impl"
)

func sameRing(a impl.Ring, b impl.Ring) bool {
	return slices.EqualFunc(a.Store, b.Store, samePoint) && a.At == b.At && a.Count == b.Count
}

// noRing reports whether r is the zero value.
func noRing(r impl.Ring) bool { return len(r.Store) == 0 && r.At == 0 && r.Count == 0 }

func copyOfRing(r impl.Ring) impl.Ring {
	r.Store = slices.Clone(r.Store)
	return r
}

// nextIndex steps through a store of n samples, the first index following the last one.
func nextIndex(i int, n int) int {
	if i == n-1 {
		return 0
	}
	return i + 1
}

// ringOf has a store of n samples, which holds items, the oldest one at the index at.
func ringOf(n int, at int, items ...complex64) impl.Ring {
	r := impl.Ring{Store: make([]complex64, n), At: at, Count: len(items)}
	for _, z := range items {
		r.Store[at] = z
		at = nextIndex(at, n)
	}
	return r
}

// goodRings are rings of all sizes, with all At and all Count.
func goodRings() []impl.Ring {
	list := []impl.Ring{}
	for n := 1; n <= 16; n++ {
		for at := range n {
			for count := range n + 1 {
				list = append(list, ringOf(n, at, someSamples(count)...))
			}
		}
	}
	return list
}

// heldBy tells which samples of the store a ring holds, if its At and Count are good.
func heldBy(r impl.Ring) []bool {
	held := make([]bool, len(r.Store))
	i := r.At
	for range r.Count {
		held[i] = true
		i = nextIndex(i, len(r.Store))
	}
	return held
}

// itemsOf are what a ring that is valid holds.
func itemsOf(r impl.Ring) []complex64 {
	items := []complex64{}
	i := r.At
	for range r.Count {
		items = append(items, r.Store[i])
		i = nextIndex(i, len(r.Store))
	}
	return items
}

// validRing is what IsRing should return.
func validRing(r impl.Ring) bool {
	if len(r.Store) < 1 || len(r.Store) > 16 || r.At < 0 || r.At >= len(r.Store) || r.Count < 0 || r.Count > len(r.Store) {
		return false
	}
	for i, held := range heldBy(r) {
		if !held && !samePoint(r.Store[i], 0) {
			return false
		}
	}
	return true
}

// notZeros are samples that no place may have which the ring does not hold.
func notZeros() []complex64 {
	zero, nan, least := minusZero(), notANumber(), float32(0x1p-149)
	return []complex64{
		complex(zero, 0), complex(0, zero), complex(zero, zero), 1, -1i, complex(least, 0), complex(0, least), complex(-least, 0), complex(0, -least),
		complex(nan, 0), complex(0, nan), complex(infinity(1), 0), complex(0, infinity(-1)), complex(greatest, greatest), complex(math.Float32frombits(0xffffffff), 0), complex(0, math.Float32frombits(0x7f800001)),
	}
}

// oddNumbers are neither an index of a store nor a number of its samples, near the ends, and where an integer of 32 bits would not tell them from such.
func oddNumbers(n int) []int {
	const most, least = math.MaxInt, math.MinInt
	return []int{-1, -2, -n, -n - 1, -2 * n, n + 1, n + 2, 2*n + 1, 3*n + 1, 17, 18, 100, 1 << 32, 1<<32 + 1, 1<<32 - 1, -1 << 32, 1 << 62, most, most - 1, most - n, least, least + 1, least + n, least + 17}
}

// badRings are wrong in one thing, and some in several.
func badRings() []impl.Ring {
	const most, least = math.MaxInt, math.MinInt
	list := []impl.Ring{
		{}, {Store: []complex64{}}, {At: 1}, {Count: 1}, {At: -1}, {Count: -1}, {At: most, Count: most}, {Store: []complex64{}, At: least},
		ringOf(17, 0), ringOf(17, 3), ringOf(17, 16), ringOf(17, 0, someSamples(17)...), ringOf(17, 9, someSamples(16)...), ringOf(18, 0, 1), ringOf(32, 5, 1, 2), ringOf(300, 0), ringOf(300, 299, someSamples(300)...),
		{Store: make([]complex64, 4), At: most, Count: most}, {Store: make([]complex64, 4), At: least, Count: least}, {Store: make([]complex64, 4), At: most, Count: least}, {Store: make([]complex64, 4), At: -3, Count: 3}, {Store: make([]complex64, 4), At: 4, Count: -4},
	}
	for _, good := range goodRings() {
		n := len(good.Store)
		for _, odd := range append(oddNumbers(n), n) {
			list = append(list, impl.Ring{Store: good.Store, At: odd, Count: good.Count})
			if odd != n {
				list = append(list, impl.Ring{Store: good.Store, At: good.At, Count: odd})
			}
		}
		if n > 5 && n < 15 {
			continue
		}
		for i, held := range heldBy(good) {
			for k, z := range notZeros() {
				if !held && (n < 5 || (i+k)%3 == 0) {
					bad := copyOfRing(good)
					bad.Store[i] = z
					list = append(list, bad)
				}
			}
		}
	}
	return list
}

func TestP10NewRing(t *testing.T) {
	for n := -20; n <= 40; n++ {
		r, ok := impl.NewRing(n)
		if want := n >= 1 && n <= 16; ok != want || !want && !noRing(r) || want && !sameRing(r, ringOf(n, 0)) {
			t.Errorf("NewRing(%d) = %v, %v", n, r, ok)
		}
		if ok != impl.IsRing(r) || len(impl.ItemsOf(r)) != 0 {
			t.Errorf("the ring %v of %d samples is valid: %v, and holds %v", r, n, impl.IsRing(r), impl.ItemsOf(r))
		}
	}
	for _, n := range []int{math.MaxInt, math.MinInt, math.MaxInt32, math.MinInt32, 1 << 32, 1<<32 + 1, 1<<32 + 16, -1 << 32, 1 - 1<<32, 1 << 62, 256, 257} {
		if r, ok := impl.NewRing(n); ok || !noRing(r) {
			t.Errorf("NewRing(%d) = %v, %v", n, r, ok)
		}
	}
}

func TestP10IsRing(t *testing.T) {
	for _, r := range goodRings() {
		if !impl.IsRing(r) || !validRing(r) {
			t.Fatalf("%v is not valid", r)
		}
	}
	for _, r := range badRings() {
		if impl.IsRing(r) || validRing(r) {
			t.Fatalf("%v is valid", r)
		}
	}
}

// TestP10RingsHoldAnything puts samples, also -0 and NaN, where a ring holds them, and where it does not.
func TestP10RingsHoldAnything(t *testing.T) {
	good := 0
	for _, z := range append(notZeros(), 0) {
		for n := 1; n <= 16; n++ {
			for at := range n {
				for _, count := range []int{0, 1, n / 2, n - 1, n} {
					r := ringOf(n, at, make([]complex64, count)...)
					i := (at + n/2) % n
					r.Store[i] = z
					want := heldBy(r)[i] || samePoint(z, 0)
					if impl.IsRing(r) != want {
						t.Fatalf("IsRing(%v) is not %v", r, want)
					}
					if want {
						good++
					}
				}
			}
		}
	}
	if good == 0 {
		t.Error("no ring is valid")
	}
}

func TestP10NamedRings(t *testing.T) {
	zero, nan := minusZero(), notANumber()
	type ring = impl.Ring
	for _, c := range []struct {
		r    ring
		want bool
	}{
		{ring{Store: []complex64{0}}, true}, {ring{Store: []complex64{5}, Count: 1}, true}, {ring{Store: []complex64{0}, Count: 1}, true}, {ring{Store: []complex64{5}}, false}, {ring{Store: []complex64{0}, At: 1}, false}, {ring{Store: []complex64{0}, Count: 2}, false},
		{ring{Store: []complex64{complex(zero, nan)}, Count: 1}, true}, {ring{Store: []complex64{complex(zero, 0)}}, false}, {ring{Store: []complex64{complex(0, zero)}}, false}, {ring{Store: []complex64{complex(nan, 0)}}, false},
		// Two samples around the end, and one place between.
		{ring{Store: []complex64{2, 0, 1}, At: 2, Count: 2}, true}, {ring{Store: []complex64{2, 0, 1}, At: 2, Count: 3}, true}, {ring{Store: []complex64{2, 0, 1}, At: 2, Count: 1}, false}, {ring{Store: []complex64{2, 0, 1}, At: 0, Count: 2}, false}, {ring{Store: []complex64{2, 0, 1}, At: 0, Count: 3}, true},
		{ring{Store: []complex64{2, 0, 1}, At: 1, Count: 2}, false}, {ring{Store: []complex64{2, 0, 1}, At: 1, Count: 3}, true}, {ring{Store: []complex64{2, complex(0, zero), 1}, At: 2, Count: 2}, false}, {ring{Store: []complex64{2, 0, 1}, At: 3, Count: 2}, false}, {ring{Store: []complex64{2, 0, 1}, At: -1, Count: 2}, false},
		{ring{Store: make([]complex64, 16), At: 15}, true}, {ring{Store: make([]complex64, 16), At: 15, Count: 16}, true}, {ring{Store: make([]complex64, 16), At: 16}, false}, {ring{Store: make([]complex64, 17)}, false}, {ring{}, false},
	} {
		if impl.IsRing(c.r) != c.want {
			t.Errorf("IsRing(%v) is not %v", c.r, c.want)
		}
	}
}

func TestP10RingsThatAreNotValid(t *testing.T) {
	for _, r := range badRings() {
		for _, z := range []complex64{0, 1 - 2i, complex(notANumber(), minusZero())} {
			if q, old, ok := impl.PushRing(r, z); ok || !samePoint(old, 0) || !noRing(q) {
				t.Fatalf("PushRing(%v, %g) = %v, %g, %v", r, z, q, old, ok)
			}
		}
		if q, old, ok := impl.TakeRing(r); ok || !samePoint(old, 0) || !noRing(q) {
			t.Fatalf("TakeRing(%v) = %v, %g, %v", r, q, old, ok)
		}
		if items := impl.ItemsOf(r); len(items) != 0 {
			t.Fatalf("ItemsOf(%v) = %v", r, items)
		}
	}
}
