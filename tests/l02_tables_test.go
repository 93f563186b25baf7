package tests

import (
	"math/rand/v2"
	"slices"
	"testing"

	"loop.example/g03223/impl"
)

func sameTable(a impl.Table, b impl.Table) bool {
	return slices.EqualFunc(a.Points, b.Points, samePoint) && slices.Equal(a.Labels, b.Labels)
}

// noTable reports whether t is the zero value.
func noTable(t impl.Table) bool { return len(t.Points) == 0 && len(t.Labels) == 0 }

// lineTable has n points in a line, with the labels 100, 99, and so on.
func lineTable(n int) impl.Table {
	var t impl.Table
	for i := range n {
		t.Points = append(t.Points, complex(float32(i)/4-3, float32(i%5)))
		t.Labels = append(t.Labels, 100-i)
	}
	return t
}

// withPoint returns t with z in the place of the point i.
func withPoint(t impl.Table, i int, z complex64) impl.Table {
	t.Points = slices.Clone(t.Points)
	t.Points[i] = z
	return t
}

// notFinitePoints have a part of which nothing is said but that it is not finite, in either place.
func notFinitePoints() []complex64 {
	list := []complex64{}
	for _, x := range notFinite() {
		list = append(list, complex(x, 0), complex(0, x), complex(x, 1), complex(-1, x), complex(x, x))
	}
	return list
}

func notNumberPoints() []complex64 {
	return slices.DeleteFunc(notFinitePoints(), func(z complex64) bool { return z == z })
}

func goodTables() []impl.Table {
	zero := minusZero()
	return []impl.Table{
		{}, {Points: []complex64{}, Labels: []int{}}, lineTable(1), lineTable(2), lineTable(5), lineTable(63), lineTable(64),
		{Points: []complex64{complex(zero, zero)}, Labels: []int{-7}},
		{Points: []complex64{0, 0x1p-149, -0x1p-149, 0x1p-149i}, Labels: []int{1, 1, 1, 1}},
		{Points: []complex64{complex(greatest, -greatest), complex(-greatest, greatest), complex(zero, 1)}, Labels: []int{1 << 62, -1 << 63, 1<<63 - 1}},
	}
}

const greatest = float32(0x1.fffffep127)

func badTables() []impl.Table {
	zero := minusZero()
	list := []impl.Table{
		{Points: []complex64{1}}, {Labels: []int{1}},
		{Points: []complex64{1, 2}, Labels: []int{1}}, {Points: []complex64{1}, Labels: []int{1, 2}},
		{Points: []complex64{1, 1}, Labels: []int{1, 2}}, {Points: []complex64{1, 1}, Labels: []int{1, 1}},
		{Points: []complex64{1, 2, 3, 1}, Labels: []int{1, 2, 3, 4}}, {Points: []complex64{1, 2i, 2i, 3}, Labels: []int{1, 2, 3, 4}},
		{Points: []complex64{0, complex(zero, 0)}, Labels: []int{1, 2}}, {Points: []complex64{complex(0, zero), complex(zero, 0)}, Labels: []int{1, 2}},
		{Points: []complex64{complex(1, zero), 2, complex(1, 0)}, Labels: []int{1, 2, 3}},
		lineTable(65), lineTable(66), lineTable(300),
		withPoint(lineTable(64), 63, lineTable(64).Points[0]), withPoint(lineTable(64), 31, lineTable(64).Points[32]),
		{Points: lineTable(64).Points, Labels: lineTable(63).Labels}, {Points: lineTable(63).Points, Labels: lineTable(64).Labels},
		{Points: lineTable(64).Points, Labels: lineTable(65).Labels}, {Points: make([]complex64, 64), Labels: make([]int, 64)},
	}
	for i, z := range notFinitePoints() {
		list = append(list, impl.Table{Points: []complex64{z}, Labels: []int{3}}, withPoint(lineTable(6), i%6, z), withPoint(lineTable(64), 63, z))
	}
	return list
}

func TestP10IsTable(t *testing.T) {
	for _, table := range goodTables() {
		if !impl.IsTable(table) {
			t.Errorf("IsTable(%v) is false", table)
		}
	}
	for _, table := range badTables() {
		if impl.IsTable(table) {
			t.Errorf("IsTable(%v) is true", table)
		}
	}
}

func TestP10TablesThatAreNotValid(t *testing.T) {
	good := lineTable(2)
	for _, bad := range badTables() {
		z := complex64(1)
		// A table with too few labels has none for its last point.
		last := impl.Table{Points: []complex64{1}, Labels: []int{5}}
		if n := len(bad.Points); n > 0 {
			z = bad.Points[0]
			last.Points[0] = bad.Points[n-1]
		}
		label, ok := impl.FindPoint(bad, z)
		i, near := impl.NearestPoint(bad, 0)
		if ok || label != 0 || near || i != 0 {
			t.Errorf("FindPoint or NearestPoint of %v = %d, %v; %d, %v", bad, label, ok, i, near)
		}
		for _, call := range []func() (impl.Table, bool){
			func() (impl.Table, bool) { return impl.PutPoint(bad, z, 5) },
			func() (impl.Table, bool) { return impl.PutPoint(bad, 77, 5) },
			func() (impl.Table, bool) { return impl.DropPoint(bad, z) },
			func() (impl.Table, bool) { return impl.TurnTable(bad, 1) },
			func() (impl.Table, bool) { return impl.MergeTables(bad, good) },
			func() (impl.Table, bool) { return impl.MergeTables(bad, last) },
			func() (impl.Table, bool) { return impl.MergeTables(bad, bad) },
			func() (impl.Table, bool) { return impl.MergeTables(good, bad) },
			func() (impl.Table, bool) { return impl.MergeTables(impl.Table{}, bad) },
			func() (impl.Table, bool) { return impl.MergeTables(bad, impl.Table{}) },
		} {
			if r, ok := call(); ok || !noTable(r) {
				t.Errorf("a function of %v returns %v, %v", bad, r, ok)
			}
		}
		for n := range 2 {
			labels, decided := impl.DecidePoints(bad, make([]complex64, n))
			points, encoded := impl.EncodeLabels(bad, []int{3, 100}[:n])
			if decided || len(labels) != 0 || encoded || len(points) != 0 {
				t.Errorf("lists of %v are %v, %v and %v, %v", bad, labels, decided, points, encoded)
			}
		}
	}
}

// placeOf finds the first point with equal parts, one of which is not NaN where it is equal.
func placeOf(points []complex64, z complex64) int {
	for i, p := range points {
		if real(p) == real(z) && imag(p) == imag(z) {
			return i
		}
	}
	return -1
}

// put is what PutPoint should return, for a table that is valid.
func put(table impl.Table, z complex64, label int) (impl.Table, bool) {
	r := impl.Table{Points: slices.Clone(table.Points), Labels: slices.Clone(table.Labels)}
	if i := placeOf(r.Points, z); i >= 0 {
		r.Labels[i] = label
		return r, true
	}
	if !finitePoint(z) || len(r.Points) >= 64 {
		return impl.Table{}, false
	}
	return impl.Table{Points: append(r.Points, z), Labels: append(r.Labels, label)}, true
}

// drop is what DropPoint should return, for a table that is valid.
func drop(table impl.Table, z complex64) (impl.Table, bool) {
	i := placeOf(table.Points, z)
	if i < 0 {
		return impl.Table{}, false
	}
	return impl.Table{Points: slices.Concat(table.Points[:i], table.Points[i+1:]), Labels: slices.Concat(table.Labels[:i], table.Labels[i+1:])}, true
}

// manyPoints are more points than a table can have, with zeros of all signs and points that are not finite among them.
func manyPoints() []complex64 {
	list := append(zeroPoints(), notFinitePoints()...)
	for i := range 70 {
		list = append(list, complex(float32(i%9)/8, float32(i/9)-4), complex(float32(i)*0x1p-149, minusZero()))
	}
	return list
}

func checkFinds(t *testing.T, table impl.Table, list []complex64) {
	t.Helper()
	for _, z := range list {
		want, found := 0, false
		if i := placeOf(table.Points, z); i >= 0 {
			want, found = table.Labels[i], true
		}
		if label, ok := impl.FindPoint(table, z); label != want || ok != found {
			t.Fatalf("FindPoint(%v, %g) = %d, %v; not %d, %v", table, z, label, ok, want, found)
		}
	}
}

func TestP3TablesFindWhatWasPutInThem(t *testing.T) {
	list := manyPoints()
	choice := rand.New(rand.NewPCG(1, 2))
	for _, drops := range []int{1, 4, 7} {
		var table, want impl.Table
		full := false
		for range 800 {
			z, label := list[choice.IntN(len(list))], choice.IntN(9)-4
			r, ok := impl.PutPoint(table, z, label)
			wanted, wantedOk := put(want, z, label)
			if choice.IntN(10) < drops {
				r, ok = impl.DropPoint(table, z)
				wanted, wantedOk = drop(want, z)
			}
			if ok != wantedOk || !sameTable(r, wanted) {
				t.Fatalf("%v became %v, %v with %g and %d; not %v", table, r, ok, z, label, wanted)
			}
			if !ok {
				continue
			}
			table, want = r, wanted
			full = full || len(table.Points) == impl.MaxPoints
			checkFinds(t, table, list)
		}
		if drops == 1 && !full {
			t.Error("no table was full")
		}
	}
}

func TestP3TablesNeverFindNaN(t *testing.T) {
	for _, table := range goodTables() {
		for _, z := range notNumberPoints() {
			label, found := impl.FindPoint(table, z)
			i, near := impl.NearestPoint(table, z)
			if found || label != 0 || near || i != 0 {
				t.Errorf("%g is found in %v: %d, %v; %d, %v", z, table, label, found, i, near)
			}
			r, put := impl.PutPoint(table, z, 1)
			s, dropped := impl.DropPoint(table, z)
			if put || !noTable(r) || dropped || !noTable(s) {
				t.Errorf("%g is put into %v: %v, %v; or dropped: %v, %v", z, table, r, put, s, dropped)
			}
			if labels, ok := impl.DecidePoints(table, []complex64{z}); ok || len(labels) != 0 {
				t.Errorf("%g is decided for in %v: %v, %v", z, table, labels, ok)
			}
		}
	}
}

func TestP10TablesDoNotFindInfinity(t *testing.T) {
	for _, table := range goodTables() {
		for _, z := range notFinitePoints() {
			label, found := impl.FindPoint(table, z)
			r, put := impl.PutPoint(table, z, 1)
			s, dropped := impl.DropPoint(table, z)
			if found || label != 0 || put || !noTable(r) || dropped || !noTable(s) {
				t.Errorf("%v has %g: %d, %v; %v, %v; %v, %v", table, z, label, found, r, put, s, dropped)
			}
		}
	}
}

func TestP3TablesFindZeroBySignsOfAnyKind(t *testing.T) {
	for _, kept := range zeroPoints() {
		table := impl.Table{Points: []complex64{1, kept, 2}, Labels: []int{5, 6, 7}}
		for _, z := range zeroPoints() {
			if label, ok := impl.FindPoint(table, z); !ok || label != 6 {
				t.Errorf("FindPoint(%v, %g) = %d, %v", table, z, label, ok)
			}
			// The label is another one then, but the point stays as it is.
			want := impl.Table{Points: table.Points, Labels: []int{5, 9, 7}}
			if r, ok := impl.PutPoint(table, z, 9); !ok || !sameTable(r, want) {
				t.Errorf("PutPoint(%v, %g, 9) = %v, %v", table, z, r, ok)
			}
			want = impl.Table{Points: []complex64{1, 2}, Labels: []int{5, 7}}
			if r, ok := impl.DropPoint(table, z); !ok || !sameTable(r, want) {
				t.Errorf("DropPoint(%v, %g) = %v, %v", table, z, r, ok)
			}
			other := impl.Table{Points: []complex64{3, z}, Labels: []int{1, 2}}
			want = impl.Table{Points: []complex64{1, kept, 2, 3}, Labels: []int{5, 2, 7, 1}}
			if r, ok := impl.MergeTables(table, other); !ok || !sameTable(r, want) {
				t.Errorf("MergeTables(%v, %v) = %v, %v", table, other, r, ok)
			}
		}
	}
}

func TestP10FullTables(t *testing.T) {
	almost, full := lineTable(63), lineTable(64)
	if r, ok := impl.PutPoint(almost, full.Points[63], full.Labels[63]); !ok || !sameTable(r, full) {
		t.Errorf("the point 64 is not put: %v, %v", r, ok)
	}
	if r, ok := impl.PutPoint(full, 100, 1); ok || !noTable(r) {
		t.Errorf("the point 65 is put: %v, %v", r, ok)
	}
	for i, z := range full.Points {
		r, ok := impl.PutPoint(full, z, -i)
		label, found := impl.FindPoint(r, z)
		if !ok || !found || label != -i || len(r.Points) != 64 {
			t.Errorf("PutPoint of the point %d of a full table = %v, %v", i, r, ok)
		}
		less, ok := impl.DropPoint(full, z)
		if want, _ := drop(full, z); !ok || !sameTable(less, want) {
			t.Errorf("DropPoint of the point %d of a full table = %v, %v", i, less, ok)
		}
	}
	if r, ok := impl.DropPoint(lineTable(1), -3); !ok || !noTable(r) {
		t.Errorf("a table without its only point = %v, %v", r, ok)
	}
	if r, ok := impl.DropPoint(impl.Table{}, 0); ok || !noTable(r) {
		t.Errorf("a table with no point without one = %v, %v", r, ok)
	}
	if label, ok := impl.FindPoint(impl.Table{}, 0); ok || label != 0 {
		t.Errorf("a table with no point finds %d, %v", label, ok)
	}
}

// merge is what MergeTables should return, for tables that are valid.
func merge(a impl.Table, b impl.Table) (impl.Table, bool) {
	ok := true
	for i, z := range b.Points {
		if a, ok = put(a, z, b.Labels[i]); !ok {
			return impl.Table{}, false
		}
	}
	return a, true
}

// partOf is a table of those from the points that a table may have, from one place to another.
func partOf(points []complex64, from int, to int) impl.Table {
	var r impl.Table
	for i, z := range points[from:to] {
		if finitePoint(z) {
			r, _ = put(r, z, from+2*i)
		}
	}
	return r
}

func TestP10MergeTables(t *testing.T) {
	tables := goodTables()
	points := manyPoints()
	for from := 0; from < len(points); from += 13 {
		for _, size := range []int{1, 10, 30, 62, 70} {
			tables = append(tables, partOf(points, from, min(from+size, len(points))))
		}
	}
	merged, refused := 0, 0
	for _, a := range tables {
		for _, b := range tables {
			want, wantOk := merge(a, b)
			r, ok := impl.MergeTables(a, b)
			if ok != wantOk || !sameTable(r, want) {
				t.Fatalf("MergeTables(%v, %v) = %v, %v; not %v", a, b, r, ok, want)
			}
			if ok {
				merged++
			} else {
				refused++
			}
		}
	}
	if merged == 0 || refused == 0 {
		t.Errorf("%d were merged and %d refused", merged, refused)
	}
}

func TestP10MergeTablesUpToTheMost(t *testing.T) {
	full := lineTable(64)
	for n := range 65 {
		a := impl.Table{Points: full.Points[:n], Labels: full.Labels[:n]}
		b := impl.Table{Points: full.Points[n:], Labels: full.Labels[n:]}
		if r, ok := impl.MergeTables(a, b); !ok || !sameTable(r, full) {
			t.Errorf("%d points and the others = %v, %v", n, r, ok)
		}
		one := impl.Table{Points: []complex64{99}, Labels: []int{1}}
		if more, ok := impl.MergeTables(full, one); ok || !noTable(more) {
			t.Errorf("a full table and another point = %v, %v", more, ok)
		}
		if again, ok := impl.MergeTables(full, b); !ok || !sameTable(again, full) {
			t.Errorf("a full table and some of its points = %v, %v", again, ok)
		}
	}
}
