package tests

import (
	"math"
	"math/rand/v2"
	"slices"
	"testing"

	"loop.example/g03223/impl"
)

// nearest finds the least distance first, and then the first point that has it.
func nearest(points []complex64, z complex64) (int, bool) {
	distances := []float32{}
	for _, p := range points {
		if d := distance(p, z); !math.IsNaN(float64(d)) {
			distances = append(distances, d)
		}
	}
	if len(distances) == 0 {
		return 0, false
	}
	least := slices.Min(distances)
	return slices.IndexFunc(points, func(p complex64) bool { return distance(p, z) == least }), true
}

func checkNearest(t *testing.T, table impl.Table, z complex64, want int, found bool) {
	t.Helper()
	if i, ok := impl.NearestPoint(table, z); i != want || ok != found {
		t.Fatalf("NearestPoint(%v, %g) = %d, %v; not %d, %v", table, z, i, ok, want, found)
	}
	labels, ok := impl.DecidePoints(table, []complex64{z})
	if ok != found || !found && len(labels) != 0 || found && (len(labels) != 1 || labels[0] != table.Labels[want]) {
		t.Fatalf("DecidePoints(%v, [%g]) = %v, %v", table, z, labels, ok)
	}
}

func tableOf(points ...complex64) impl.Table {
	t := impl.Table{Points: points}
	for i := range points {
		t.Labels = append(t.Labels, 50-3*i)
	}
	return t
}

func TestP3FirstOfTheNearest(t *testing.T) {
	square := tableOf(complex(-1, -1), complex(-1, 1), complex(1, -1), complex(1, 1))
	for _, c := range []struct {
		table impl.Table
		z     complex64
		want  int
	}{
		{square, 0, 0}, {square, complex(minusZero(), minusZero()), 0}, {square, complex(0, 7), 1}, {square, complex(7, 0), 2}, {square, complex(0.5, 0.25), 3},
		{square, complex(1, 0), 2}, {square, complex(-1, 0), 0}, {square, complex(0, 1), 1}, {square, complex(0x1p-20, 0), 2},
		// What is too small for single precision, or too little to change the number, makes no difference.
		{square, complex(0x1p-25, 0), 0}, {square, complex(0, 0x1p-149), 0},
		{tableOf(0, 1e-30), 1e-30, 0}, {tableOf(1e-30, 0), 0, 0}, {tableOf(0x1p-149i, 0, 1), 0, 0}, {tableOf(1, 0x1p-70, 0), 0, 2},
		{tableOf(16777216, 16777214), 1, 1}, {tableOf(1, 2, 3, 2i, -1i), 0, 0}, {tableOf(3, 2, 1, -1, 1i), 0, 2}, {tableOf(5, 5i, 3-4i), 0, 0},
		// Infinity is a distance like others.
		{tableOf(complex(greatest, 0), complex(-greatest, 0)), 0, 0}, {tableOf(complex(greatest, 0), 1, complex(0, greatest)), 0, 1},
		{tableOf(complex(greatest, 0), complex(-greatest, 0)), complex(-greatest, 0), 1},
		{tableOf(1e20, 1e19, 3e19), 0, 1}, {tableOf(3e19, 1e20, 2e19), 0, 0}, {tableOf(3e19, 1e18, 2e19), 0, 1},
		{square, complex(infinity(1), 0), 0}, {square, complex(infinity(-1), infinity(1)), 0}, {square, complex(1, infinity(-1)), 0}, {square, complex(1e30, 1e30), 0},
		{tableOf(4), 9, 0}, {tableOf(4), complex(infinity(1), 4), 0},
	} {
		checkNearest(t, c.table, c.z, c.want, true)
	}
}

func TestP3NothingIsNearest(t *testing.T) {
	for _, z := range append(notFinitePoints(), 0, complex(1, 2)) {
		checkNearest(t, impl.Table{}, z, 0, false)
	}
	for _, table := range goodTables() {
		for _, z := range notNumberPoints() {
			checkNearest(t, table, z, 0, false)
		}
	}
}

func TestP3NearestOfAnyPoints(t *testing.T) {
	choice := rand.New(rand.NewPCG(3, 4))
	parts := someParts(t)
	ties := 0
	for range 4000 {
		var table impl.Table
		for range choice.IntN(66) {
			z := complex(float32(choice.IntN(9)-4), float32(choice.IntN(9)-4))
			if choice.IntN(8) == 0 {
				z = complex(parts[choice.IntN(len(parts))], parts[choice.IntN(len(parts))])
			}
			if r, ok := put(table, z, choice.IntN(100)-50); ok {
				table = r
			}
		}
		z := complex(float32(choice.IntN(19)-9)/2, float32(choice.IntN(19)-9)/2)
		if choice.IntN(4) == 0 {
			z = complex(parts[choice.IntN(len(parts))], parts[choice.IntN(len(parts))])
		}
		i, found := nearest(table.Points, z)
		checkNearest(t, table, z, i, found)
		last := slices.Clone(table.Points)
		slices.Reverse(last)
		if k, _ := nearest(last, z); found && k != len(last)-1-i {
			ties++
		}
	}
	if ties < 100 {
		t.Errorf("only %d points have several nearest ones", ties)
	}
}

func TestP10DecideLists(t *testing.T) {
	table := lineTable(64)
	for _, n := range []int{0, 1, 2, 299, 300} {
		list := make([]complex64, n)
		want := make([]int, n)
		for i := range list {
			list[i] = complex(float32(i%70)/4-3.125, float32(i%7))
			k, _ := nearest(table.Points, list[i])
			want[i] = table.Labels[k]
		}
		if labels, ok := impl.DecidePoints(table, list); !ok || !slices.Equal(labels, want) {
			t.Errorf("DecidePoints of %d elements = %v, %v; not %v", n, labels, ok, want)
		}
		for i := range list {
			changed := slices.Clone(list)
			changed[i] = complex(1, notANumber())
			if labels, ok := impl.DecidePoints(table, changed); ok || len(labels) != 0 {
				t.Fatalf("DecidePoints with NaN as the element %d of %d = %v, %v", i, n, labels, ok)
			}
		}
	}
	for _, n := range []int{301, 302, 1000} {
		if labels, ok := impl.DecidePoints(table, make([]complex64, n)); ok || len(labels) != 0 {
			t.Errorf("DecidePoints of %d elements = %v, %v", n, labels, ok)
		}
	}
	if labels, ok := impl.DecidePoints(impl.Table{}, nil); !ok || len(labels) != 0 {
		t.Errorf("DecidePoints of a table with no point and no elements = %v, %v", labels, ok)
	}
}

func TestP10EncodeLabels(t *testing.T) {
	zero := minusZero()
	table := impl.Table{
		Points: []complex64{complex(1, zero), 2, complex(zero, zero), 4i, -5},
		Labels: []int{7, -1, 7, 0, -1},
	}
	first := map[int]complex64{7: complex(1, zero), -1: 2, 0: 4i}
	for _, labels := range [][]int{nil, {7}, {-1}, {0}, {0, 7, -1, -1, 7, 0}} {
		points, ok := impl.EncodeLabels(table, labels)
		if !ok || len(points) != len(labels) {
			t.Fatalf("EncodeLabels(%v) = %v, %v", labels, points, ok)
		}
		for i, label := range labels {
			if !samePoint(points[i], first[label]) {
				t.Errorf("EncodeLabels(%v) = %v", labels, points)
			}
		}
	}
	for _, labels := range [][]int{{1}, {-7}, {7, 0, 1}, {1, 7}, {1<<32 + 7}, {7, math.MinInt, 0}, {math.MaxInt}} {
		if points, ok := impl.EncodeLabels(table, labels); ok || len(points) != 0 {
			t.Errorf("EncodeLabels(%v) = %v, %v", labels, points, ok)
		}
	}
	if points, ok := impl.EncodeLabels(impl.Table{}, nil); !ok || len(points) != 0 {
		t.Errorf("EncodeLabels of no table and no labels = %v, %v", points, ok)
	}
	if points, ok := impl.EncodeLabels(impl.Table{}, []int{0}); ok || len(points) != 0 {
		t.Errorf("EncodeLabels of no table and 0 = %v, %v", points, ok)
	}
}

func TestP10EncodeLongLists(t *testing.T) {
	table := lineTable(64)
	labels := make([]int, 302)
	for i := range labels {
		labels[i] = 100 - i*11%64
	}
	for n := range labels {
		points, ok := impl.EncodeLabels(table, labels[:n])
		if ok != (n <= 300) || !ok && len(points) != 0 || ok && len(points) != n {
			t.Fatalf("EncodeLabels of %d labels = %v, %v", n, points, ok)
		}
		for i, z := range points {
			if z != table.Points[i*11%64] {
				t.Fatalf("EncodeLabels has %g for the label %d", z, labels[i])
			}
		}
		if !ok || n == 0 {
			continue
		}
		// What is decided for the points of a table are their labels.
		if back, ok := impl.DecidePoints(table, points); !ok || !slices.Equal(back, labels[:n]) {
			t.Fatalf("DecidePoints of the points of %v = %v, %v", labels[:n], back, ok)
		}
	}
}
