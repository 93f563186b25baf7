package tests

import (
	"math"
	"slices"
	"testing"

	"loop.example/g03223/impl"
)

// grid is GridTable where it must not fail.
func grid(t *testing.T, side int) impl.Table {
	t.Helper()
	table, ok := impl.GridTable(side)
	if !ok {
		t.Fatalf("GridTable(%d) fails", side)
	}
	return table
}

func TestP10NamedGrids(t *testing.T) {
	for side, want := range map[int]impl.Table{
		1: {Points: []complex64{0}, Labels: []int{0}},
		2: {Points: []complex64{-1 - 1i, -1 + 1i, 1 - 1i, 1 + 1i}, Labels: []int{0, 1, 2, 3}},
		3: {Points: []complex64{-2 - 2i, -2, -2 + 2i, -2i, 0, 2i, 2 - 2i, 2, 2 + 2i}, Labels: []int{0, 1, 2, 3, 4, 5, 6, 7, 8}},
	} {
		if table := grid(t, side); !sameTable(table, want) {
			t.Errorf("GridTable(%d) = %v, not %v", side, table, want)
		}
	}
}

func TestP10Grids(t *testing.T) {
	for side := 1; side <= 8; side++ {
		table := grid(t, side)
		if !impl.IsTable(table) || len(table.Points) != side*side || len(table.Labels) != side*side {
			t.Fatalf("GridTable(%d) = %v", side, table)
		}
		place := 0
		for x := 1 - side; x < side; x += 2 {
			for y := 1 - side; y < side; y += 2 {
				if !samePoint(table.Points[place], complex(float32(x), float32(y))) || table.Labels[place] != place {
					t.Fatalf("GridTable(%d) has %g with the label %d at %d", side, table.Points[place], table.Labels[place], place)
				}
				place++
			}
		}
	}
	for _, side := range []int{0, -1, 9, -8, 10, 1<<32 + 1, math.MaxInt, math.MinInt} {
		if table, ok := impl.GridTable(side); ok || !noTable(table) {
			t.Errorf("GridTable(%d) = %v, %v", side, table, ok)
		}
	}
}

func TestP3GridsTurnedByQuarters(t *testing.T) {
	zero := minusZero()
	for side := 1; side <= 8; side++ {
		table := grid(t, side)
		for turn, quarters := range map[complex64]int{1: 0, complex(1, zero): 0, 1i: 1, complex(zero, 1): 1, -1: 2, complex(-1, zero): 2, complex(0, -1): 3, complex(zero, -1): 3} {
			turned, ok := impl.TurnTable(table, turn)
			if !ok || !slices.Equal(turned.Labels, table.Labels) {
				t.Fatalf("TurnTable of the grid %d by %g = %v, %v", side, turn, turned, ok)
			}
			for i := range side {
				for k := range side {
					// The point of row i and column k comes to another row and column, with its label.
					row, column := i, k
					for range quarters {
						row, column = side-1-column, row
					}
					label, found := impl.FindPoint(turned, table.Points[row*side+column])
					if !found || label != i*side+k {
						t.Fatalf("the grid %d turned by %g finds %g with %d, %v; not %d", side, turn, table.Points[row*side+column], label, found, i*side+k)
					}
					if _, found := impl.FindPoint(table, turned.Points[i*side+k]); !found {
						t.Fatalf("the grid %d does not find %g, which comes from a turn by %g", side, turned.Points[i*side+k], turn)
					}
				}
			}
		}
	}
}

func TestP3FourQuartersAreAWholeTurn(t *testing.T) {
	for side := 1; side <= 8; side++ {
		table := grid(t, side)
		turned := table
		for range 4 {
			next, ok := impl.TurnTable(turned, 1i)
			if !ok {
				t.Fatalf("a turn of the grid %d fails", side)
			}
			turned = next
		}
		if !slices.Equal(turned.Points, table.Points) || !slices.Equal(turned.Labels, table.Labels) {
			t.Errorf("the grid %d is %v after four quarters", side, turned)
		}
	}
}

// turn is what TurnTable should return, for a table that is valid.
func turn(table impl.Table, by complex64) (impl.Table, bool) {
	var r impl.Table
	for i, z := range table.Points {
		p := impl.MultiplyPoints(z, by)
		if !finitePoint(p) || placeOf(r.Points, p) >= 0 {
			return impl.Table{}, false
		}
		r.Points, r.Labels = append(r.Points, p), append(r.Labels, table.Labels[i])
	}
	return r, true
}

func TestP10TurnTable(t *testing.T) {
	turned, refused := 0, 0
	for _, table := range goodTables() {
		for _, x := range someParts(t) {
			for _, y := range someParts(t) {
				by := complex(x, y)
				want, wantOk := turn(table, by)
				r, ok := impl.TurnTable(table, by)
				if ok != wantOk || !sameTable(r, want) {
					t.Fatalf("TurnTable(%v, %g) = %v, %v; not %v", table, by, r, ok, want)
				}
				if ok {
					turned++
				} else {
					refused++
				}
			}
		}
	}
	if turned == 0 || refused == 0 {
		t.Errorf("%d were turned and %d refused", turned, refused)
	}
}

func TestP10TurnsOfNamedTables(t *testing.T) {
	zero := minusZero()
	for _, c := range []struct {
		table impl.Table
		by    complex64
		want  []complex64
	}{
		{tableOf(1, 2i), complex(0, 2), []complex64{2i, complex(-4, 0)}},
		{tableOf(0, 1), -1, []complex64{complex(zero, 0), -1}},
		{tableOf(3), 0, []complex64{0}}, {tableOf(0x1p-149), 0.5, []complex64{0}}, {tableOf(), complex(notANumber(), infinity(1)), nil},
		{tableOf(complex(greatest, greatest), complex(0, 1)), complex(0.5, 0.5), []complex64{complex(0, greatest), complex(-0.5, 0.5)}},
	} {
		want := impl.Table{Points: c.want, Labels: c.table.Labels}
		if r, ok := impl.TurnTable(c.table, c.by); !ok || !sameTable(r, want) {
			t.Errorf("TurnTable(%v, %g) = %v, %v; not %v", c.table, c.by, r, ok, want)
		}
	}
	for _, c := range []struct {
		table impl.Table
		by    complex64
	}{
		// Two points become equal, by their smallness or by rounding, or one is not finite any more.
		{tableOf(1, 2), 0}, {tableOf(1, -1), complex(zero, zero)}, {tableOf(0, 0x1p-149), 0.5}, {tableOf(0x1p-149, -0x1p-149), 0.5},
		{tableOf(complex(greatest, 0)), 2}, {tableOf(1, complex(greatest, greatest)), complex(1, 1)}, {tableOf(0), complex(infinity(1), 0)}, {tableOf(1, 2), complex(0, notANumber())},
		{tableOf(0x1.000002p0, 0x1.000004p0), 0x1p-140},
	} {
		if r, ok := impl.TurnTable(c.table, c.by); ok || !noTable(r) {
			t.Errorf("TurnTable(%v, %g) = %v, %v", c.table, c.by, r, ok)
		}
	}
}
