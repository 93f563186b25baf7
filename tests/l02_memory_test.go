package tests

import (
	"slices"
	"testing"

	"loop.example/g03223/impl"
)

// roomyTable returns t with room behind its points and labels, in which there is something, and a function that reports whether all is as it was.
func roomyTable(t impl.Table) (impl.Table, func() bool) {
	points, labels := slices.Concat(t.Points, []complex64{91, 92i, 93}), slices.Concat(t.Labels, []int{94, 95, 96})
	n, m := len(t.Points), len(t.Labels)
	whole, wholeLabels := slices.Clone(points), slices.Clone(labels)
	return impl.Table{Points: points[:n], Labels: labels[:m]}, func() bool {
		return slices.EqualFunc(points, whole, samePoint) && slices.Equal(labels, wholeLabels)
	}
}

// scribble writes all over a table, and over the room behind it.
func scribble(t impl.Table) {
	points, labels := t.Points[:cap(t.Points)], t.Labels[:cap(t.Labels)]
	for i := range points {
		points[i] = 1234
	}
	for i := range labels {
		labels[i] = 1234
	}
}

// tableFunctions are all functions that make a table of one, or of two.
func tableFunctions() map[string]func(a impl.Table, b impl.Table) (impl.Table, bool) {
	type table = impl.Table
	return map[string]func(a impl.Table, b impl.Table) (impl.Table, bool){
		"PutPoint of a point that is there": func(a table, b table) (table, bool) { return impl.PutPoint(a, -3, 7) },
		"PutPoint of another point":         func(a table, b table) (table, bool) { return impl.PutPoint(a, 300, 7) },
		"DropPoint of the first point":      func(a table, b table) (table, bool) { return impl.DropPoint(a, -3) },
		"DropPoint of the last point":       func(a table, b table) (table, bool) { return impl.DropPoint(a, a.Points[len(a.Points)-1]) },
		"TurnTable":                         func(a table, b table) (table, bool) { return impl.TurnTable(a, 1i) },
		"TurnTable by 1":                    func(a table, b table) (table, bool) { return impl.TurnTable(a, 1) },
		"MergeTables":                       impl.MergeTables,
		"MergeTables with no point":         func(a table, b table) (table, bool) { return impl.MergeTables(a, table{}) },
		"MergeTables of no point":           func(a table, b table) (table, bool) { return impl.MergeTables(table{}, b) },
		"MergeTables with itself":           func(a table, b table) (table, bool) { return impl.MergeTables(a, a) },
	}
}

func TestP10TablesShareNoMemory(t *testing.T) {
	for name, f := range tableFunctions() {
		for _, n := range []int{1, 2, 7, 40} {
			a, sameA := roomyTable(lineTable(n))
			b, sameB := roomyTable(tableOf(-3, 5, 6i, -2.75+1i))
			r, ok := f(a, b)
			if !ok || !sameA() || !sameB() {
				t.Errorf("%s of %d points: %v, %v; the arguments are as they were: %v, %v", name, n, r, ok, sameA(), sameB())
			}
			want := impl.Table{Points: slices.Clone(r.Points), Labels: slices.Clone(r.Labels)}
			again, _ := f(a, b)
			scribble(again)
			if !sameA() || !sameB() || !sameTable(r, want) {
				t.Errorf("%s of %d points: the result has memory of an argument, or of an earlier result", name, n)
			}
			scribble(a)
			scribble(b)
			if !sameTable(r, want) {
				t.Errorf("%s of %d points: an argument has memory of the result", name, n)
			}
		}
	}
}

func TestP10ListsShareNoMemory(t *testing.T) {
	table, same := roomyTable(lineTable(9))
	list := []complex64{1, 2i, 3, 71, 72}
	labels := []int{100, 98, 95, 71, 72}
	wholeList, wholeLabels := slices.Clone(list), slices.Clone(labels)
	decided, ok := impl.DecidePoints(table, list[:3])
	encoded, okToo := impl.EncodeLabels(table, labels[:3])
	if !ok || !okToo {
		t.Fatal("a list is refused")
	}
	scribble(impl.Table{Points: encoded, Labels: decided})
	if !same() || !slices.Equal(list, wholeList) || !slices.Equal(labels, wholeLabels) {
		t.Error("a list, or the table, is another one after its use")
	}
	first, second := grid(t, 3), grid(t, 3)
	scribble(first)
	if !sameTable(second, grid(t, 3)) {
		t.Error("two grids share memory")
	}
}

func TestP10OtherFunctionsLeaveTablesAlone(t *testing.T) {
	for _, made := range append(badTables(), goodTables()...) {
		table, same := roomyTable(made)
		other, sameOther := roomyTable(lineTable(3))
		impl.IsTable(table)
		impl.FindPoint(table, 1)
		impl.NearestPoint(table, 1)
		impl.PutPoint(table, 1, 1)
		impl.PutPoint(table, complex(notANumber(), 0), 1)
		impl.DropPoint(table, 1)
		impl.TurnTable(table, 0)
		impl.TurnTable(table, complex(infinity(1), 2))
		impl.MergeTables(table, other)
		impl.MergeTables(other, table)
		impl.DecidePoints(table, []complex64{1})
		impl.EncodeLabels(table, []int{1})
		if !same() || !sameOther() {
			t.Errorf("%v, or what is behind it, was changed", made)
		}
	}
}
