package tests

import (
	"slices"
	"strings"
	"testing"

	"loop.example/g03223/impl"
)

// rackTextOf is what FormatRack should return, for a rack that is valid.
func rackTextOf(r impl.Rack) string {
	text := ""
	for _, m := range r.Modules {
		text += moduleTextOf(m) + "\n"
	}
	for _, c := range r.Cables {
		text += "cable" + integersOf(c.From, c.To) + "\n"
	}
	return text
}

// rackIn is what ParseRack should return.
func rackIn(s string) (impl.Rack, bool) {
	r := impl.Rack{}
	for s != "" {
		line, rest, found := strings.Cut(s, "\n")
		if !found {
			return impl.Rack{}, false
		}
		s = rest
		list := partList{parts: strings.Split(line, " ")}
		if list.parts[0] == "cable" {
			r.Cables = append(r.Cables, impl.Cable{From: list.integer(1), To: list.integer(2)})
			if list.bad || len(list.parts) != 3 {
				return impl.Rack{}, false
			}
			continue
		}
		m, ok := moduleIn(line)
		if !ok || len(r.Cables) > 0 {
			return impl.Rack{}, false
		}
		r.Modules = append(r.Modules, m)
	}
	if !validRack(r) {
		return impl.Rack{}, false
	}
	return r, true
}

// checkRackText writes a valid rack, reads this, and writes it again.
func checkRackText(t *testing.T, r impl.Rack) {
	t.Helper()
	want := rackTextOf(r)
	if s := impl.FormatRack(r); s != want {
		t.Fatalf("FormatRack(%v) = %q, not %q", r, s, want)
	}
	back, ok := impl.ParseRack(want)
	if !ok || !sameRack(back, r) || !impl.IsRack(back) {
		t.Fatalf("ParseRack(%q) = %v, %v; not %v", want, back, ok, r)
	}
	if s := impl.FormatRack(back); s != want {
		t.Fatalf("FormatRack(%v) = %q, but %q was read", back, s, want)
	}
}

func TestP10TextsOfNamedRacks(t *testing.T) {
	sums := slices.Repeat([]impl.Module{impl.NewSum()}, 16)
	for _, c := range []struct {
		r impl.Rack
		s string
	}{
		{impl.Rack{}, ""}, {impl.Rack{Modules: []impl.Module{}, Cables: []impl.Cable{}}, ""}, {impl.Rack{Modules: sums[:1]}, "sum\n"}, {impl.Rack{Modules: sums[:3]}, "sum\nsum\nsum\n"}, {impl.Rack{Modules: sums}, strings.Repeat("sum\n", 16)},
		{impl.Rack{Modules: []impl.Module{impl.NewSource(1i, 1), impl.NewGain(2)}, Cables: cablesOf(0, 1)}, "source 0 1p0 1p0 0\ngain 1p1\ncable 0 1\n"},
		{impl.Rack{Modules: []impl.Module{impl.NewGain(2), impl.NewSource(1i, 1)}, Cables: cablesOf(1, 0)}, "gain 1p1\nsource 0 1p0 1p0 0\ncable 1 0\n"},
		// The cables stay in their order, also several ones between the same two modules.
		{impl.Rack{Modules: sums[:3], Cables: cablesOf(1, 2, 0, 2, 0, 1, 1, 2, 0, 2)}, "sum\nsum\nsum\ncable 1 2\ncable 0 2\ncable 0 1\ncable 1 2\ncable 0 2\n"}, {impl.Rack{Modules: sums[:2], Cables: slices.Repeat(cablesOf(0, 1), 40)}, "sum\nsum\n" + strings.Repeat("cable 0 1\n", 40)},
		{impl.Rack{Modules: sums, Cables: cablesOf(9, 10, 15, 14, 0, 15)}, strings.Repeat("sum\n", 16) + "cable 9 10\ncable 15 14\ncable 0 15\n"}, {impl.Rack{Modules: sums, Cables: slices.Repeat(cablesOf(15, 0), 40)}, strings.Repeat("sum\n", 16) + strings.Repeat("cable 15 0\n", 40)},
		{impl.Rack{Modules: []impl.Module{delayOf(0, 1, 2i)}, Cables: cablesOf(0, 0, 0, 0)}, "delay 0 1p0 0 0 1p1\ncable 0 0\ncable 0 0\n"}, {impl.Rack{Modules: []impl.Module{impl.NewSum(), delayOf(0, 0)}, Cables: cablesOf(0, 1, 1, 0)}, "sum\ndelay 0 0 0\ncable 0 1\ncable 1 0\n"},
	} {
		if s := impl.FormatRack(c.r); s != c.s {
			t.Errorf("FormatRack(%v) = %q, not %q", c.r, s, c.s)
		}
		if r, ok := impl.ParseRack(c.s); !ok || !sameRack(r, c.r) {
			t.Errorf("ParseRack(%q) = %v, %v; not %v", c.s, r, ok, c.r)
		}
		if r, ok := rackIn(c.s); !ok || !sameRack(r, c.r) {
			t.Errorf("the test reads %q as %v, %v", c.s, r, ok)
		}
	}
}

func TestP8RacksAreReadBack(t *testing.T) {
	for _, r := range append(manyRacks(), runRacks()...) {
		checkRackText(t, r)
	}
	for _, r := range smallRacks() {
		if validRack(r) {
			checkRackText(t, r)
		}
	}
}

func TestP8ModulesOfRacksAreReadBack(t *testing.T) {
	for _, m := range append(goodModules(), plainModules()...) {
		checkRackText(t, impl.Rack{Modules: []impl.Module{m}})
		checkRackText(t, withModules(rackOf("dg", 0, 1, 1, 0), m))
	}
	// A rack of the longest texts.
	longest := impl.Module{Kind: 6, Count: -1 << 63}
	for i := range 64 {
		longest.Table.Points = append(longest.Table.Points, complex(-0x1.fffffep-100, 0x1.fffffep-100+float32(i)))
		longest.Table.Labels = append(longest.Table.Labels, -1<<63+i)
	}
	checkRackText(t, impl.Rack{Modules: slices.Repeat([]impl.Module{longest}, 16), Cables: slices.Repeat(cablesOf(15, 10), 40)})
}

func TestP10TextsOfRacksThatAreNotValid(t *testing.T) {
	for _, r := range badRacks() {
		if s := impl.FormatRack(r); s != "" {
			t.Fatalf("FormatRack(%v) = %q", r, s)
		}
	}
	for _, m := range badModules() {
		if s := impl.FormatRack(impl.Rack{Modules: []impl.Module{m}}); s != "" {
			t.Fatalf("FormatRack of a rack with %v is %q", m, s)
		}
	}
}
