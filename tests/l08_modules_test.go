package tests

import (
	"math"
	"math/rand/v2"
	"regexp"
	"strconv"
	"strings"
	"testing"

	"loop.example/g03223/impl"
)

// numberTextOf is textOf for all numbers.
func numberTextOf(x float32) string {
	switch {
	case x != x:
		return "nan"
	case x > greatest:
		return "inf"
	case x < -greatest:
		return "-inf"
	}
	return textOf(x)
}

func partsOf(list ...complex64) string {
	text := ""
	for _, z := range list {
		text += " " + numberTextOf(real(z)) + " " + numberTextOf(imag(z))
	}
	return text
}

func integersOf(list ...int) string {
	text := ""
	for _, n := range list {
		text += " " + strconv.FormatInt(int64(n), 10)
	}
	return text
}

// moduleTextOf is what FormatModule should return, for a module that is valid.
func moduleTextOf(m impl.Module) string {
	switch m.Kind {
	case 1:
		return "source" + partsOf(m.Turn, m.State)
	case 2:
		return "mixer" + partsOf(m.Turn, m.State)
	case 3:
		return "gain " + numberTextOf(m.Level)
	case 4:
		return "delay" + integersOf(m.Ring.At) + partsOf(m.Ring.Store...)
	case 5:
		return "sum"
	case 6:
		text := "slicer" + integersOf(m.Count)
		for i, z := range m.Table.Points {
			text += partsOf(z) + integersOf(m.Table.Labels[i])
		}
		return text
	case 7:
		return "meter " + numberTextOf(m.Level)
	}
	return "hold" + integersOf(m.Count, m.Left) + partsOf(m.State)
}

var numberPattern = regexp.MustCompile(`^(-?)([1-9][0-9]*)p(0|-?[1-9][0-9]*)$`)
var integerPattern = regexp.MustCompile(`^(0|-?[1-9][0-9]*)$`)

// numberIn is the number with this text: m times 2^e is looked for in double precision, where it is exact.
func numberIn(s string) (float32, bool) {
	for _, x := range []float32{0, minusZero(), notANumber(), infinity(1), infinity(-1)} {
		if s == numberTextOf(x) {
			return x, true
		}
	}
	found := numberPattern.FindStringSubmatch(s)
	if found == nil {
		return 0, false
	}
	m, errM := strconv.ParseInt(found[2], 10, 32)
	e, errE := strconv.ParseInt(found[3], 10, 32)
	if errM != nil || errE != nil || m%2 == 0 || m >= 1<<24 || e < -149 || e > 127 {
		return 0, false
	}
	x := math.Ldexp(float64(m), int(e))
	if found[1] == "-" {
		x = -x
	}
	return float32(x), math.Abs(x) <= float64(greatest)
}

func integerIn(s string) (int, bool) {
	n, err := strconv.ParseInt(s, 10, 64)
	return int(n), err == nil && integerPattern.MatchString(s)
}

// partList reads parts by their places. After a part that is none, or is not there, bad is true.
type partList struct {
	parts []string
	bad   bool
}

func (p *partList) part(k int) string {
	if k >= len(p.parts) {
		p.bad = true
		return ""
	}
	return p.parts[k]
}

func (p *partList) integer(k int) int {
	n, ok := integerIn(p.part(k))
	p.bad = p.bad || !ok
	return n
}

func (p *partList) number(k int) float32 {
	x, ok := numberIn(p.part(k))
	p.bad = p.bad || !ok
	return x
}

func (p *partList) point(k int) complex64 { return complex(p.number(k), p.number(k+1)) }

// moduleIn is what ParseModule should return.
func moduleIn(s string) (impl.Module, bool) {
	list := strings.Split(s, " ")
	p := partList{parts: list}
	m, size := impl.Module{}, 0
	switch list[0] {
	case "source":
		m, size = impl.Module{Kind: 1, Turn: p.point(1), State: p.point(3)}, 5
	case "mixer":
		m, size = impl.Module{Kind: 2, Turn: p.point(1), State: p.point(3)}, 5
	case "gain":
		m, size = impl.Module{Kind: 3, Level: p.number(1)}, 2
	case "delay":
		m, size = impl.Module{Kind: 4, Ring: impl.Ring{At: p.integer(1)}}, len(list)
		for k := 2; k < len(list); k += 2 {
			m.Ring.Store = append(m.Ring.Store, p.point(k))
			m.Ring.Count++
		}
	case "sum":
		m, size = impl.Module{Kind: 5}, 1
	case "slicer":
		m, size = impl.Module{Kind: 6, Count: p.integer(1)}, len(list)
		for k := 2; k < len(list); k += 3 {
			m.Table.Points = append(m.Table.Points, p.point(k))
			m.Table.Labels = append(m.Table.Labels, p.integer(k+2))
		}
	case "meter":
		m, size = impl.Module{Kind: 7, Level: p.number(1)}, 2
	case "hold":
		m, size = impl.Module{Kind: 8, Count: p.integer(1), Left: p.integer(2), State: p.point(3)}, 5
	}
	if p.bad || len(list) != size || !validModule(m) {
		return impl.Module{}, false
	}
	return m, true
}

// checkModuleText writes a valid module, reads this, and writes it again.
func checkModuleText(t *testing.T, m impl.Module) {
	t.Helper()
	want := moduleTextOf(m)
	if s := impl.FormatModule(m); s != want {
		t.Fatalf("FormatModule(%v) = %q, not %q", m, s, want)
	}
	back, ok := impl.ParseModule(want)
	if !ok || !sameModule(back, m) || !impl.IsModule(back) {
		t.Fatalf("ParseModule(%q) = %v, %v; not %v", want, back, ok, m)
	}
	if s := impl.FormatModule(back); s != want {
		t.Fatalf("FormatModule(%v) = %q, but %q was read", back, s, want)
	}
}

func TestP10TextsOfNamedModules(t *testing.T) {
	inf, nan, zero, least := infinity(1), notANumber(), minusZero(), float32(0x1p-149)
	nans := []float32{math.Float32frombits(0x7f800001), math.Float32frombits(0xff800001), math.Float32frombits(0xffffffff)}
	type module = impl.Module
	for _, c := range []struct {
		m impl.Module
		s string
	}{
		{impl.NewSource(1i, 1), "source 0 1p0 1p0 0"}, {module{Kind: 1}, "source 0 0 0 0"}, {impl.NewSource(complex(0.5, -3), complex(-0.75, 10)), "source 1p-1 -3p0 -3p-2 5p1"}, {impl.NewSource(complex(zero, 0), complex(0, zero)), "source -0 0 0 -0"},
		{impl.NewSource(complex(nan, inf), complex(-inf, zero)), "source nan inf -inf -0"}, {impl.NewSource(complex(greatest, -greatest), complex(least, -least)), "source 16777215p104 -16777215p104 1p-149 -1p-149"}, {impl.NewSource(complex(nans[0], nans[1]), complex(nans[2], 3*least)), "source nan nan nan 3p-149"},
		{impl.NewMixer(1i), "mixer 0 1p0 1p0 0"}, {module{Kind: 2}, "mixer 0 0 0 0"}, {module{Kind: 2, Turn: complex(1, zero), State: complex(0x1p-126, -0x1.fffffcp-127)}, "mixer 1p0 -0 1p-126 -8388607p-149"}, {module{Kind: 2, Turn: complex(-inf, nan), State: complex(nan, inf)}, "mixer -inf nan nan inf"},
		{impl.NewGain(0.5), "gain 1p-1"}, {impl.NewGain(0), "gain 0"}, {impl.NewGain(zero), "gain -0"}, {impl.NewGain(inf), "gain inf"}, {impl.NewGain(-inf), "gain -inf"}, {impl.NewGain(nan), "gain nan"}, {impl.NewGain(nans[1]), "gain nan"}, {impl.NewGain(-least), "gain -1p-149"}, {impl.NewGain(0.1), "gain 13421773p-27"}, {impl.NewGain(-greatest), "gain -16777215p104"}, {impl.NewGain(6), "gain 3p1"},
		// The store is written from its first index on, not from the oldest sample on.
		{delayOf(0, 0), "delay 0 0 0"}, {delayOf(0, complex(zero, zero)), "delay 0 -0 -0"}, {delayOf(0, complex(inf, nan)), "delay 0 inf nan"}, {module{Kind: 4, Ring: impl.Ring{Store: samples(1, 2i, -3), At: 0, Count: 3}}, "delay 0 1p0 0 0 1p1 -3p0 0"},
		{module{Kind: 4, Ring: impl.Ring{Store: samples(1, 2i, -3), At: 1, Count: 3}}, "delay 1 1p0 0 0 1p1 -3p0 0"}, {module{Kind: 4, Ring: impl.Ring{Store: samples(1, 2i, -3), At: 2, Count: 3}}, "delay 2 1p0 0 0 1p1 -3p0 0"},
		{delayOf(15, make([]complex64, 16)...), "delay 15" + strings.Repeat(" 0 0", 16)}, {delayOf(7, make([]complex64, 16)...), "delay 7" + strings.Repeat(" 0 0", 16)}, {delayOf(0, make([]complex64, 16)...), "delay 0" + strings.Repeat(" 0 0", 16)},
		{impl.NewSum(), "sum"}, {module{Kind: 5, Ring: impl.Ring{Store: []complex64{}}, Table: impl.Table{Points: []complex64{}, Labels: []int{}}}, "sum"},
		{module{Kind: 6}, "slicer 0"}, {slicerOf(-1), "slicer -1"}, {module{Kind: 6, Count: math.MaxInt}, "slicer 9223372036854775807"}, {module{Kind: 6, Count: math.MinInt}, "slicer -9223372036854775808"}, {module{Kind: 6, Count: 10}, "slicer 10"},
		{module{Kind: 6, Count: 7, Table: impl.Table{Points: samples(1 - 2i), Labels: []int{-5}}}, "slicer 7 1p0 -1p1 -5"}, {module{Kind: 6, Count: -1, Table: impl.Table{Points: samples(complex(zero, least), complex(greatest, zero)), Labels: []int{0, 0}}}, "slicer -1 -0 1p-149 0 16777215p104 -0 0"},
		{module{Kind: 6, Table: impl.Table{Points: samples(3, 1, 2), Labels: []int{math.MinInt, 0, math.MaxInt}}}, "slicer 0 3p0 0 -9223372036854775808 1p0 0 0 1p1 0 9223372036854775807"},
		{impl.NewMeter(), "meter 0"}, {module{Kind: 7, Level: inf}, "meter inf"}, {module{Kind: 7, Level: least}, "meter 1p-149"}, {module{Kind: 7, Level: greatest}, "meter 16777215p104"}, {module{Kind: 7, Level: 2.5}, "meter 5p-1"},
		{module{Kind: 8, Count: 1}, "hold 1 0 0 0"}, {module{Kind: 8, Count: 100, Left: 99, State: 1}, "hold 100 99 1p0 0"}, {module{Kind: 8, Count: 5, Left: 3, State: complex(nan, -7)}, "hold 5 3 nan -7p0"}, {module{Kind: 8, Count: 2, State: complex(zero, -inf)}, "hold 2 0 -0 -inf"},
	} {
		if s := impl.FormatModule(c.m); s != c.s {
			t.Errorf("FormatModule(%v) = %q, not %q", c.m, s, c.s)
		}
		if m, ok := impl.ParseModule(c.s); !ok || !sameModule(m, c.m) {
			t.Errorf("ParseModule(%q) = %v, %v; not %v", c.s, m, ok, c.m)
		}
		if m, ok := moduleIn(c.s); !ok || !sameModule(m, c.m) {
			t.Errorf("the test reads %q as %v, %v", c.s, m, ok)
		}
	}
}

func TestP8ModulesAreReadBack(t *testing.T) {
	for _, m := range append(goodModules(), plainModules()...) {
		checkModuleText(t, m)
	}
	for count := 1; count <= 100; count++ {
		for left := range count {
			checkModuleText(t, impl.Module{Kind: 8, Count: count, Left: left, State: complex(float32(left), minusZero())})
		}
	}
}

// TestP8NewModulesAreReadBack has modules as they are made, not written out.
func TestP8NewModulesAreReadBack(t *testing.T) {
	checkModuleText(t, impl.NewSum())
	checkModuleText(t, impl.NewMeter())
	for _, z := range samplesOfAllSorts() {
		checkModuleText(t, impl.NewSource(z, z))
		checkModuleText(t, impl.NewMixer(z))
		checkModuleText(t, impl.NewGain(real(z)))
	}
	for n := 1; n <= 100; n++ {
		hold, _ := impl.NewHold(n)
		checkModuleText(t, hold)
		if delay, ok := impl.NewDelay(n); ok {
			checkModuleText(t, delay)
		}
		if grid, ok := impl.GridTable(n); ok {
			slicer, _ := impl.NewSlicer(grid)
			checkModuleText(t, slicer)
		}
	}
}

// TestP8StepsAreReadBack steps what was written and read, beside what was not.
func TestP8StepsAreReadBack(t *testing.T) {
	choice := rand.New(rand.NewPCG(41, 42))
	sorts := samplesOfAllSorts()
	for i, m := range append(plainModules(), goodModules()...) {
		if i > 400 && i%7 != 0 {
			continue
		}
		read := m
		for range 6 {
			z := sorts[choice.IntN(len(sorts))]
			if choice.IntN(3) > 0 {
				z = complex(choice.Float32()-0.5, 4*choice.Float32())
			}
			next, out, ok := impl.StepModule(m, z)
			other, outToo, okToo := impl.StepModule(read, z)
			if !ok || !okToo || !samePoint(out, outToo) || !sameModule(next, other) {
				t.Fatalf("%v becomes %v by a step, and gives %g; but %v becomes %v, and gives %g", m, next, out, read, other, outToo)
			}
			checkModuleText(t, next)
			m = next
			read, _ = impl.ParseModule(impl.FormatModule(other))
		}
	}
}

// TestP8NumbersAreReadBack has numbers from all over the range, in all places where a module has numbers.
func TestP8NumbersAreReadBack(t *testing.T) {
	for i, x := range append(someSingles(t), notFinite()...) {
		z, y := complex(x, float32(i%7)-3), complex(minusZero(), x)
		checkModuleText(t, impl.NewGain(x))
		if i%20 > 0 && i > 1000 {
			continue
		}
		checkModuleText(t, impl.NewSource(z, y))
		checkModuleText(t, impl.Module{Kind: 2, Turn: y, State: z})
		checkModuleText(t, delayOf(1, z, y, 1, z))
		checkModuleText(t, impl.Module{Kind: 8, Count: 3, Left: 1, State: y})
		if x > 0 {
			checkModuleText(t, impl.Module{Kind: 7, Level: x})
		}
		if finitePoint(z) {
			checkModuleText(t, slicerOf(-i, z, complex(5, x)))
		}
	}
}

// TestP8IntegersAreReadBack has integers of all lengths, in all places where a module may have any integer.
func TestP8IntegersAreReadBack(t *testing.T) {
	for k := range 64 {
		for n := range 5 {
			for _, label := range []int{1<<k + n - 2, 2 - n - 1<<k, 3<<k - n, math.MaxInt>>k - n, math.MinInt>>k + n} {
				checkModuleText(t, impl.Module{Kind: 6, Count: label})
				checkModuleText(t, impl.Module{Kind: 6, Count: -label, Table: impl.Table{Points: samples(1, 2i, 3), Labels: []int{label, ^label, label}}})
			}
		}
	}
	for _, power := range []int{10, 100, 1000, 1e9, 1e10, 1e18} {
		for _, label := range []int{power - 1, power, power + 1} {
			checkModuleText(t, impl.Module{Kind: 6, Count: label, Table: impl.Table{Points: samples(1), Labels: []int{-label}}})
		}
	}
}

func TestP10TextsOfModulesThatAreNotValid(t *testing.T) {
	for _, m := range badModules() {
		if s := impl.FormatModule(m); s != "" {
			t.Fatalf("FormatModule(%v) = %q", m, s)
		}
	}
}
