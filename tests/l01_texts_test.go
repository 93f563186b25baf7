package tests

import (
	"math"
	"strconv"
	"strings"
	"testing"

	"loop.example/g03223/impl"
)

// textOf finds the text of a finite number from the one that strconv writes, in which m may be even.
func textOf(x float32) string {
	sign := ""
	if math.Signbit(float64(x)) {
		sign = "-"
	}
	if x == 0 {
		return sign + "0"
	}
	digits, power, _ := strings.Cut(strconv.FormatFloat(math.Abs(float64(x)), 'b', -1, 32), "p")
	m, _ := strconv.Atoi(digits)
	e, _ := strconv.Atoi(power)
	for m%2 == 0 {
		m, e = m/2, e+1
	}
	return sign + strconv.Itoa(m) + "p" + strconv.Itoa(e)
}

func TestP10TextsOfNamedNumbers(t *testing.T) {
	for _, c := range []struct {
		x float32
		s string
	}{
		{0, "0"}, {minusZero(), "-0"}, {1, "1p0"}, {-1, "-1p0"}, {2, "1p1"}, {6, "3p1"}, {10, "5p1"}, {-0.75, "-3p-2"},
		{0.1, "13421773p-27"}, {16777215, "16777215p0"}, {16777216, "1p24"}, {1 + 0x1p-23, "8388609p-23"},
		{0x1p-149, "1p-149"}, {-0x1p-149, "-1p-149"}, {0x1p-148, "1p-148"}, {0x3p-149, "3p-149"},
		{0x1p-126 - 0x1p-149, "8388607p-149"}, {0x1p-126, "1p-126"}, {0x1p-126 + 0x1p-149, "8388609p-149"},
		{0x1p127, "1p127"}, {math.MaxFloat32, "16777215p104"}, {-math.MaxFloat32, "-16777215p104"},
	} {
		if s := impl.FormatSingle(c.x); s != c.s {
			t.Errorf("FormatSingle(%g) = %q, not %q", c.x, s, c.s)
		}
		if x, ok := impl.ParseSingle(c.s); !ok || !sameSingle(x, c.x) {
			t.Errorf("ParseSingle(%q) = %g, %v; not %g", c.s, x, ok, c.x)
		}
	}
	for _, x := range notFinite() {
		if s := impl.FormatSingle(x); s != "" {
			t.Errorf("FormatSingle(%g) = %q", x, s)
		}
	}
}

func TestP2TextsAreReadBack(t *testing.T) {
	for _, x := range someSingles(t) {
		s := impl.FormatSingle(x)
		if s != textOf(x) {
			t.Fatalf("FormatSingle(%g) = %q, not %q", x, s, textOf(x))
		}
		back, ok := impl.ParseSingle(s)
		if !ok || math.Float32bits(back) != math.Float32bits(x) {
			t.Fatalf("ParseSingle(%q) = %g, %v; not %g", s, back, ok, x)
		}
	}
}

func TestP2TextsOfAllPowers(t *testing.T) {
	for e := -160; e <= 140; e++ {
		for _, m := range []int{1, 3, 5, 8388607, 8388609, 16777215} {
			want := math.Ldexp(float64(m), e)
			fits := e >= -149 && want <= math.MaxFloat32
			for _, sign := range []string{"", "-"} {
				s := sign + strconv.Itoa(m) + "p" + strconv.Itoa(e)
				x, ok := impl.ParseSingle(s)
				if ok != fits || fits && math.Abs(float64(x)) != want || fits && (x < 0) != (sign == "-") {
					t.Errorf("ParseSingle(%q) = %g, %v", s, x, ok)
				}
				if !ok && !sameSingle(x, 0) {
					t.Errorf("ParseSingle(%q) fails with %g", s, x)
				}
			}
		}
	}
}

func TestP10TextsOfNoNumber(t *testing.T) {
	for _, s := range []string{
		"", "-", "p", "-p", "1", "-1", "1p", "-1p", "p0", "-p0", "1p-", "--1p0", "1p--1", "-0p0", "0p0", "0p1", "00", "--0", "+0", "0.0", "-00",
		"2p0", "-2p0", "4p-149", "16777214p0", "10p1", "16777216p0",
		"01p0", "001p0", "-01p0", "1p00", "1p01", "1p-01", "1p-0", "1p+0", "1p+1", "+1p0", "-+1p0", "+-1p0",
		" 1p0", "1p0 ", "1 p0", "1p 0", "1p0\n", "\t1p0", "1p0\x00", "0 ", " 0", "- 1p0",
		"1P0", "1e0", "1.0p0", "1.p0", "1p0.", "1p0p0", "1pp0", "1p0x", "1_1p0", "1p1_0", "0x1p0", "0b1p0", "1,1p0", "١p0", "1p٣", "１p0", "\xff", "1\xffp0", "1p0\xff", "−1p0",
		"16777217p0", "16777219p0", "33554431p-1", "16777217p-149", "4294967297p0", "9223372036854775807p0", "9223372036854775809p0",
		"18446744073709551617p0", "340282366920938463463374607431768211457p0",
		"1p128", "3p127", "5p126", "16777215p105", "1p-150", "3p-150", "1p200", "1p-1000", "1p4294967296", "1p-4294967296",
		"1p9223372036854775807", "3p9223372036854775807", "1p-9223372036854775808", "1p9223372036854775808", "1p18446744073709551616", "1p-18446744073709551616",
		"1p" + strings.Repeat("0", 1000), strings.Repeat("9", 1000) + "p0", "1p-" + strings.Repeat("9", 1000),
		"nan", "NaN", "inf", "-inf", "Inf", "+Inf", "infinity", "1", "0.1", "1e-3", "number",
	} {
		if x, ok := impl.ParseSingle(s); ok || !sameSingle(x, 0) {
			t.Errorf("ParseSingle(%q) = %g, %v", s, x, ok)
		}
	}
}

func TestP10TextsWithAnythingChanged(t *testing.T) {
	// Whatever is read is the text of what it is read as: nothing else is.
	for _, text := range []string{"0", "-0", "1p0", "-3p-2", "16777215p104", "8388609p-149", "13421773p-27"} {
		for i := 0; i <= len(text); i++ {
			for b := 0; b < 256; b++ {
				changed := []string{text[:i] + string([]byte{byte(b)}) + text[i:]}
				if i < len(text) {
					changed = append(changed, text[:i]+string([]byte{byte(b)})+text[i+1:], text[:i]+text[i+1:])
				}
				for _, s := range changed {
					x, ok := impl.ParseSingle(s)
					if ok && textOf(x) != s || !ok && !sameSingle(x, 0) {
						t.Fatalf("ParseSingle(%q) = %g, %v", s, x, ok)
					}
				}
			}
		}
	}
}
