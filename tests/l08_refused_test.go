package tests

import (
	"slices"
	"strings"
	"testing"

	"loop.example/g03223/impl"
)

// checkReadModule gives any text to ParseModule, and reports whether it is the text of a module.
func checkReadModule(t *testing.T, s string) bool {
	t.Helper()
	want, wantOK := moduleIn(s)
	m, ok := impl.ParseModule(s)
	if ok != wantOK || !sameModule(m, want) {
		t.Fatalf("ParseModule(%q) = %v, %v; not %v, %v", s, m, ok, want, wantOK)
	}
	if ok && impl.FormatModule(m) != s {
		t.Fatalf("ParseModule(%q) = %v, the text of which is %q", s, m, impl.FormatModule(m))
	}
	return ok
}

func checkReadRack(t *testing.T, s string) bool {
	t.Helper()
	want, wantOK := rackIn(s)
	r, ok := impl.ParseRack(s)
	if ok != wantOK || !sameRack(r, want) {
		t.Fatalf("ParseRack(%q) = %v, %v; not %v, %v", s, r, ok, want, wantOK)
	}
	if ok && impl.FormatRack(r) != s {
		t.Fatalf("ParseRack(%q) = %v, the text of which is %q", s, r, impl.FormatRack(r))
	}
	return ok
}

// checkNoModule has texts that are none of a module, and none of a rack with it between two others.
func checkNoModule(t *testing.T, texts ...string) {
	t.Helper()
	for _, s := range texts {
		if m, ok := impl.ParseModule(s); ok || !noModule(m) || checkReadModule(t, s) {
			t.Fatalf("ParseModule(%q) = %v, %v", s, m, ok)
		}
		if !strings.Contains(s, "\n") {
			checkNoRack(t, "sum\n"+s+"\nsum\n", "sum\n"+s+"\ncable 0 0\n")
			if s != "" {
				checkNoRack(t, s, s+"\n")
			}
		}
	}
}

func checkNoRack(t *testing.T, texts ...string) {
	t.Helper()
	for _, s := range texts {
		if r, ok := impl.ParseRack(s); ok || !noRack(r) || checkReadRack(t, s) {
			t.Fatalf("ParseRack(%q) = %v, %v", s, r, ok)
		}
	}
}

func TestP8WordsOfNoModule(t *testing.T) {
	checkNoModule(t,
		"", " ", "  ", "\n", "\t", "\x00", "0", "1p0", "nan", "5", "module", "rack", "cable", "cable 0 1", "cable 0 0", "summ", "su", "s", "um", "sums", "sum.", "sum,", "sum;", "su m", "delays 0 0 0", "dela 0 0 0", "gains 1p0", "gain1p0", "hold1 0 0 0", "slicers 0", "limiter 1p0", "lag 0", "tap", "out", "none",
		"KindSum", "impl.Sum", "5 sum", "sum 5", "ok", "no", "undo",
		// The words in capitals, or with other letters that look like theirs.
		"SUM", "Sum", "sUM", "suM", "GAIN 1p0", "Gain 1p0", "SOURCE 0 0 0 0", "Source 0 0 0 0", "MIXER 0 0 0 0", "Mixer 0 0 0 0", "DELAY 0 0 0", "Delay 0 0 0", "SLICER 0", "Slicer 0", "METER 0", "Meter 0", "HOLD 1 0 0 0", "Hold 1 0 0 0", "ѕum", "ſum", "ｓum", "sùm", "süm", "mi×er 0 0 0 0", "ﬁ 0", "gaın 1p0", "gaİn 1p0",
		// Bytes that are no UTF-8, before, in and behind them.
		"\xffsum", "s\xffum", "sum\xff", "\xc3sum", "sum\xc3", "s\xc3\x28m", "\xed\xa0\x80", "sum\xed\xa0\x80", "\xf5\x80\x80\x80sum", "sum\x80", "\xe2\x80sum", "\xff\xfe", "gain\xff1p0", "gain \xff1p0", "gain 1p0\xff", "gain \xff", "gain 1\xffp0", "gain 1p\xff0", "slicer \xff0", "slicer 0\xff", "slicer 0 \xff", "hold 1 0 0\xff 0", "delay 0 0 0\xc3",
	)
}

func TestP8PartsTooFewAndTooMany(t *testing.T) {
	checkNoModule(t,
		"source", "source 0", "source 0 0", "source 0 0 0", "source 0 0 0 0 0", "source 0 0 0 0 0 0", "source 1p0 1p0 1p0 1p0 sum", "mixer", "mixer 0", "mixer 0 0", "mixer 0 0 0", "mixer 0 0 0 0 0", "mixer 0 0 0 0 0 0",
		"gain", "gain 1p0 1p0", "gain 1p0 0", "gain 0 0", "gain nan nan", "meter", "meter 1p0 1p0", "meter 0 0", "sum 0", "sum 1p0", "sum sum", "sum 0 0",
		"delay", "delay 0", "delay 1", "delay 0 0", "delay 0 0 0 0", "delay 1 0 0 0", "delay 0 0 0 0 0 0", "delay 0"+strings.Repeat(" 0", 15), "delay 0"+strings.Repeat(" 0", 31), "delay 0"+strings.Repeat(" 0", 33), "delay 0"+strings.Repeat(" 0 0", 17), "delay 0"+strings.Repeat(" 0 0", 18), "delay 16"+strings.Repeat(" 0 0", 17),
		"slicer", "slicer 0 0", "slicer 0 0 0", "slicer 0 1p0 0", "slicer 0 1p0 0 5 1p1", "slicer 0 1p0 0 5 1p1 0", "slicer 0 1p0 0 5 5", "slicer 0 5", "slicer 1p0 0 5", "slicer 0 0 1p0 0 5", "slicer 0 1p0 0 5 0 0",
		"hold", "hold 1", "hold 1 0", "hold 1 0 0", "hold 1 0 0 0 0", "hold 5 3 1p0", "hold 5 3 1p0 0 0", "hold 5 1p0 0", "hold 5 3 0 1p0 0",
	)
}

func TestP8SpacesTabsAndNewlines(t *testing.T) {
	for _, text := range []string{"source 0 1p0 1p0 0", "mixer nan inf -inf -0", "gain 1p-1", "delay 1 0 0 1p0 -3p1", "sum", "slicer -1", "slicer 7 1p0 -1p1 -5 0 0 0", "meter inf", "hold 5 3 0 -7p0"} {
		if !checkReadModule(t, text) {
			t.Fatalf("%q is not read", text)
		}
		for _, c := range []string{" ", "\t", "\n", "\r", "\r\n", "\v", "\f", "\x00", "\u00a0", "\u2003", "\u3000", "\ufeff", "\u200b", "\u2028", "\x85", "  ", " \n", "\xff"} {
			checkNoModule(t, c+text, text+c, c+text+c)
			for i, b := range []byte(text) {
				if b == ' ' {
					checkNoModule(t, text[:i]+" "+c+text[i+1:], text[:i]+c+" "+text[i+1:])
					if c != " " {
						checkNoModule(t, text[:i]+c+text[i+1:])
					}
				}
			}
			for i := 1; i < len(text); i++ {
				checkReadModule(t, text[:i]+c+text[i:])
			}
		}
	}
}

// oddIntegerTexts are not the text of any integer.
func oddIntegerTexts() []string {
	return []string{
		"", "-", "+", "--1", "00", "-0", "-00", "+0", "000", "01", "007", "-01", "-007", "+1", "+5", "++1", "-+1", "+-1", "1-", "1+", "0x1", "0X1", "0b1", "0o1", "1_0", "1_000", "1,000", "1.0", "1.", ".1", "1e0", "1e3", "1p0", "3p1", "0p0", "1p", "p", "a", "A", "1a", "a1", "nan", "inf", "-inf", "NaN", "true", "nil", "none", "'1'", "\"1\"", "1\x00", "\x001", "1\xff", "\xff",
		"١", "１", "²", "१", "−1", "–1", "½", "Ⅳ", "1\u0301",
		"9223372036854775808", "9223372036854775809", "-9223372036854775809", "-9223372036854775810", "9999999999999999999", "-9999999999999999999", "10000000000000000000", "18446744073709551615", "18446744073709551616", "18446744073709551617", "-18446744073709551616", "-18446744073709551615", "92233720368547758070", "340282366920938463463374607431768211456", "340282366920938463463374607431768211457",
		"01" + strings.Repeat("0", 100), strings.Repeat("0", 100), strings.Repeat("0", 100) + "1", "1" + strings.Repeat("0", 100), "-1" + strings.Repeat("0", 100), strings.Repeat("9", 1000), "-" + strings.Repeat("9", 1000),
	}
}

func TestP8IntegersThatAreNotWrittenSo(t *testing.T) {
	for _, n := range oddIntegerTexts() {
		checkNoModule(t, "slicer "+n, "slicer "+n+" 1p0 0 5", "slicer 0 1p0 0 "+n, "slicer 0 1p0 0 5 1p1 0 "+n, "slicer 0 1p0 0 "+n+" 1p1 0 5", "delay "+n+" 0 0", "delay "+n+" 0 0 0 0", "hold "+n+" 0 0 0", "hold 5 "+n+" 0 0", "hold 50 "+n+" 1p0 1p0")
		checkNoRack(t, "sum\nsum\ncable "+n+" 1\n", "sum\nsum\ncable 0 "+n+"\n", "sum\nsum\nsum\ncable 0 1\ncable "+n+" 2\n", "sum\nsum\nsum\ncable 0 "+n+"\ncable 0 1\n")
	}
}

// oddNumberTexts are not the text of any number of single precision.
func oddNumberTexts() []string {
	return []string{
		"", "-", "+", "1", "-1", "2", "10", "00", "-00", "+0", "--0", "0.0", "-0.0", "0p0", "-0p0", "0p1", "0.5", "1.0", "1e0", "1e5", "0x1p0", "-0x1p0", "0x1", "1P0", "p", "p0", "-p0", "1p", "-1p", "1p-", "1p+0", "1p+1", "1p-0", "1p00", "1p01", "1p-01", "01p0", "001p0", "-01p0", "+1p0", "+-1p0", "-+1p0", "--1p0", "1p--1", "1p0p0", "1pp0", "1.0p0", "1.p0", "1p0.", "1p0.0", "1p1_0", "1_1p0", "1,1p0", "1p0i", "1p0f", "1p0x", "i", "0i", "1i",
		// m is even.
		"2p0", "-2p0", "2p-1", "4p-149", "10p0", "16777214p0", "16777216p0", "-16777216p0", "16777216p104", "8388608p-149", "6p1", "1000000p0",
		// Too great, too small, or with too many digits.
		"1p128", "-1p128", "3p127", "5p126", "16777215p105", "-16777215p105", "16777217p104", "1p129", "1p1000", "1p100000", "1p9223372036854775807", "1p9223372036854775808", "1p18446744073709551616", "1p-150", "-1p-150", "3p-150", "16777215p-150", "1p-151", "1p-1000", "1p-1074", "1p-1100", "1p-100000", "1p-9223372036854775808", "1p-9223372036854775809", "16777217p0", "-16777217p0", "16777219p-10", "33554431p-1", "4294967297p0", "9007199254740993p0", "9223372036854775807p0", "9223372036854775809p0", "18446744073709551617p0", "340282366920938463463374607431768211457p0", strings.Repeat("9", 1000) + "p0", "1p" + strings.Repeat("9", 1000), "1p-" + strings.Repeat("9", 1000), "1p" + strings.Repeat("0", 100), strings.Repeat("0", 100) + "1p0",
		// NaN and infinity, written in other ways.
		"NaN", "NAN", "Nan", "nAN", "naN", "-nan", "+nan", "-NaN", "nan0", "nan(0)", "nans", "na", "n", "snan", "qnan", "Inf", "INF", "iNF", "+inf", "+Inf", "-Inf", "-INF", "--inf", "-+inf", "+-inf", "- inf", "infinity", "Infinity", "-infinity", "in", "infp0", "1pinf", "nanp0", "1pnan", "inf0", "0inf", "-", "∞", "-∞", "−inf", "1.#INF", "ınf", "nan\x00", "inf\xff",
		"١p0", "1p١", "１p0", "1ｐ0", "−1p0", "1p−1", "\xff", "1\xffp0", "1p\xff", "1p0\xff", "1p0\x00", "1p0\u0301", "½",
	}
}

func TestP8NumbersThatAreNotWrittenSo(t *testing.T) {
	for _, x := range oddNumberTexts() {
		checkNoModule(t,
			"source "+x+" 0 0 0", "source 0 "+x+" 0 0", "source 0 0 "+x+" 0", "source 0 0 0 "+x, "mixer "+x+" 1p0 nan inf", "mixer -0 "+x+" nan inf", "mixer -0 1p0 "+x+" inf", "mixer -0 1p0 nan "+x,
			"gain "+x, "meter "+x, "hold 5 3 "+x+" 0", "hold 5 3 0 "+x, "delay 0 "+x+" 0", "delay 0 0 "+x, "delay 1 0 0 "+x+" 0", "delay 1 0 0 0 "+x+"", "delay 1 0 "+x+" 0 0", "slicer 0 "+x+" 0 5", "slicer 0 0 "+x+" 5", "slicer 0 1p0 0 5 "+x+" 0 5", "slicer 0 1p0 0 5 0 "+x+" 5",
		)
	}
}

// TestP8TextsOfModulesThatAreNotValid has texts that are well formed, each of a module that breaks one rule.
func TestP8TextsOfModulesThatAreNotValid(t *testing.T) {
	zeros, line := strings.Repeat(" 0 0", 16), moduleTextOf(impl.Module{Kind: 6, Table: lineTable(64)})
	checkNoModule(t,
		"meter -0", "meter nan", "meter -1p0", "meter -inf", "meter -1p-149", "meter -16777215p104",
		"delay -1 0 0", "delay 1 0 0", "delay 2 0 0 0 0", "delay -1 0 0 0 0", "delay -2 0 0 0 0", "delay 4294967296 0 0", "delay 9223372036854775807 0 0", "delay -9223372036854775808 0 0", "delay 256 0 0", "delay 16"+zeros, "delay 17"+zeros, "delay -16"+zeros, "delay -1"+zeros,
		"hold 0 0 0 0", "hold 0 -1 0 0", "hold -1 0 0 0", "hold -1 -2 0 0", "hold 101 0 0 0", "hold 101 100 0 0", "hold 102 5 0 0", "hold 5 5 0 0", "hold 5 6 0 0", "hold 5 -1 0 0", "hold 1 1 0 0", "hold 100 100 0 0", "hold 100 -1 0 0", "hold 4294967297 0 0 0", "hold 5 4294967296 0 0", "hold 9223372036854775807 0 0 0", "hold -9223372036854775808 0 0 0", "hold 5 9223372036854775807 0 0", "hold 5 -9223372036854775808 0 0", "hold 256 0 0 0", "hold 257 0 0 0",
		"slicer 0 nan 0 5", "slicer 0 0 nan 5", "slicer 0 inf 0 5", "slicer 0 0 -inf 5", "slicer 0 1p0 0 5 nan nan 6", "slicer 0 1p0 0 5 0 inf 6", "slicer 0 1p0 0 5 1p0 0 5", "slicer 0 1p0 0 5 1p0 0 6", "slicer 0 0 0 1 -0 0 2", "slicer 0 0 0 1 0 -0 2", "slicer 0 -0 -0 1 0 0 1", "slicer 0 1p0 1p1 5 3p0 0 5 1p0 1p1 5", "slicer 0 1p0 -0 1 1p1 0 2 1p0 0 3",
		line+" 1p20 0 5", line+" 1p20 0 5 1p21 0 5", line+" -3p0 0 5", line+" 0", line+" 0 0", line+" sum", line+line, line+" "+line, line+" nan nan nan",
	)
}

// TestP8TextsThatAreFarTooLong has what is refused soon, however long it is.
func TestP8TextsThatAreFarTooLong(t *testing.T) {
	const many = 300000
	line := moduleTextOf(impl.Module{Kind: 6, Table: lineTable(64)})
	for _, s := range []string{
		"delay 0" + strings.Repeat(" 0 0", many), "slicer 0" + strings.Repeat(" 0 0 0", many), line + strings.Repeat(" 1p0 0 0", many), line + strings.Repeat(" ", many), "sum" + strings.Repeat(" ", many), strings.Repeat(" ", many), strings.Repeat("s", many), "sum" + strings.Repeat("\n", many), "gain " + strings.Repeat("1", many), "gain 1p" + strings.Repeat("0", many), "slicer " + strings.Repeat("9", many), "slicer -" + strings.Repeat("9", many), strings.Repeat("\xff", many),
		strings.Repeat("\n", many), strings.Repeat("sum\n", many), strings.Repeat("cable 0 0\n", many), "sum\nsum\n" + strings.Repeat("cable 0 1\n", many), "sum\ncable 0 " + strings.Repeat("0", many) + "\n", "sum\ncable 0 0" + strings.Repeat(" ", many) + "\n", strings.Repeat("sum\n", 16) + strings.Repeat("\n", many),
	} {
		if m, ok := impl.ParseModule(s); ok || !noModule(m) {
			t.Fatalf("ParseModule of %q and so on is %v, %v", s[:30], m, ok)
		}
		if r, ok := impl.ParseRack(s); ok || !noRack(r) {
			t.Fatalf("ParseRack of %q and so on is %v, %v", s[:30], r, ok)
		}
	}
}

func TestP8LinesOfNoRack(t *testing.T) {
	const sums, cable = "sum\nsum\n", "cable 0 1\n"
	full, crowded := rackTextOf(fullRack()), rackTextOf(crowdedRack())
	checkNoRack(t,
		// The last newline is missing, or something stands behind it.
		"sum", "sum\nsum", "sum\nsum\ncable 0 1", sums+"cable 0 ", sums+"cable", full[:len(full)-1], crowded[:len(crowded)-1], "sum\n ", "sum\n\t", "sum\n\x00", "sum\n\xff", "sum\n0", "sum\ns", sums+cable+"c", " ", "\x00", "\xff", "s",
		// Empty lines.
		"\n", "\n\n", "\nsum\n", "sum\n\n", "sum\n\nsum\n", "\n"+sums+cable, sums+"\n"+cable, sums+cable+"\n", sums+cable+"\n"+cable, sums+cable+cable+"\n", "\n"+full, full+"\n", "sum\n \nsum\n", " \nsum\n", "sum\n \n", "\t\n", "sum\n\n\n",
		// Other ends of lines.
		"sum\r\n", "sum\r", "sum\rsum\r", "sum\nsum\r\n", "sum\r\nsum\n", sums+"cable 0 1\r\n", sums+"cable 0 1\r", "\rsum\n", "sum\n\r", "sum\n\rsum\n", "sum\vsum\n", "sum\fsum\n", "sum\u0085sum\n", "sum\u2028sum\n", "sum\x00sum\n", "sum;sum\n", "sum sum\n", "sum\\n", "sum\x85\n", "sum\n\ufeff", "\ufeffsum\n",
		// Modules behind cables, and cables before modules.
		cable+sums, "sum\ncable 0 1\nsum\n", sums+cable+"sum\n", sums+cable+"sum\n"+cable, "delay 0 0 0\ncable 0 0\nsum\n", "delay 0 0 0\ncable 0 0\nsum\ncable 0 1\n", cable, cable+cable, "cable 0 0\n",
		// Cables with too few indices, or too many, or written in another way.
		sums+"cable\n", sums+"cable \n", sums+"cable 0\n", sums+"cable 1\n", sums+"cable 01\n", sums+"cable 0 \n", sums+"cable  0 1\n", sums+"cable 0  1\n", sums+"cable 0 1 \n", sums+" cable 0 1\n", sums+"cable 0 1 1\n", sums+"cable 0 1 0 1\n", sums+"cable 0 1 cable 0 1\n", sums+"cable\t0 1\n", sums+"cable 0\t1\n", sums+"cable 0,1\n", sums+"cable 0-1\n", sums+"cable 0\n1\n", sums+"cable\n0 1\n", sums+"CABLE 0 1\n", sums+"Cable 0 1\n", sums+"cables 0 1\n", sums+"cable0 1\n", sums+"cabl 0 1\n", sums+"0 1\n", sums+"0 1 cable\n", sums+"\xffcable 0 1\n", sums+"cable\xff 0 1\n", sums+"cable 0 1\xff\n", sums+"cäble 0 1\n", sums+"cable 0 1p0\n", sums+"cable 0 nan\n", sums+"cable 0 sum\n", sums+cable+"cable\n", sums+"cable\n"+cable,
		// Indices of no module.
		sums+"cable 0 2\n", sums+"cable 2 0\n", sums+"cable 2 1\n", sums+"cable -1 1\n", sums+"cable 0 -1\n", sums+"cable -1 -1\n", sums+"cable 16 1\n", sums+"cable 4294967296 1\n", sums+"cable 0 4294967297\n", sums+"cable 0 9223372036854775807\n", sums+"cable -9223372036854775808 1\n", sums+cable+"cable 0 3\n", "cable 0 0\n", "cable -1 -1\n", "sum\ncable 0 1\n", "delay 0 0 0\ncable 0 1\n", "delay 0 0 0\ncable 1 0\n", strings.Repeat("sum\n", 16)+"cable 16 0\n", strings.Repeat("sum\n", 16)+"cable 0 16\n",
		// No order.
		"sum\ncable 0 0\n", sums+"cable 0 1\ncable 1 0\n", sums+"cable 1 1\n", "sum\ndelay 0 0 0\ncable 0 0\n", "delay 0 0 0\nsum\nsum\ncable 0 1\ncable 1 2\ncable 2 1\n",
		// One module too many, and one cable too many.
		strings.Repeat("sum\n", 17), strings.Repeat("sum\n", 18), strings.Repeat("sum\n", 17)+cable, strings.Repeat("sum\n", 56), strings.Repeat("sum\n", 57), strings.Repeat("sum\n", 58), strings.Repeat("sum\n", 1000), sums+strings.Repeat(cable, 41), sums+strings.Repeat(cable, 42), sums+strings.Repeat(cable, 54), sums+strings.Repeat(cable, 55), sums+strings.Repeat(cable, 1000), full+cable, "sum\n"+full, crowded+"cable 0 4\n", strings.Repeat("sum\n", 17)+strings.Repeat(cable, 39), strings.Repeat("sum\n", 17)+strings.Repeat(cable, 40), strings.Repeat("sum\n", 16)+strings.Repeat(cable, 41),
	)
	// These are read, and close to those above.
	for _, s := range []string{"", "sum\n", sums, sums + cable, full, crowded, strings.Repeat("sum\n", 16), strings.Repeat("sum\n", 16) + strings.Repeat(cable, 40), sums + strings.Repeat(cable, 40), "delay 0 0 0\ncable 0 0\n", sums + "cable 1 0\n"} {
		if !checkReadRack(t, s) {
			t.Errorf("%q is not read", s)
		}
	}
}

func TestP8RacksOfNoOrderAreNotRead(t *testing.T) {
	for _, r := range loopRacks() {
		checkNoRack(t, rackTextOf(r))
	}
	good := 0
	for _, r := range smallRacks() {
		if checkReadRack(t, rackTextOf(r)) {
			good++
		}
	}
	if good < 500 {
		t.Errorf("%d small racks are read", good)
	}
}

// changedTexts have a byte less, another one, or one more than s has, at each place.
func changedTexts(s string, bytes []byte) []string {
	list := []string{}
	for i := range len(s) + 1 {
		for _, b := range bytes {
			list = append(list, s[:i]+string([]byte{b})+s[i:])
			if i < len(s) {
				list = append(list, s[:i]+string([]byte{b})+s[i+1:])
			}
		}
		if i < len(s) {
			list = append(list, s[:i]+s[i+1:], s[:i], s[i:])
		}
	}
	return list
}

func allBytes() []byte {
	list := []byte{}
	for b := range 256 {
		list = append(list, byte(b))
	}
	return list
}

const someBytes = " 01238-+.pnaif\n\tsSc\xff"

func TestP8ModulesWithAnyByteChanged(t *testing.T) {
	read, all := 0, 0
	count := func(ok bool) {
		all++
		if ok {
			read++
		}
	}
	for _, text := range []string{"", "sum", "gain 5p-1", "gain nan", "gain -inf", "meter 0", "meter 16777215p104", "slicer -1", "delay 0 -0 1p1", "hold 5 3 0 7p-149", "mixer 0 1p0 3p127 nan"} {
		for _, s := range changedTexts(text, allBytes()) {
			count(checkReadModule(t, s))
		}
	}
	for _, m := range append(plainModules(), delayOf(2, someSamples(5)...), impl.Module{Kind: 6, Count: -128, Table: goodTables()[9]}) {
		for _, s := range changedTexts(moduleTextOf(m), []byte(someBytes)) {
			count(checkReadModule(t, s))
		}
	}
	if read < 500 || read > all/2 {
		t.Errorf("%d of %d texts are read", read, all)
	}
}

func TestP8RacksWithAnyByteChanged(t *testing.T) {
	read, all := 0, 0
	for _, r := range []impl.Rack{{}, rackOf("+"), rackOf("og", 0, 1), rackOf("+d+", 0, 1, 1, 0, 1, 1, 0, 2), rackOf("hxtm", 0, 1, 3, 2)} {
		for _, s := range changedTexts(rackTextOf(r), []byte(someBytes)) {
			all++
			if checkReadRack(t, s) {
				read++
			}
		}
	}
	if read < 100 || read > all/2 {
		t.Errorf("%d of %d texts are read", read, all)
	}
}

// changedParts have a part less, another one, one more, or two in the opposite order.
func changedParts(parts []string, others []string) [][]string {
	list := [][]string{}
	for i := range len(parts) + 1 {
		for _, other := range others {
			list = append(list, slices.Concat(parts[:i], []string{other}, parts[i:]))
			if i < len(parts) {
				list = append(list, slices.Concat(parts[:i], []string{other}, parts[i+1:]))
			}
		}
		if i < len(parts) {
			list = append(list, slices.Concat(parts[:i], parts[i+1:]), slices.Concat(parts[:i], parts[i:i+1], parts[i:]))
		}
		if i > 0 && i < len(parts) {
			list = append(list, slices.Concat(parts[:i-1], parts[i:i+1], parts[i-1:i], parts[i+1:]))
		}
	}
	return list
}

func TestP8ModulesWithAnyPartChanged(t *testing.T) {
	others := []string{"source", "mixer", "gain", "delay", "sum", "slicer", "meter", "hold", "cable", "", "0", "-0", "1", "-1", "5", "16", "100", "101", "1p0", "-1p1", "2p0", "nan", "inf", "-inf", "NaN", "9223372036854775808", "0 0", "0 0 0"}
	for _, m := range append(plainModules(), delayOf(7, someSamples(16)...), impl.Module{Kind: 6, Table: lineTable(63)}, impl.Module{Kind: 6, Table: lineTable(64)}) {
		for _, parts := range changedParts(strings.Split(moduleTextOf(m), " "), others) {
			checkReadModule(t, strings.Join(parts, " "))
		}
	}
}

func TestP8RacksWithAnyLineChanged(t *testing.T) {
	others := []string{"\n", "sum\n", "sum", "gain 1p0\n", "delay 0 0 0\n", "cable 0 1\n", "cable 1 0\n", "cable 0 0\n", "cable 2 5\n", "cable 5 2\n", "cable 0 16\n", "cable\n", "cable 0 1", "meter nan\n", "sum\r\n", "sum \n"}
	for _, r := range append(namedRacks(), chainOf(15, true)) {
		for _, lines := range changedParts(strings.SplitAfter(strings.TrimSuffix(rackTextOf(r), "\n"), "\n"), others) {
			checkReadRack(t, strings.Join(lines, ""))
			checkReadRack(t, strings.Join(lines, "")+"\n")
		}
	}
}
