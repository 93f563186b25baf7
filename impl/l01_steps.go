package impl

import (
	"math"
	"math/bits"
	"strconv"
	"strings"
)

const MaxSteps = 2139095039
const MaxList = 300

// signBit is the bit of a single that is set for negative numbers and for -0.
const signBit = 1 << 31

// firstNormal is the number of steps of 2^-126, the first number that is not subnormal.
const firstNormal = 1 << 23

// Every finite number is a multiple of 2^leastPower and less than 2^topPower in absolute value.
const leastPower = -149
const topPower = 128

const maxHalves = 400

func StepsOf(x float32) (int, bool) {
	pattern := math.Float32bits(x)
	// Without the sign, the patterns of the finite numbers are in ascending order, with no gaps, and NaN and infinity come after them.
	k := int(pattern &^ signBit)
	if k > MaxSteps {
		return 0, false
	}
	if pattern&signBit != 0 {
		return -k, true
	}
	return k, true
}

func FromSteps(k int) (float32, bool) {
	if k < -MaxSteps || k > MaxSteps {
		return 0, false
	}
	if k < 0 {
		return math.Float32frombits(uint32(-k) | signBit), true
	}
	return math.Float32frombits(uint32(k)), true
}

func NextUp(x float32) (float32, bool) {
	return moveSteps(x, 1)
}

func NextDown(x float32) (float32, bool) {
	return moveSteps(x, -1)
}

func moveSteps(x float32, by int) (float32, bool) {
	k, ok := StepsOf(x)
	if !ok {
		return 0, false
	}
	return FromSteps(k + by)
}

func StepsBetween(a float32, b float32) (int, bool) {
	from, okFrom := StepsOf(a)
	to, okTo := StepsOf(b)
	if !okFrom || !okTo {
		return 0, false
	}
	return to - from, true
}

func IsSubnormal(x float32) bool {
	const least = 0x1p-126
	return x != 0 && -least < x && x < least
}

func FlushSmall(x float32) float32 {
	if IsSubnormal(x) {
		return math.Float32frombits(math.Float32bits(x) & signBit)
	}
	return x
}

func HalveSingle(x float32, n int) float32 {
	// Each quotient is rounded on its own: below 2^-126 this differs from one division by 2^n.
	for range min(n, maxHalves) {
		x = float32(x / 2)
	}
	return x
}

func LosesHalf(x float32) bool {
	half := float32(x / 2)
	return float32(half*2) != x
}

func TwoSum(a float32, b float32) (float32, float32) {
	s := a + b
	v := s - a
	return s, (a - (s - v)) + (b - v)
}

func SumForward(list []float32) float32 {
	sum := float32(0)
	for _, x := range list {
		sum += x
	}
	return sum
}

func SumPairs(list []float32) float32 {
	switch len(list) {
	case 0:
		return 0
	case 1:
		// Not 0 plus the element, which would lose the sign of -0.
		return list[0]
	}
	middle := len(list) / 2
	return SumPairs(list[:middle]) + SumPairs(list[middle:])
}

func SumSteady(list []float32) float32 {
	s, c := float32(0), float32(0)
	for _, x := range list {
		y := x - c
		t := s + y
		c = (t - s) - y
		s = t
	}
	return s
}

func SumDouble(list []float32) float64 {
	sum := float64(0)
	for _, x := range list {
		sum += float64(x)
	}
	return sum
}

func FormatSingle(x float32) string {
	k, ok := StepsOf(x)
	if !ok {
		return ""
	}
	sign := ""
	if math.Signbit(float64(x)) {
		sign = "-"
	}
	if k == 0 {
		return sign + "0"
	}
	m, e := oddParts(max(k, -k))
	return sign + strconv.Itoa(m) + "p" + strconv.Itoa(e)
}

// oddParts returns the odd m, and the e, for which m times 2^e has k steps, for a k above 0.
func oddParts(k int) (int, int) {
	m, e := k, leastPower
	if k >= firstNormal {
		m = firstNormal + k%firstNormal
		e = leastPower + k/firstNormal - 1
	}
	zeros := bits.TrailingZeros(uint(m))
	return m >> zeros, e + zeros
}

func ParseSingle(s string) (float32, bool) {
	size, negative := strings.CutPrefix(s, "-")
	x, ok := readSize(size)
	if negative {
		x = -x
	}
	// A number has one text only: an even m, a plus sign or a leading zero is refused here.
	if !ok || FormatSingle(x) != s {
		return 0, false
	}
	return x, true
}

// readSize reads a number without its sign, in any way of writing m and e as long as the number is one of single precision.
func readSize(s string) (float32, bool) {
	if s == "0" {
		return 0, true
	}
	digits, power, found := strings.Cut(s, "p")
	m, errM := strconv.Atoi(digits)
	e, errE := strconv.Atoi(power)
	if !found || errM != nil || errE != nil {
		return 0, false
	}
	if m < 1 || m >= 2*firstNormal || e < leastPower || e > topPower-bits.Len(uint(m)) {
		return 0, false
	}
	return float32(math.Ldexp(float64(m), e)), true
}
