package tests

import (
	"math"
	"slices"
	"testing"

	"loop.example/g03223/impl"
)

// sameDouble reports whether two results are the same as chapter 1 has it.
func sameDouble(a float64, b float64) bool {
	if math.IsNaN(a) || math.IsNaN(b) {
		return math.IsNaN(a) && math.IsNaN(b)
	}
	return a == b && math.Signbit(a) == math.Signbit(b)
}

// sameSingle is sameDouble for single precision, of which widening loses nothing.
func sameSingle(a float32, b float32) bool {
	return sameDouble(float64(a), float64(b))
}

func infinity(sign int) float32 { return float32(math.Inf(sign)) }

func notANumber() float32 { return float32(math.NaN()) }

func minusZero() float32 { return float32(math.Copysign(0, -1)) }

// notFinite are the numbers that have no steps and no text, with several patterns of NaN.
func notFinite() []float32 {
	return []float32{
		infinity(1), infinity(-1), notANumber(),
		math.Float32frombits(0x7f800001), math.Float32frombits(0xff800001),
		math.Float32frombits(0x7fffffff), math.Float32frombits(0xffffffff),
	}
}

// fromSteps is FromSteps where it must not fail.
func fromSteps(t *testing.T, k int) float32 {
	t.Helper()
	x, ok := impl.FromSteps(k)
	if !ok {
		t.Fatalf("FromSteps(%d) fails", k)
	}
	return x
}

// someSteps are numbers of steps in ascending order: all near the places where something changes, and others all over the range.
func someSteps() []int {
	list := []int{}
	for k := -impl.MaxSteps; k <= impl.MaxSteps; k += 40009 {
		list = append(list, k)
	}
	for _, place := range []int{0, 1 << 23, 1 << 24, 1065353216, impl.MaxSteps} {
		for k := place - 40; k <= min(place+40, impl.MaxSteps); k++ {
			list = append(list, k, -k)
		}
	}
	slices.Sort(list)
	return slices.Compact(list)
}

// someSingles are the numbers with someSteps, and -0.
func someSingles(t *testing.T) []float32 {
	list := []float32{minusZero()}
	for _, k := range someSteps() {
		list = append(list, fromSteps(t, k))
	}
	return list
}
