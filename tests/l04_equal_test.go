package tests

import (
	"math/rand/v2"
	"slices"
	"testing"

	"loop.example/g03223/impl"
)

// equalFrames is what EqualFrames should return: it holds part against part.
func equalFrames(a impl.Frame, b impl.Frame) bool {
	for i := range a {
		if real(a[i]) != real(b[i]) || imag(a[i]) != imag(b[i]) {
			return false
		}
	}
	return true
}

// findFrame is what FindFrame should return.
func findFrame(frames []impl.Frame, f impl.Frame) int {
	for i := range frames {
		if equalFrames(frames[i], f) {
			return i
		}
	}
	return -1
}

// countFrames is what CountFrames should return: it goes through what is listed for each frame.
func countFrames(frames []impl.Frame) ([]impl.Frame, []int) {
	listed, counts := []impl.Frame{}, []int{}
	for _, f := range frames {
		i := findFrame(listed, f)
		if i < 0 {
			i = len(listed)
			listed, counts = append(listed, f), append(counts, 0)
		}
		counts[i]++
	}
	return listed, counts
}

func plainFrame() impl.Frame { return impl.Frame{1, 2i, 0, 4 - 1i, 5, -6, 0.5, complex(8, -8)} }

// zeroFrames are frames that are equal to Frame{}, with any signs.
func zeroFrames() []impl.Frame {
	list := []impl.Frame{{}}
	for _, z := range zeroPoints() {
		f := impl.Frame{}
		for k := range f {
			list = append(list, withSample(f, k, z))
		}
		for k := range f {
			f[k] = z
		}
		list = append(list, f)
	}
	return list
}

// notNumberFrames have one NaN, in either part of any sample, and numbers, which are the same, beside it.
func notNumberFrames() []impl.Frame {
	list := []impl.Frame{}
	for k := range 8 {
		for _, z := range notNumberPoints() {
			list = append(list, withSample(plainFrame(), k, z))
		}
	}
	return list
}

// changedFrames differ from plainFrame in one part of one sample.
func changedFrames(t *testing.T) []impl.Frame {
	list := []impl.Frame{}
	for k, z := range plainFrame() {
		up, ok := impl.NextUp(real(z))
		other, fine := impl.NextDown(imag(z))
		if !ok || !fine {
			t.Fatalf("%g has no next numbers", z)
		}
		list = append(list,
			withSample(plainFrame(), k, complex(up, imag(z))), withSample(plainFrame(), k, complex(real(z), other)),
			withSample(plainFrame(), k, complex(infinity(1), imag(z))), withSample(plainFrame(), k, complex(real(z), infinity(-1))),
			withSample(plainFrame(), k, 77),
		)
	}
	return list
}

// allFrames are frames of which many are equal, and many nearly so.
func allFrames(t *testing.T) []impl.Frame {
	list := slices.Concat([]impl.Frame{plainFrame(), plainFrame()}, zeroFrames(), notNumberFrames(), changedFrames(t))
	return append(list, impl.TurnBack(plainFrame()), frameAt(0), frameAt(5), impl.Frame{complex(infinity(1), 0)}, impl.Frame{complex(infinity(-1), 0)}, plainFrame())
}

func checkEqual(t *testing.T, a impl.Frame, b impl.Frame, want bool) {
	t.Helper()
	if impl.EqualFrames(a, b) != want || impl.EqualFrames(b, a) != want {
		t.Errorf("EqualFrames(%v, %v) is not %v", a, b, want)
	}
	at := -1
	if want {
		at = 1
	}
	if i := impl.FindFrame([]impl.Frame{{99}, a, a}, b); i != at {
		t.Errorf("%v is found at %d among frames of %v", b, i, a)
	}
}

func TestP10EqualFrames(t *testing.T) {
	checkEqual(t, plainFrame(), plainFrame(), true)
	for _, f := range changedFrames(t) {
		checkEqual(t, f, plainFrame(), false)
		checkEqual(t, f, f, true)
	}
	checkEqual(t, impl.TurnBack(plainFrame()), plainFrame(), false)
	checkEqual(t, impl.Frame{}, impl.Frame{}, true)
	checkEqual(t, impl.Frame{}, plainFrame(), false)
}

func TestP10FramesThatDifferInSigns(t *testing.T) {
	for _, a := range zeroFrames() {
		for _, b := range zeroFrames() {
			checkEqual(t, a, b, true)
		}
		checkEqual(t, a, withSample(a, 3, 0x1p-149), false)
		checkEqual(t, a, withSample(a, 7, -0x1p-149i), false)
	}
	for k := range 8 {
		for _, z := range zeroPoints() {
			checkEqual(t, withSample(plainFrame(), k, z), withSample(plainFrame(), k, 0), true)
		}
	}
}

func TestP10FramesWithNaN(t *testing.T) {
	for _, f := range notNumberFrames() {
		checkEqual(t, f, f, false)
		checkEqual(t, f, plainFrame(), false)
	}
	for _, z := range notNumberPoints() {
		f := impl.Frame{}
		for k := range f {
			f[k] = z
		}
		checkEqual(t, f, f, false)
	}
}

func TestP10FramesOfAllSortsAreHeldAgainstEachOther(t *testing.T) {
	for _, a := range allFrames(t) {
		for _, b := range allFrames(t) {
			if impl.EqualFrames(a, b) != equalFrames(a, b) {
				t.Fatalf("EqualFrames(%v, %v) is not %v", a, b, equalFrames(a, b))
			}
		}
	}
}

func TestP10FindFrame(t *testing.T) {
	for _, none := range [][]impl.Frame{nil, {}} {
		if i := impl.FindFrame(none, impl.Frame{}); i != -1 {
			t.Errorf("a frame is found at %d among none", i)
		}
	}
	list := allFrames(t)
	for start := 0; start < len(list); start += 13 {
		for _, f := range list {
			if i, want := impl.FindFrame(list[start:], f), findFrame(list[start:], f); i != want {
				t.Fatalf("%v is found at %d, not at %d", f, i, want)
			}
		}
	}
	a, b, c := impl.Frame{1}, impl.Frame{2}, impl.Frame{3}
	for want, f := range []impl.Frame{a, b, c} {
		if i := impl.FindFrame([]impl.Frame{a, b, c, c, b, a}, f); i != want {
			t.Errorf("the first %v is found at %d", f, i)
		}
	}
}

func checkCounts(t *testing.T, frames []impl.Frame) {
	t.Helper()
	want, wantCounts := countFrames(frames)
	listed, counts := impl.CountFrames(frames)
	if !sameFrames(listed, want) || !slices.Equal(counts, wantCounts) {
		t.Fatalf("CountFrames(%v) = %v, %v; not %v, %v", frames, listed, counts, want, wantCounts)
	}
}

func TestP10NamedCounts(t *testing.T) {
	a, b, c := impl.Frame{1}, impl.Frame{0, 1}, impl.Frame{1, 0, 0, 0, 0, 0, 0, 1i}
	for _, k := range []struct {
		frames, listed []impl.Frame
		counts         []int
	}{
		{nil, nil, nil}, {[]impl.Frame{}, nil, nil}, {[]impl.Frame{a}, []impl.Frame{a}, []int{1}},
		{[]impl.Frame{a, a, a}, []impl.Frame{a}, []int{3}}, {[]impl.Frame{a, b, a}, []impl.Frame{a, b}, []int{2, 1}},
		{[]impl.Frame{c, b, a, b, c, b}, []impl.Frame{c, b, a}, []int{2, 3, 1}}, {[]impl.Frame{b, b, a, a, c, a}, []impl.Frame{b, a, c}, []int{2, 3, 1}},
	} {
		listed, counts := impl.CountFrames(k.frames)
		if !sameFrames(listed, k.listed) || !slices.Equal(counts, k.counts) {
			t.Errorf("CountFrames(%v) = %v, %v; not %v, %v", k.frames, listed, counts, k.listed, k.counts)
		}
	}
}

func TestP10CountsOfFramesWithNaN(t *testing.T) {
	for _, f := range notNumberFrames() {
		listed, counts := impl.CountFrames([]impl.Frame{f, plainFrame(), f, f, plainFrame()})
		if !sameFrames(listed, []impl.Frame{f, plainFrame(), f, f}) || !slices.Equal(counts, []int{1, 2, 1, 1}) {
			t.Fatalf("%v, three times, and another frame, twice, are %v, %v", f, listed, counts)
		}
	}
	checkCounts(t, notNumberFrames())
	checkCounts(t, slices.Repeat(notNumberFrames(), 5))
}

func TestP10CountsOfFramesThatDifferInSigns(t *testing.T) {
	frames := zeroFrames()
	for i := range frames {
		// The frame that is listed is the first one, with its signs.
		turned := slices.Concat(frames[i:], frames[:i])
		listed, counts := impl.CountFrames(turned)
		if !sameFrames(listed, turned[:1]) || !slices.Equal(counts, []int{len(frames)}) {
			t.Fatalf("frames of 0 are %v, %v", listed, counts)
		}
	}
}

func TestP10CountsOfAllSorts(t *testing.T) {
	checkCounts(t, allFrames(t))
	choice := rand.New(rand.NewPCG(7, 8))
	frames := allFrames(t)
	for n := range 60 {
		list := []impl.Frame{}
		for range n {
			list = append(list, frames[choice.IntN(1+n*len(frames)/60)])
		}
		checkCounts(t, list)
	}
}

func TestP4CountsKeepAllFrames(t *testing.T) {
	frames := slices.Concat(allFrames(t), zeroFrames(), allFrames(t))
	listed, counts := impl.CountFrames(frames)
	sum := 0
	for i, n := range counts {
		sum += n
		if found := impl.FindFrame(frames, listed[i]); equalFrames(listed[i], listed[i]) && !sameFrame(frames[found], listed[i]) {
			t.Errorf("%v is listed, but the first one is %v", listed[i], frames[found])
		}
	}
	if len(listed) != len(counts) || sum != len(frames) {
		t.Errorf("%d frames are counted as %d, in %d counts of %d frames", len(frames), sum, len(counts), len(listed))
	}
}
