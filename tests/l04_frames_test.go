package tests

import (
	"math"
	"slices"
	"testing"

	"loop.example/g03223/impl"
)

func sameFrame(a impl.Frame, b impl.Frame) bool {
	return slices.EqualFunc(a[:], b[:], samePoint)
}

func sameFrames(a []impl.Frame, b []impl.Frame) bool {
	return slices.EqualFunc(a, b, sameFrame)
}

// frameAt has samples that are in no frame at another index, but for the odd ones.
func frameAt(i int) impl.Frame {
	f := impl.Frame{}
	for k := range f {
		f[k] = sampleAt(8*i + k)
	}
	return f
}

// withSample returns f with z in the place of the sample i.
func withSample(f impl.Frame, i int, z complex64) impl.Frame {
	f[i] = z
	return f
}

func TestP10ConstantsOfFrames(t *testing.T) {
	if impl.FrameSize != 8 || len(impl.Frame{}) != 8 || impl.MaxRing != 16 {
		t.Error("FrameSize or MaxRing")
	}
}

func TestP10NamedFrames(t *testing.T) {
	list := []complex64{1, 2i, 3, 4 + 1i, 5, complex(minusZero(), 6), 7, 8, 9, complex(notANumber(), 10), 11, 12, 13, 14, 15, 16, 17}
	first := impl.Frame{1, 2i, 3, 4 + 1i, 5, complex(minusZero(), 6), 7, 8}
	second := impl.Frame{9, complex(notANumber(), 10), 11, 12, 13, 14, 15, 16}
	for _, c := range []struct {
		n      int
		frames []impl.Frame
	}{
		{0, nil}, {1, nil}, {7, nil}, {8, []impl.Frame{first}}, {9, []impl.Frame{first}}, {15, []impl.Frame{first}},
		{16, []impl.Frame{first, second}}, {17, []impl.Frame{first, second}},
	} {
		frames, rest := impl.FramesOf(list[:c.n])
		want := list[8*len(c.frames) : c.n]
		if !sameFrames(frames, c.frames) || !slices.EqualFunc(rest, want, samePoint) {
			t.Errorf("FramesOf %d samples = %v, %v; not %v, %v", c.n, frames, rest, c.frames, want)
		}
	}
	if frames, rest := impl.FramesOf(nil); len(frames) != 0 || len(rest) != 0 {
		t.Errorf("FramesOf(nil) = %v, %v", frames, rest)
	}
}

func TestP10FramesOf(t *testing.T) {
	for n := range 100 {
		list := someSamples(n)
		frames, rest := impl.FramesOf(list)
		if len(frames) != n/8 || len(rest) != n%8 {
			t.Fatalf("FramesOf %d samples are %d frames, and %d samples are left", n, len(frames), len(rest))
		}
		for i, z := range list {
			if i < 8*len(frames) && !samePoint(frames[i/8][i%8], z) {
				t.Fatalf("the sample %d of %d became %g in a frame, not %g", i, n, frames[i/8][i%8], z)
			}
			if i >= 8*len(frames) && !samePoint(rest[i-8*len(frames)], z) {
				t.Fatalf("the sample %d of %d became %g, which is left, not %g", i, n, rest[i-8*len(frames)], z)
			}
		}
	}
}

func TestP10SamplesOf(t *testing.T) {
	for _, none := range [][]impl.Frame{nil, {}} {
		if list := impl.SamplesOf(none); len(list) != 0 {
			t.Errorf("SamplesOf(%v) = %v", none, list)
		}
	}
	frames := []impl.Frame{}
	want := []complex64{}
	for n := 1; n < 40; n++ {
		frames = append(frames, frameAt(n*n))
		for k := range 8 {
			want = append(want, frameAt(n * n)[k])
		}
		if list := impl.SamplesOf(frames); !slices.EqualFunc(list, want, samePoint) {
			t.Fatalf("SamplesOf(%v) = %v, not %v", frames, list, want)
		}
	}
	named := []impl.Frame{{1, 2, 3, 4, 5, 6, 7, 8}, {8, 7, 6, 5, 4, 3, 2, 1i}}
	if list := impl.SamplesOf(named); !slices.Equal(list, []complex64{1, 2, 3, 4, 5, 6, 7, 8, 8, 7, 6, 5, 4, 3, 2, 1i}) {
		t.Errorf("SamplesOf(%v) = %v", named, list)
	}
}

func TestP4FramesKeepSamplesInOrder(t *testing.T) {
	for _, n := range []int{0, 1, 7, 8, 9, 15, 16, 17, 255, 256, 257, 5000} {
		list := someSamples(n)
		frames, rest := impl.FramesOf(list)
		back := slices.Concat(impl.SamplesOf(frames), rest)
		if !slices.EqualFunc(back, list, samePoint) {
			t.Errorf("%d samples are not those of their frames, and those that are left", n)
		}
		again, none := impl.FramesOf(impl.SamplesOf(frames))
		if !sameFrames(again, frames) || len(none) != 0 {
			t.Errorf("the frames of %d samples are others when they are read back", n)
		}
	}
}

// TestP4FramesKeepAllSorts puts each sort of sample at each place of a frame.
func TestP4FramesKeepAllSorts(t *testing.T) {
	parts := someParts(t)
	for i, x := range parts {
		z := complex(x, parts[(i*7+3)%len(parts)])
		for k := range 8 {
			list := someSamples(17)
			list[k], list[8+k] = z, complex(imag(z), real(z))
			frames, rest := impl.FramesOf(list)
			if len(frames) != 2 || !samePoint(frames[0][k], z) || !samePoint(frames[1][k], complex(imag(z), real(z))) {
				t.Fatalf("%g at %d is not in %v", z, k, frames)
			}
			if back := slices.Concat(impl.SamplesOf(frames), rest); !slices.EqualFunc(back, list, samePoint) {
				t.Fatalf("%v became %v", list, back)
			}
		}
	}
}

// TestP4FramesKeepAllBits holds patterns against each other, which tell more than numbers do, but for NaN.
func TestP4FramesKeepAllBits(t *testing.T) {
	list := []complex64{}
	for _, x := range someSingles(t) {
		list = append(list, complex(x, -x))
	}
	frames, rest := impl.FramesOf(list)
	for i, z := range slices.Concat(impl.SamplesOf(frames), rest) {
		if math.Float32bits(real(z)) != math.Float32bits(real(list[i])) || math.Float32bits(imag(z)) != math.Float32bits(imag(list[i])) {
			t.Fatalf("%g became %g", list[i], z)
		}
	}
}
