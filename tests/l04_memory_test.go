package tests

import (
	"slices"
	"testing"

	"loop.example/g03223/impl"
)

// roomySamples returns list with room behind it, in which there is something, and a function that reports whether all is as it was.
func roomySamples(list []complex64) ([]complex64, func() bool) {
	n := len(list)
	list = slices.Concat(list, []complex64{91, 92i, 93})
	whole := slices.Clone(list)
	return list[:n], func() bool { return slices.EqualFunc(list, whole, samePoint) }
}

// roomyFrames does the same for frames.
func roomyFrames(list []impl.Frame) ([]impl.Frame, func() bool) {
	n := len(list)
	list = slices.Concat(list, []impl.Frame{{91}, {92i}, {}})
	whole := slices.Clone(list)
	return list[:n], func() bool { return sameFrames(list, whole) }
}

func scribbleSamples(list []complex64) {
	for i := range list[:cap(list)] {
		list[:cap(list)][i] = 1234
	}
}

func scribbleFrames(list []impl.Frame) {
	for i := range list[:cap(list)] {
		list[:cap(list)][i] = impl.Frame{1234, 1234, 1234, 1234, 1234, 1234, 1234, 1234}
	}
}

func TestP10FramesShareNoMemory(t *testing.T) {
	for _, n := range []int{0, 1, 7, 8, 9, 16, 29, 40} {
		list, same := roomySamples(someSamples(n))
		frames, rest := impl.FramesOf(list)
		wantFrames, wantRest := slices.Clone(frames), slices.Clone(rest)
		otherFrames, otherRest := impl.FramesOf(list)
		scribbleFrames(otherFrames)
		if !same() || !slices.EqualFunc(otherRest, wantRest, samePoint) {
			t.Fatalf("the frames of %d samples have memory of the list, or of what is left", n)
		}
		scribbleSamples(otherRest)
		if !same() || !sameFrames(frames, wantFrames) || !slices.EqualFunc(rest, wantRest, samePoint) {
			t.Fatalf("what is left of %d samples has memory of the list, or of an earlier result", n)
		}
		scribbleSamples(list)
		if !sameFrames(frames, wantFrames) || !slices.EqualFunc(rest, wantRest, samePoint) {
			t.Fatalf("a list of %d samples has memory of the result", n)
		}
	}
}

func TestP10SamplesOfFramesShareNoMemory(t *testing.T) {
	for n := range 5 {
		made := []impl.Frame{}
		for i := range n {
			made = append(made, frameAt(i))
		}
		frames, same := roomyFrames(made)
		list := impl.SamplesOf(frames)
		want := slices.Clone(list)
		scribbleSamples(impl.SamplesOf(frames))
		if !same() || !slices.EqualFunc(list, want, samePoint) {
			t.Errorf("the samples of %d frames have memory of them, or of an earlier result", n)
		}
		scribbleFrames(frames)
		if !slices.EqualFunc(list, want, samePoint) {
			t.Errorf("%d frames have memory of their samples", n)
		}
	}
}

func TestP10CountsShareNoMemory(t *testing.T) {
	for _, made := range [][]impl.Frame{{}, {{1}}, {{1}, {2}, {3}}, {{1}, {1}, {1}}, {{1}, {2}, {1}, {3}, {2}}, allFrames(t)} {
		frames, same := roomyFrames(made)
		listed, counts := impl.CountFrames(frames)
		want, wantCounts := slices.Clone(listed), slices.Clone(counts)
		again, againCounts := impl.CountFrames(frames)
		scribbleFrames(again)
		for i := range againCounts {
			againCounts[i] = 1234
		}
		if !same() || !sameFrames(listed, want) || !slices.Equal(counts, wantCounts) {
			t.Errorf("counts of %v have memory of the frames, or of an earlier result", made)
		}
		scribbleFrames(frames)
		if !sameFrames(listed, want) || !slices.Equal(counts, wantCounts) {
			t.Errorf("%v have memory of their counts", made)
		}
	}
}

// TestP10FramesAreLeftAlone is for the functions that are given a frame, which is a value, and lists of which only a part is theirs.
func TestP10FramesAreLeftAlone(t *testing.T) {
	for i := range 20 {
		f := frameAt(i)
		impl.SealFrame(f)
		impl.IsSealed(f)
		impl.TurnFrame(f, 2i)
		impl.TurnBack(f)
		impl.EqualFrames(f, f)
		frames, same := roomyFrames([]impl.Frame{f, {1}, f})
		impl.FindFrame(frames, f)
		impl.FindFrame(frames, impl.Frame{2})
		if !sameFrame(f, frameAt(i)) || !same() {
			t.Errorf("%v became %v", frameAt(i), f)
		}
	}
	frames, _ := roomyFrames([]impl.Frame{{1}, {2}})
	if i := impl.FindFrame(frames, impl.Frame{91}); i != -1 {
		t.Errorf("what is behind a list is found in it, at %d", i)
	}
}

// ringFunctions are all functions that make a ring of one.
func ringFunctions() map[string]func(r impl.Ring) (impl.Ring, bool) {
	type ring = impl.Ring
	return map[string]func(r ring) (ring, bool){
		"PushRing":         func(r ring) (ring, bool) { q, _, ok := impl.PushRing(r, 5); return q, ok },
		"PushRing of 0":    func(r ring) (ring, bool) { q, _, ok := impl.PushRing(r, 0); return q, ok },
		"PushRing, of one": func(r ring) (ring, bool) { q, _, ok := impl.PushRing(r, r.Store[r.At]); return q, ok },
		"TakeRing":         func(r ring) (ring, bool) { q, _, ok := impl.TakeRing(r); return q, ok },
	}
}

func TestP10RingsShareNoMemory(t *testing.T) {
	for name, f := range ringFunctions() {
		for _, made := range goodRings() {
			store, same := roomySamples(made.Store)
			r := impl.Ring{Store: store, At: made.At, Count: made.Count}
			q, ok := f(r)
			if ok != (name != "TakeRing" || made.Count > 0) || !same() {
				t.Fatalf("%s of %v is %v, %v; the argument is as it was: %v", name, made, q, ok, same())
			}
			want := copyOfRing(q)
			again, _ := f(r)
			scribbleSamples(again.Store)
			if !same() || !sameRing(q, want) {
				t.Fatalf("%s of %v: the result has memory of the argument, or of an earlier result", name, made)
			}
			scribbleSamples(store)
			if !sameRing(q, want) {
				t.Fatalf("%s of %v: the argument has memory of the result", name, made)
			}
		}
	}
	first, _ := impl.NewRing(9)
	second, _ := impl.NewRing(9)
	scribbleSamples(first.Store)
	if !sameRing(second, ringOf(9, 0)) {
		t.Error("two new rings share memory")
	}
}

func TestP10ItemsShareNoMemory(t *testing.T) {
	for _, made := range append(goodRings(), badRings()...) {
		store, same := roomySamples(made.Store)
		r := impl.Ring{Store: store, At: made.At, Count: made.Count}
		items := impl.ItemsOf(r)
		want := slices.Clone(items)
		scribbleSamples(impl.ItemsOf(r))
		impl.IsRing(r)
		impl.PushRing(r, 3)
		impl.TakeRing(r)
		if !same() || !slices.EqualFunc(items, want, samePoint) {
			t.Fatalf("the items of %v have memory of the ring, or of an earlier result", made)
		}
		scribbleSamples(store)
		if !slices.EqualFunc(items, want, samePoint) {
			t.Fatalf("%v has memory of its items", made)
		}
	}
}

// TestP10RingsDoNotDependOnCapacities gives each ring with room behind its store, and without.
func TestP10RingsDoNotDependOnCapacities(t *testing.T) {
	for _, made := range append(goodRings(), badRings()...) {
		store, _ := roomySamples(made.Store)
		roomy := impl.Ring{Store: store, At: made.At, Count: made.Count}
		tight := impl.Ring{Store: slices.Clip(slices.Clone(made.Store)), At: made.At, Count: made.Count}
		a, x, one := impl.PushRing(roomy, 3i)
		b, y, two := impl.PushRing(tight, 3i)
		if one != two || !samePoint(x, y) || !sameRing(a, b) || impl.IsRing(roomy) != impl.IsRing(tight) {
			t.Fatalf("PushRing(%v) depends on a capacity: %v, %v", made, a, b)
		}
		a, x, one = impl.TakeRing(roomy)
		b, y, two = impl.TakeRing(tight)
		if one != two || !samePoint(x, y) || !sameRing(a, b) || !slices.EqualFunc(impl.ItemsOf(roomy), impl.ItemsOf(tight), samePoint) {
			t.Fatalf("TakeRing(%v) depends on a capacity: %v, %v", made, a, b)
		}
	}
}
