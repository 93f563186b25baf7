/- Boxes of any number of cells: one fact for all of them. -/
import Derived.Test.YtihdpljkllpkaaaJq7
namespace Go.Proofs.Ytihdpljkllpkaaa
open Go.RowKit

/-- A box: a block that the call made, which holds these cells. -/
def Bx (b : Nat) (us : Array Value) (w : World) : Prop := b < w.heap.size ∧ (∀ i, w.cell? ⟨b, i, none⟩ = us[i]?) ∧ (∀ i, w.frozen? ⟨b, i, none⟩ = false)

theorem Bx.new (w : World) (us : Array Value) (t : TypeId) : Bx w.heap.size us (w.alloc (.cells us t)) :=
  ⟨by simp, fun i => by rw [World.cell?_alloc_new], fun i => by rw [World.frozen?_alloc_new]⟩
theorem Bx.span {b : Nat} {us : Array Value} {w w' : World} {lo hi : Nat} (h : Bx b us w) (hs : Span lo hi w w') (hd : hi ≤ lo ∨ b < lo ∨ hi ≤ b) : Bx b us w' := by
  have e := hs.block b h.1 (by omega)
  exact ⟨Nat.lt_of_lt_of_le h.1 hs.size, fun i => (World.cell?_of_block (w := w) (a := ⟨b, i, none⟩) e).trans (h.2.1 i), fun i => (World.frozen?_of_block (w := w) (a := ⟨b, i, none⟩) e).trans (h.2.2 i)⟩
theorem Bx.keep {b : Nat} {us : Array Value} {w w' : World} (h : Bx b us w) (hs : Span 0 0 w w') : Bx b us w' := h.span hs (.inl (Nat.le_refl _))
theorem Bx.alloc {b : Nat} {us : Array Value} {w : World} (h : Bx b us w) (o : Obj) : Bx b us (w.alloc o) := h.span ((Span.refl 0 0 w).alloc o) (.inl (Nat.le_refl _))
theorem Bx.drewN {b : Nat} {us : Array Value} {w : World} (h : Bx b us w) (n : Nat) : Bx b us (w.drewN n) := h
theorem Bx.other {b : Nat} {us : Array Value} {w : World} (h : Bx b us w) {a : Addr} (ha : a.block ≠ b) (v : Value) : Bx b us (w.setCell a v) :=
  ⟨by simpa [World.setCell] using h.1, fun i => (World.cell?_setCell_other w a ⟨b, i, none⟩ v (by intro e; apply ha; first | rw [e] | rw [← e])).trans (h.2.1 i), fun i => by rw [World.frozen?_setCell]; exact h.2.2 i⟩
theorem Bx.set {b : Nat} {us : Array Value} {w : World} (h : Bx b us w) (i : Nat) (v : Value) (hi : i < us.size) : Bx b (us.setIfInBounds i v) (w.setCell ⟨b, i, none⟩ v) := by
  refine ⟨by simpa [World.setCell] using h.1, fun j => ?_, fun j => by rw [World.frozen?_setCell]; exact h.2.2 j⟩
  by_cases hj : j = i
  · subst hj
    rw [World.cell?_setCell_same w ⟨b, j, none⟩ v (u := us[j]) (by rw [h.2.1 j]; simp [hi])]
    simp [hi]
  · rw [World.cell?_setCell_other w ⟨b, i, none⟩ ⟨b, j, none⟩ v (by intro e; injection e; omega), h.2.1 j]
    rw [Array.getElem?_setIfInBounds_ne (by omega)]
theorem Bx.cells {b : Nat} {us : Array Value} {w : World} (h : Bx b us w) : ∀ i, w.cell? ⟨b, i, none⟩ = us[i]? := h.2.1
theorem Bx.cellsA {b : Nat} {us : Array Value} {w : World} (h : Bx b us w) : ∀ o i, (w.alloc o).cell? ⟨b, i, none⟩ = us[i]? := fun o => (h.alloc o).2.1
theorem Bx.thaw {b : Nat} {us : Array Value} {w : World} (h : Bx b us w) : ∀ i, w.frozen? ⟨b, i, none⟩ = false := h.2.2
theorem Bx.thawA {b : Nat} {us : Array Value} {w : World} (h : Bx b us w) : ∀ o i, (w.alloc o).frozen? ⟨b, i, none⟩ = false := fun o => (h.alloc o).2.2
theorem Span.undrawn' {lo hi n : Nat} {a c : World} (h : Span lo hi (a.drewN n) c) : Span lo hi a c := ⟨h.os, h.tape, h.output, h.size, h.block⟩

theorem Span.put3 {b lo hi : Nat} {a w : World} (s : Span lo hi a w) (hb : lo ≤ b ∧ b < hi) (u0 u1 u2 : Value) : Span lo hi a (((w.setCell ⟨b, 0, none⟩ u0).setCell ⟨b, 1, none⟩ u1).setCell ⟨b, 2, none⟩ u2) :=
  (((s.setCell (p := ⟨b, 0, none⟩) (.inl hb) u0).setCell (p := ⟨b, 1, none⟩) (.inl hb) u1).setCell (p := ⟨b, 2, none⟩) (.inl hb) u2)
theorem Bx.set3 {b : Nat} {x0 x1 x2 : Value} {w : World} (h : Bx b #[x0, x1, x2] w) (u0 u1 u2 : Value) : Bx b #[u0, u1, u2] (((w.setCell ⟨b, 0, none⟩ u0).setCell ⟨b, 1, none⟩ u1).setCell ⟨b, 2, none⟩ u2) := by
  have := (((h.set 0 u0 (by simp)).set 1 u1 (by simp)).set 2 u2 (by simp))
  simpa using this
theorem Span.set3 {b lo hi : Nat} {a w : World} (s : Span lo hi a w) (hb : a.heap.size ≤ b) (u0 u1 u2 : Value) : Span lo hi a (((w.setCell ⟨b, 0, none⟩ u0).setCell ⟨b, 1, none⟩ u1).setCell ⟨b, 2, none⟩ u2) :=
  (((s.setCell (p := ⟨b, 0, none⟩) (.inr hb) u0).setCell (p := ⟨b, 1, none⟩) (.inr hb) u1).setCell (p := ⟨b, 2, none⟩) (.inr hb) u2)


theorem Span.put11 {b lo hi : Nat} {a w : World} (s : Span lo hi a w) (hb : lo ≤ b ∧ b < hi) (u0 u1 u2 u3 u4 u5 u6 u7 u8 u9 u10 : Value) : Span lo hi a (((((((((((w.setCell ⟨b, 0, none⟩ u0).setCell ⟨b, 1, none⟩ u1).setCell ⟨b, 2, none⟩ u2).setCell ⟨b, 3, none⟩ u3).setCell ⟨b, 4, none⟩ u4).setCell ⟨b, 5, none⟩ u5).setCell ⟨b, 6, none⟩ u6).setCell ⟨b, 7, none⟩ u7).setCell ⟨b, 8, none⟩ u8).setCell ⟨b, 9, none⟩ u9).setCell ⟨b, 10, none⟩ u10) :=
  (((((((((((s.setCell (p := ⟨b, 0, none⟩) (.inl hb) u0).setCell (p := ⟨b, 1, none⟩) (.inl hb) u1).setCell (p := ⟨b, 2, none⟩) (.inl hb) u2).setCell (p := ⟨b, 3, none⟩) (.inl hb) u3).setCell (p := ⟨b, 4, none⟩) (.inl hb) u4).setCell (p := ⟨b, 5, none⟩) (.inl hb) u5).setCell (p := ⟨b, 6, none⟩) (.inl hb) u6).setCell (p := ⟨b, 7, none⟩) (.inl hb) u7).setCell (p := ⟨b, 8, none⟩) (.inl hb) u8).setCell (p := ⟨b, 9, none⟩) (.inl hb) u9).setCell (p := ⟨b, 10, none⟩) (.inl hb) u10)
theorem Bx.set11 {b : Nat} {x0 x1 x2 x3 x4 x5 x6 x7 x8 x9 x10 : Value} {w : World} (h : Bx b #[x0, x1, x2, x3, x4, x5, x6, x7, x8, x9, x10] w) (u0 u1 u2 u3 u4 u5 u6 u7 u8 u9 u10 : Value) : Bx b #[u0, u1, u2, u3, u4, u5, u6, u7, u8, u9, u10] (((((((((((w.setCell ⟨b, 0, none⟩ u0).setCell ⟨b, 1, none⟩ u1).setCell ⟨b, 2, none⟩ u2).setCell ⟨b, 3, none⟩ u3).setCell ⟨b, 4, none⟩ u4).setCell ⟨b, 5, none⟩ u5).setCell ⟨b, 6, none⟩ u6).setCell ⟨b, 7, none⟩ u7).setCell ⟨b, 8, none⟩ u8).setCell ⟨b, 9, none⟩ u9).setCell ⟨b, 10, none⟩ u10) := by
  have := (((((((((((h.set 0 u0 (by simp)).set 1 u1 (by simp)).set 2 u2 (by simp)).set 3 u3 (by simp)).set 4 u4 (by simp)).set 5 u5 (by simp)).set 6 u6 (by simp)).set 7 u7 (by simp)).set 8 u8 (by simp)).set 9 u9 (by simp)).set 10 u10 (by simp))
  simpa using this
theorem Span.set11 {b lo hi : Nat} {a w : World} (s : Span lo hi a w) (hb : a.heap.size ≤ b) (u0 u1 u2 u3 u4 u5 u6 u7 u8 u9 u10 : Value) : Span lo hi a (((((((((((w.setCell ⟨b, 0, none⟩ u0).setCell ⟨b, 1, none⟩ u1).setCell ⟨b, 2, none⟩ u2).setCell ⟨b, 3, none⟩ u3).setCell ⟨b, 4, none⟩ u4).setCell ⟨b, 5, none⟩ u5).setCell ⟨b, 6, none⟩ u6).setCell ⟨b, 7, none⟩ u7).setCell ⟨b, 8, none⟩ u8).setCell ⟨b, 9, none⟩ u9).setCell ⟨b, 10, none⟩ u10) :=
  (((((((((((s.setCell (p := ⟨b, 0, none⟩) (.inr hb) u0).setCell (p := ⟨b, 1, none⟩) (.inr hb) u1).setCell (p := ⟨b, 2, none⟩) (.inr hb) u2).setCell (p := ⟨b, 3, none⟩) (.inr hb) u3).setCell (p := ⟨b, 4, none⟩) (.inr hb) u4).setCell (p := ⟨b, 5, none⟩) (.inr hb) u5).setCell (p := ⟨b, 6, none⟩) (.inr hb) u6).setCell (p := ⟨b, 7, none⟩) (.inr hb) u7).setCell (p := ⟨b, 8, none⟩) (.inr hb) u8).setCell (p := ⟨b, 9, none⟩) (.inr hb) u9).setCell (p := ⟨b, 10, none⟩) (.inr hb) u10)


theorem Span.put2 {b lo hi : Nat} {a w : World} (s : Span lo hi a w) (hb : lo ≤ b ∧ b < hi) (u0 u1 : Value) : Span lo hi a ((w.setCell ⟨b, 0, none⟩ u0).setCell ⟨b, 1, none⟩ u1) :=
  ((s.setCell (p := ⟨b, 0, none⟩) (.inl hb) u0).setCell (p := ⟨b, 1, none⟩) (.inl hb) u1)
theorem Bx.set2 {b : Nat} {x0 x1 : Value} {w : World} (h : Bx b #[x0, x1] w) (u0 u1 : Value) : Bx b #[u0, u1] ((w.setCell ⟨b, 0, none⟩ u0).setCell ⟨b, 1, none⟩ u1) := by
  have := ((h.set 0 u0 (by simp)).set 1 u1 (by simp))
  simpa using this
theorem Span.set2 {b lo hi : Nat} {a w : World} (s : Span lo hi a w) (hb : a.heap.size ≤ b) (u0 u1 : Value) : Span lo hi a ((w.setCell ⟨b, 0, none⟩ u0).setCell ⟨b, 1, none⟩ u1) :=
  ((s.setCell (p := ⟨b, 0, none⟩) (.inr hb) u0).setCell (p := ⟨b, 1, none⟩) (.inr hb) u1)
end Go.Proofs.Ytihdpljkllpkaaa
