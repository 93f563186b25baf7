/- Slices whose elements are one cell each, their blocks, and how far a call turns memory. Boxes of any number of cells: one fact for all of them. -/
import Derived.Test.YtkjlodoppmipfaaGreatJg2
namespace Go.Proofs.YtkjlodoppmipfaaGreat
section
open Go.RowKit

/-- w' is w but for the blocks from lo on and before hi, and for new ones. -/
structure Span (lo hi : Nat) (w w' : World) : Prop where
  os : w'.os = w.os
  tape : w'.tape = w.tape
  output : w'.output = w.output
  size : w.heap.size ≤ w'.heap.size
  block : ∀ k, k < w.heap.size → ¬ (lo ≤ k ∧ k < hi) → w'.heap[k]? = w.heap[k]?

theorem Span.refl (lo hi : Nat) (w : World) : Span lo hi w w := ⟨rfl, rfl, rfl, Nat.le_refl _, fun _ _ _ => rfl⟩

theorem Span.of_below {w w' : World} (h : Below w.heap.size w w') : Span 0 0 w w' := ⟨h.os, h.tape, h.output, h.size, fun k hk _ => h.block k hk⟩

theorem Span.to_below {w w' : World} {lo hi : Nat} (h : Span lo hi w w') (hl : hi ≤ lo ∨ w.heap.size ≤ lo) : Below w.heap.size w w' :=
  ⟨h.os, h.tape, h.output, h.size, fun k hk => h.block k hk (by omega)⟩

theorem Span.below {B : Nat} {W w w' : World} {lo hi : Nat} (h : Span lo hi w w') (hb : Below B W w) (hl : hi ≤ lo ∨ B ≤ lo) (hB : B ≤ w.heap.size) : Below B W w' :=
  hb.trans ⟨h.os, h.tape, h.output, h.size, fun k hk => h.block k (by omega) (by omega)⟩

theorem Span.wide {lo hi lo' hi' : Nat} {w w' : World} (h : Span lo hi w w') (hw : ∀ k, k < w.heap.size → lo ≤ k ∧ k < hi → lo' ≤ k ∧ k < hi') : Span lo' hi' w w' :=
  ⟨h.os, h.tape, h.output, h.size, fun k hk hn => h.block k hk (fun hc => hn (hw k hk hc))⟩

theorem Span.trans {lo hi : Nat} {a b c : World} (h : Span lo hi a b) (k : Span lo hi b c) : Span lo hi a c :=
  ⟨k.os.trans h.os, k.tape.trans h.tape, k.output.trans h.output, Nat.le_trans h.size k.size, fun i hi' hn => (k.block i (Nat.lt_of_lt_of_le hi' h.size) hn).trans (h.block i hi' hn)⟩

/-- Behind a step that turns only new blocks. -/
theorem Span.after {lo hi : Nat} {a b c : World} (k : Span lo hi b c) (h : Span 0 0 a b) : Span lo hi a c :=
  (h.wide (fun _ _ hc => absurd hc.2 (by omega))).trans k

theorem Span.alloc {lo hi : Nat} {a b : World} (h : Span lo hi a b) (o : Obj) : Span lo hi a (b.alloc o) :=
  h.trans ⟨rfl, rfl, rfl, by simp, fun k hk _ => Below.heap_alloc _ _ _ hk⟩

theorem Span.drewN {lo hi : Nat} {a b : World} (h : Span lo hi a b) (n : Nat) : Span lo hi a (b.drewN n) := ⟨h.os, h.tape, h.output, h.size, h.block⟩
theorem Span.drew {lo hi : Nat} {a b : World} (h : Span lo hi a b) : Span lo hi a b.drew := ⟨h.os, h.tape, h.output, h.size, h.block⟩
theorem Span.setCell {lo hi : Nat} {a b : World} (h : Span lo hi a b) {p : Addr} (hp : (lo ≤ p.block ∧ p.block < hi) ∨ a.heap.size ≤ p.block) (u : Value) : Span lo hi a (b.setCell p u) :=
  ⟨h.os, h.tape, h.output, by simpa [World.setCell] using h.size, fun k hk hn => (Below.heap_setCell b p u k (by omega)).trans (h.block k hk hn)⟩
theorem Span.grown {lo hi : Nat} {a b c : World} {row : Option Nat} (h : Span lo hi a b) (hg : b.grownBy c row) (hr : ∀ k, row = some k → (lo ≤ k ∧ k < hi) ∨ a.heap.size ≤ k) : Span lo hi a c :=
  ⟨hg.os.trans h.os, hg.tape.trans h.tape, hg.output.trans h.output, Nat.le_trans h.size hg.size, fun k hk hn =>
    (hg.block k (Nat.lt_of_lt_of_le hk h.size) (fun e => by have := hr k e.symm; omega)).trans (h.block k hk hn)⟩

theorem Span.cells {lo hi : Nat} {w w' : World} (h : Span lo hi w w') (hl : hi ≤ lo) : (∀ b o, b < w.heap.size → w'.cell? ⟨b, o, none⟩ = w.cell? ⟨b, o, none⟩) ∧ (∀ b o, b < w.heap.size → w'.frozen? ⟨b, o, none⟩ = w.frozen? ⟨b, o, none⟩) :=
  ⟨fun b o hb => World.cell?_of_block (w := w) (h.block b hb (by omega)), fun b o hb => World.frozen?_of_block (w := w) (h.block b hb (by omega))⟩

/-- A slice that reads as xs, each element a cell, in block b; nil is let in; 'own': its cells may be written. -/
def HasS {α : Type} (val : α → Value) (own : Bool) (b lo hi : Nat) (w : World) (v : Value) (xs : List α) : Prop :=
  ∃ (A : Option Addr) (cap : Nat), v = .slice A xs.length cap ∧ xs.length ≤ cap ∧
    (0 < xs.length → ∃ off, A = some ⟨b, off, none⟩ ∧ lo ≤ b ∧ b < hi ∧ b < w.heap.size ∧
      (∀ j x, xs[j]? = some x → w.cell? ⟨b, off + j, none⟩ = some (val x)) ∧ (own = true → ∀ j, j < xs.length → w.frozen? ⟨b, off + j, none⟩ = false))

theorem HasS.same {α : Type} {val : α → Value} {own : Bool} {b lo hi : Nat} {w w' : World} {v : Value} {xs : List α} (h : HasS val own b lo hi w v xs) (hb : b < w.heap.size → b < w'.heap.size ∧ w'.heap[b]? = w.heap[b]?) : HasS val own b lo hi w' v xs := by
  obtain ⟨A, cap, rfl, hcap, hc⟩ := h
  refine ⟨A, cap, rfl, hcap, fun hp => ?_⟩
  obtain ⟨off, rfl, h1, h2, h3, h4, h5⟩ := hc hp
  obtain ⟨g1, g2⟩ := hb h3
  exact ⟨off, rfl, h1, h2, g1, fun j x hj => (World.cell?_of_block (w := w) g2).trans (h4 j x hj), fun ho j hj => (World.frozen?_of_block (w := w) g2).trans (h5 ho j hj)⟩

theorem HasS.span {α : Type} {val : α → Value} {own : Bool} {b lo hi l r : Nat} {w w' : World} {v : Value} {xs : List α} (h : HasS val own b lo hi w v xs) (hs : Span l r w w') (hd : r ≤ l ∨ hi ≤ l ∨ r ≤ lo ∨ b < l ∨ r ≤ b) : HasS val own b lo hi w' v xs := by
  obtain ⟨A, cap, rfl, hcap, hc⟩ := h
  refine ⟨A, cap, rfl, hcap, fun hp => ?_⟩
  obtain ⟨off, rfl, h1, h2, h3, h4, h5⟩ := hc hp
  have g2 := hs.block b h3 (by omega)
  exact ⟨off, rfl, h1, h2, Nat.lt_of_lt_of_le h3 hs.size, fun j x hj => (World.cell?_of_block (w := w) g2).trans (h4 j x hj), fun ho j hj => (World.frozen?_of_block (w := w) g2).trans (h5 ho j hj)⟩

theorem HasS.weak {α : Type} {val : α → Value} {own : Bool} {b lo hi lo' hi' : Nat} {w : World} {v : Value} {xs : List α} (h : HasS val own b lo hi w v xs) (h1 : lo' ≤ lo) (h2 : hi ≤ hi' ∨ w.heap.size ≤ hi') : HasS val own b lo' hi' w v xs := by
  obtain ⟨A, cap, rfl, hcap, hc⟩ := h
  refine ⟨A, cap, rfl, hcap, fun hp => ?_⟩
  obtain ⟨off, rfl, g1, g2, g3, g4, g5⟩ := hc hp
  exact ⟨off, rfl, by omega, by omega, g3, g4, g5⟩

theorem HasS.drewN {α : Type} {val : α → Value} {own : Bool} {b lo hi : Nat} {w : World} {v : Value} {xs : List α} (h : HasS val own b lo hi w v xs) (n : Nat) : HasS val own b lo hi (w.drewN n) v xs := h

theorem HasS.alloc {α : Type} {val : α → Value} {own : Bool} {b lo hi : Nat} {w : World} {v : Value} {xs : List α} (h : HasS val own b lo hi w v xs) (o : Obj) : HasS val own b lo hi (w.alloc o) v xs :=
  h.span (Span.alloc (Span.refl 0 0 _) o) (by omega)

theorem HasS.bare {α : Type} {val : α → Value} {own : Bool} {b lo hi : Nat} {w : World} {v : Value} {xs : List α} (h : HasS val own b lo hi w v xs) : HasS val false b lo hi w v xs := by
  obtain ⟨A, cap, rfl, hcap, hc⟩ := h
  refine ⟨A, cap, rfl, hcap, fun hp => ?_⟩
  obtain ⟨off, rfl, g1, g2, g3, g4, g5⟩ := hc hp
  exact ⟨off, rfl, g1, g2, g3, g4, fun h => by cases h⟩

theorem HasS.empty {α : Type} (val : α → Value) (own : Bool) (b lo hi : Nat) (w : World) (A : Option Addr) (c : Nat) : HasS val own b lo hi w (.slice A 0 c) [] :=
  ⟨A, c, rfl, Nat.zero_le _, fun h => absurd h (by simp)⟩

/-- What a filled block of the call's own reads as. -/
theorem Filled.hasS {α : Type} {val : α → Value} {w : World} {g lo hi : Nat} {e : TypeId} {f : Nat → Value} {xs : List α} (h : Filled w g e xs.length xs.length f) (hf : ∀ j x, xs[j]? = some x → f j = val x) (h1 : lo ≤ g) (h2 : g < hi) : HasS val true g lo hi w (.slice (some ⟨g, 0, none⟩) xs.length xs.length) xs := by
  refine ⟨_, _, rfl, Nat.le_refl _, fun hp => ⟨0, rfl, h1, h2, ?_, fun j x hj => ?_, fun _ j hj => h.frozen _⟩⟩
  · obtain ⟨cs, hh, _⟩ := h
    by_cases hg : g < w.heap.size
    · exact hg
    · rw [Array.getElem?_eq_none (by omega)] at hh; cases hh
  · rw [Nat.zero_add, h.at_ (List.getElem?_eq_some_iff.1 hj).1, hf j x hj]

theorem getElem?_some {α : Type} {xs : List α} {j : Nat} (h : j < xs.length) : ∃ x, xs[j]? = some x := ⟨xs[j], List.getElem?_eq_getElem h⟩

/-- What the call owns reads so. -/
theorem ownsRow_hasS {α : Type} {val : α → Value} {w : World} {base : Nat} {e : TypeId} {v : Value} {n : Nat} {xs : List α} (h : w.ownsRow base e 1 v n (xs.map val)) :
    ∃ b, HasS val true b base w.heap.size w v xs ∧ n = xs.length ∧ (0 < xs.length → v.ownBlock = some b) := by
  obtain ⟨hl, h | ⟨g, cap, cur, rfl, hg, hh, hn, hm, hc, ht⟩⟩ := h
  · obtain ⟨rfl, rfl⟩ := h
    have : xs = [] := by cases xs with | nil => rfl | cons a l => simp at hl
    subst this
    exact ⟨0, HasS.empty _ _ _ _ _ _ _ _, rfl, fun h => absurd h (by simp)⟩
  · simp only [List.length_map, Nat.mul_one] at hl ht hc
    have hlt : g < w.heap.size := by
      by_cases hg : g < w.heap.size
      · exact hg
      · rw [Array.getElem?_eq_none (by omega)] at hh; cases hh
    refine ⟨g, ⟨_, cap, by rw [hl], by omega, fun _ => ⟨0, rfl, hg, hlt, hlt, fun j x hj => ?_, fun _ j hj => ?_⟩⟩, hl.symm, fun _ => rfl⟩
    · have hj' := (List.getElem?_eq_some_iff.1 hj).1
      have e1 : (xs.map val)[j]? = some (val x) := by rw [List.getElem?_map, hj]; rfl
      rw [← ht, List.getElem?_take_of_lt (by omega)] at e1
      unfold World.cell?
      simp only [hh, Nat.zero_add]
      simpa using e1
    · unfold World.frozen?
      simp [hh]

/-- A float's two parts. -/
abbrev Cx := Nat × Nat
def cxV (z : Cx) : Value := .complex .f32 z.1 z.2
def intV (n : Int) : Value := .int .i64 n
end
section
open Go.RowKit

/-- A box: a block that the call made, which holds these cells. -/
def Bx (b : Nat) (us : Array Value) (w : World) : Prop := b < w.heap.size ∧ (∀ i, w.cell? ⟨b, i, none⟩ = us[i]?) ∧ (∀ i, w.frozen? ⟨b, i, none⟩ = false)

theorem Bx.new (w : World) (us : Array Value) (t : TypeId) : Bx w.heap.size us (w.alloc (.cells us t)) :=
  ⟨by simp, fun i => by rw [World.cell?_alloc_new], fun i => by rw [World.frozen?_alloc_new]⟩
theorem Bx.span {b : Nat} {us : Array Value} {w w' : World} {lo hi : Nat} (h : Bx b us w) (hs : Span lo hi w w') (hd : hi ≤ lo ∨ b < lo ∨ hi ≤ b) : Bx b us w' := by
  have e := hs.block b h.1 (by omega)
  exact ⟨Nat.lt_of_lt_of_le h.1 hs.size, fun i => (World.cell?_of_block (w := w) (a := ⟨b, i, none⟩) e).trans (h.2.1 i), fun i => (World.frozen?_of_block (w := w) (a := ⟨b, i, none⟩) e).trans (h.2.2 i)⟩
theorem Bx.keep {b : Nat} {us : Array Value} {w w' : World} (h : Bx b us w) (hs : Span 0 0 w w') : Bx b us w' := h.span hs (.inl (Nat.le_refl _))
theorem Bx.alloc {b : Nat} {us : Array Value} {w : World} (h : Bx b us w) (o : Obj) : Bx b us (w.alloc o) := h.span ((Span.refl 0 0 w).alloc o) (.inl (Nat.le_refl _))
theorem Bx.drewN {b : Nat} {us : Array Value} {w : World} (h : Bx b us w) (n : Nat) : Bx b us (w.drewN n) := h
theorem Bx.other {b : Nat} {us : Array Value} {w : World} (h : Bx b us w) {a : Addr} (ha : a.block ≠ b) (v : Value) : Bx b us (w.setCell a v) :=
  ⟨by simpa [World.setCell] using h.1, fun i => (World.cell?_setCell_other w a ⟨b, i, none⟩ v (by intro e; apply ha; first | rw [e] | rw [← e])).trans (h.2.1 i), fun i => by rw [World.frozen?_setCell]; exact h.2.2 i⟩
theorem Bx.set {b : Nat} {us : Array Value} {w : World} (h : Bx b us w) (i : Nat) (v : Value) (hi : i < us.size) : Bx b (us.setIfInBounds i v) (w.setCell ⟨b, i, none⟩ v) := by
  refine ⟨by simpa [World.setCell] using h.1, fun j => ?_, fun j => by rw [World.frozen?_setCell]; exact h.2.2 j⟩
  by_cases hj : j = i
  · subst hj
    rw [World.cell?_setCell_same w ⟨b, j, none⟩ v (u := us[j]) (by rw [h.2.1 j]; simp [hi])]
    simp [hi]
  · rw [World.cell?_setCell_other w ⟨b, i, none⟩ ⟨b, j, none⟩ v (by intro e; injection e; omega), h.2.1 j]
    rw [Array.getElem?_setIfInBounds_ne (by omega)]
theorem Bx.cells {b : Nat} {us : Array Value} {w : World} (h : Bx b us w) : ∀ i, w.cell? ⟨b, i, none⟩ = us[i]? := h.2.1
theorem Bx.cellsA {b : Nat} {us : Array Value} {w : World} (h : Bx b us w) : ∀ o i, (w.alloc o).cell? ⟨b, i, none⟩ = us[i]? := fun o => (h.alloc o).2.1
theorem Bx.thaw {b : Nat} {us : Array Value} {w : World} (h : Bx b us w) : ∀ i, w.frozen? ⟨b, i, none⟩ = false := h.2.2
theorem Bx.thawA {b : Nat} {us : Array Value} {w : World} (h : Bx b us w) : ∀ o i, (w.alloc o).frozen? ⟨b, i, none⟩ = false := fun o => (h.alloc o).2.2
theorem Span.undrawn' {lo hi n : Nat} {a c : World} (h : Span lo hi (a.drewN n) c) : Span lo hi a c := ⟨h.os, h.tape, h.output, h.size, h.block⟩

theorem Span.put3 {b lo hi : Nat} {a w : World} (s : Span lo hi a w) (hb : lo ≤ b ∧ b < hi) (u0 u1 u2 : Value) : Span lo hi a (((w.setCell ⟨b, 0, none⟩ u0).setCell ⟨b, 1, none⟩ u1).setCell ⟨b, 2, none⟩ u2) :=
  (((s.setCell (p := ⟨b, 0, none⟩) (.inl hb) u0).setCell (p := ⟨b, 1, none⟩) (.inl hb) u1).setCell (p := ⟨b, 2, none⟩) (.inl hb) u2)
theorem Bx.set3 {b : Nat} {x0 x1 x2 : Value} {w : World} (h : Bx b #[x0, x1, x2] w) (u0 u1 u2 : Value) : Bx b #[u0, u1, u2] (((w.setCell ⟨b, 0, none⟩ u0).setCell ⟨b, 1, none⟩ u1).setCell ⟨b, 2, none⟩ u2) := by
  have := (((h.set 0 u0 (by simp)).set 1 u1 (by simp)).set 2 u2 (by simp))
  simpa using this
theorem Span.set3 {b lo hi : Nat} {a w : World} (s : Span lo hi a w) (hb : a.heap.size ≤ b) (u0 u1 u2 : Value) : Span lo hi a (((w.setCell ⟨b, 0, none⟩ u0).setCell ⟨b, 1, none⟩ u1).setCell ⟨b, 2, none⟩ u2) :=
  (((s.setCell (p := ⟨b, 0, none⟩) (.inr hb) u0).setCell (p := ⟨b, 1, none⟩) (.inr hb) u1).setCell (p := ⟨b, 2, none⟩) (.inr hb) u2)


theorem Span.put11 {b lo hi : Nat} {a w : World} (s : Span lo hi a w) (hb : lo ≤ b ∧ b < hi) (u0 u1 u2 u3 u4 u5 u6 u7 u8 u9 u10 : Value) : Span lo hi a (((((((((((w.setCell ⟨b, 0, none⟩ u0).setCell ⟨b, 1, none⟩ u1).setCell ⟨b, 2, none⟩ u2).setCell ⟨b, 3, none⟩ u3).setCell ⟨b, 4, none⟩ u4).setCell ⟨b, 5, none⟩ u5).setCell ⟨b, 6, none⟩ u6).setCell ⟨b, 7, none⟩ u7).setCell ⟨b, 8, none⟩ u8).setCell ⟨b, 9, none⟩ u9).setCell ⟨b, 10, none⟩ u10) :=
  (((((((((((s.setCell (p := ⟨b, 0, none⟩) (.inl hb) u0).setCell (p := ⟨b, 1, none⟩) (.inl hb) u1).setCell (p := ⟨b, 2, none⟩) (.inl hb) u2).setCell (p := ⟨b, 3, none⟩) (.inl hb) u3).setCell (p := ⟨b, 4, none⟩) (.inl hb) u4).setCell (p := ⟨b, 5, none⟩) (.inl hb) u5).setCell (p := ⟨b, 6, none⟩) (.inl hb) u6).setCell (p := ⟨b, 7, none⟩) (.inl hb) u7).setCell (p := ⟨b, 8, none⟩) (.inl hb) u8).setCell (p := ⟨b, 9, none⟩) (.inl hb) u9).setCell (p := ⟨b, 10, none⟩) (.inl hb) u10)
theorem Bx.set11 {b : Nat} {x0 x1 x2 x3 x4 x5 x6 x7 x8 x9 x10 : Value} {w : World} (h : Bx b #[x0, x1, x2, x3, x4, x5, x6, x7, x8, x9, x10] w) (u0 u1 u2 u3 u4 u5 u6 u7 u8 u9 u10 : Value) : Bx b #[u0, u1, u2, u3, u4, u5, u6, u7, u8, u9, u10] (((((((((((w.setCell ⟨b, 0, none⟩ u0).setCell ⟨b, 1, none⟩ u1).setCell ⟨b, 2, none⟩ u2).setCell ⟨b, 3, none⟩ u3).setCell ⟨b, 4, none⟩ u4).setCell ⟨b, 5, none⟩ u5).setCell ⟨b, 6, none⟩ u6).setCell ⟨b, 7, none⟩ u7).setCell ⟨b, 8, none⟩ u8).setCell ⟨b, 9, none⟩ u9).setCell ⟨b, 10, none⟩ u10) := by
  have := (((((((((((h.set 0 u0 (by simp)).set 1 u1 (by simp)).set 2 u2 (by simp)).set 3 u3 (by simp)).set 4 u4 (by simp)).set 5 u5 (by simp)).set 6 u6 (by simp)).set 7 u7 (by simp)).set 8 u8 (by simp)).set 9 u9 (by simp)).set 10 u10 (by simp))
  simpa using this
theorem Span.set11 {b lo hi : Nat} {a w : World} (s : Span lo hi a w) (hb : a.heap.size ≤ b) (u0 u1 u2 u3 u4 u5 u6 u7 u8 u9 u10 : Value) : Span lo hi a (((((((((((w.setCell ⟨b, 0, none⟩ u0).setCell ⟨b, 1, none⟩ u1).setCell ⟨b, 2, none⟩ u2).setCell ⟨b, 3, none⟩ u3).setCell ⟨b, 4, none⟩ u4).setCell ⟨b, 5, none⟩ u5).setCell ⟨b, 6, none⟩ u6).setCell ⟨b, 7, none⟩ u7).setCell ⟨b, 8, none⟩ u8).setCell ⟨b, 9, none⟩ u9).setCell ⟨b, 10, none⟩ u10) :=
  (((((((((((s.setCell (p := ⟨b, 0, none⟩) (.inr hb) u0).setCell (p := ⟨b, 1, none⟩) (.inr hb) u1).setCell (p := ⟨b, 2, none⟩) (.inr hb) u2).setCell (p := ⟨b, 3, none⟩) (.inr hb) u3).setCell (p := ⟨b, 4, none⟩) (.inr hb) u4).setCell (p := ⟨b, 5, none⟩) (.inr hb) u5).setCell (p := ⟨b, 6, none⟩) (.inr hb) u6).setCell (p := ⟨b, 7, none⟩) (.inr hb) u7).setCell (p := ⟨b, 8, none⟩) (.inr hb) u8).setCell (p := ⟨b, 9, none⟩) (.inr hb) u9).setCell (p := ⟨b, 10, none⟩) (.inr hb) u10)


theorem Span.put2 {b lo hi : Nat} {a w : World} (s : Span lo hi a w) (hb : lo ≤ b ∧ b < hi) (u0 u1 : Value) : Span lo hi a ((w.setCell ⟨b, 0, none⟩ u0).setCell ⟨b, 1, none⟩ u1) :=
  ((s.setCell (p := ⟨b, 0, none⟩) (.inl hb) u0).setCell (p := ⟨b, 1, none⟩) (.inl hb) u1)
theorem Bx.set2 {b : Nat} {x0 x1 : Value} {w : World} (h : Bx b #[x0, x1] w) (u0 u1 : Value) : Bx b #[u0, u1] ((w.setCell ⟨b, 0, none⟩ u0).setCell ⟨b, 1, none⟩ u1) := by
  have := ((h.set 0 u0 (by simp)).set 1 u1 (by simp))
  simpa using this
theorem Span.set2 {b lo hi : Nat} {a w : World} (s : Span lo hi a w) (hb : a.heap.size ≤ b) (u0 u1 : Value) : Span lo hi a ((w.setCell ⟨b, 0, none⟩ u0).setCell ⟨b, 1, none⟩ u1) :=
  ((s.setCell (p := ⟨b, 0, none⟩) (.inr hb) u0).setCell (p := ⟨b, 1, none⟩) (.inr hb) u1)
end
end Go.Proofs.YtkjlodoppmipfaaGreat
