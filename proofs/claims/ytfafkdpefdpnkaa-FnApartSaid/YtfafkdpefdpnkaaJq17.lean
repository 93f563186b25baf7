/- Boxes of any number of cells: one fact for all of them. Rings that are valid: IsRing. -/
import Derived.Test.YtfafkdpefdpnkaaJq3
import Derived.Test.YtfafkdpefdpnkaaJq16
import Derived.Test.YtfafkdpefdpnkaaJq6
import Derived.Deep.RegionWith
import Derived.Outline
namespace Go.Proofs.Ytfafkdpefdpnkaa
section
open Go.RowKit

/-- A box: a block that the call made, which holds these cells. -/
def Bx (b : Nat) (us : Array Value) (w : World) : Prop := b < w.heap.size ∧ (∀ i, w.cell? ⟨b, i, none⟩ = us[i]?) ∧ (∀ i, w.frozen? ⟨b, i, none⟩ = false)

theorem Bx.new (w : World) (us : Array Value) (t : TypeId) : Bx w.heap.size us (w.alloc (.cells us t)) :=
  ⟨by simp, fun i => by rw [World.cell?_alloc_new], fun i => by rw [World.frozen?_alloc_new]⟩
theorem Bx.span {b : Nat} {us : Array Value} {w w' : World} {lo hi : Nat} (h : Bx b us w) (hs : Span lo hi w w') (hd : hi ≤ lo ∨ b < lo ∨ hi ≤ b) : Bx b us w' := by
  have e := hs.block b h.1 (by omega)
  exact ⟨Nat.lt_of_lt_of_le h.1 hs.size, fun i => (World.cell?_of_block (w := w) (a := ⟨b, i, none⟩) e).trans (h.2.1 i), fun i => (World.frozen?_of_block (w := w) (a := ⟨b, i, none⟩) e).trans (h.2.2 i)⟩
theorem Bx.keep {b : Nat} {us : Array Value} {w w' : World} (h : Bx b us w) (hs : Span 0 0 w w') : Bx b us w' := h.span hs (.inl (Nat.le_refl _))
theorem Bx.alloc {b : Nat} {us : Array Value} {w : World} (h : Bx b us w) (o : Obj) : Bx b us (w.alloc o) := h.span ((Span.refl 0 0 w).alloc o) (.inl (Nat.le_refl _))
theorem Bx.drewN {b : Nat} {us : Array Value} {w : World} (h : Bx b us w) (n : Nat) : Bx b us (w.drewN n) := h
theorem Bx.other {b : Nat} {us : Array Value} {w : World} (h : Bx b us w) {a : Addr} (ha : a.block ≠ b) (v : Value) : Bx b us (w.setCell a v) :=
  ⟨by simpa [World.setCell] using h.1, fun i => (World.cell?_setCell_other w a ⟨b, i, none⟩ v (by intro e; apply ha; first | rw [e] | rw [← e])).trans (h.2.1 i), fun i => by rw [World.frozen?_setCell]; exact h.2.2 i⟩
theorem Bx.set {b : Nat} {us : Array Value} {w : World} (h : Bx b us w) (i : Nat) (v : Value) (hi : i < us.size) : Bx b (us.setIfInBounds i v) (w.setCell ⟨b, i, none⟩ v) := by
  refine ⟨by simpa [World.setCell] using h.1, fun j => ?_, fun j => by rw [World.frozen?_setCell]; exact h.2.2 j⟩
  by_cases hj : j = i
  · subst hj
    rw [World.cell?_setCell_same w ⟨b, j, none⟩ v (u := us[j]) (by rw [h.2.1 j]; simp [hi])]
    simp [hi]
  · rw [World.cell?_setCell_other w ⟨b, i, none⟩ ⟨b, j, none⟩ v (by intro e; injection e; omega), h.2.1 j]
    rw [Array.getElem?_setIfInBounds_ne (by omega)]
theorem Bx.cells {b : Nat} {us : Array Value} {w : World} (h : Bx b us w) : ∀ i, w.cell? ⟨b, i, none⟩ = us[i]? := h.2.1
theorem Bx.cellsA {b : Nat} {us : Array Value} {w : World} (h : Bx b us w) : ∀ o i, (w.alloc o).cell? ⟨b, i, none⟩ = us[i]? := fun o => (h.alloc o).2.1
theorem Bx.thaw {b : Nat} {us : Array Value} {w : World} (h : Bx b us w) : ∀ i, w.frozen? ⟨b, i, none⟩ = false := h.2.2
theorem Bx.thawA {b : Nat} {us : Array Value} {w : World} (h : Bx b us w) : ∀ o i, (w.alloc o).frozen? ⟨b, i, none⟩ = false := fun o => (h.alloc o).2.2
theorem Span.undrawn' {lo hi n : Nat} {a c : World} (h : Span lo hi (a.drewN n) c) : Span lo hi a c := ⟨h.os, h.tape, h.output, h.size, h.block⟩

theorem Span.put3 {b lo hi : Nat} {a w : World} (s : Span lo hi a w) (hb : lo ≤ b ∧ b < hi) (u0 u1 u2 : Value) : Span lo hi a (((w.setCell ⟨b, 0, none⟩ u0).setCell ⟨b, 1, none⟩ u1).setCell ⟨b, 2, none⟩ u2) :=
  (((s.setCell (p := ⟨b, 0, none⟩) (.inl hb) u0).setCell (p := ⟨b, 1, none⟩) (.inl hb) u1).setCell (p := ⟨b, 2, none⟩) (.inl hb) u2)
theorem Bx.set3 {b : Nat} {x0 x1 x2 : Value} {w : World} (h : Bx b #[x0, x1, x2] w) (u0 u1 u2 : Value) : Bx b #[u0, u1, u2] (((w.setCell ⟨b, 0, none⟩ u0).setCell ⟨b, 1, none⟩ u1).setCell ⟨b, 2, none⟩ u2) := by
  have := (((h.set 0 u0 (by simp)).set 1 u1 (by simp)).set 2 u2 (by simp))
  simpa using this
theorem Span.set3 {b lo hi : Nat} {a w : World} (s : Span lo hi a w) (hb : a.heap.size ≤ b) (u0 u1 u2 : Value) : Span lo hi a (((w.setCell ⟨b, 0, none⟩ u0).setCell ⟨b, 1, none⟩ u1).setCell ⟨b, 2, none⟩ u2) :=
  (((s.setCell (p := ⟨b, 0, none⟩) (.inr hb) u0).setCell (p := ⟨b, 1, none⟩) (.inr hb) u1).setCell (p := ⟨b, 2, none⟩) (.inr hb) u2)


theorem Span.put11 {b lo hi : Nat} {a w : World} (s : Span lo hi a w) (hb : lo ≤ b ∧ b < hi) (u0 u1 u2 u3 u4 u5 u6 u7 u8 u9 u10 : Value) : Span lo hi a (((((((((((w.setCell ⟨b, 0, none⟩ u0).setCell ⟨b, 1, none⟩ u1).setCell ⟨b, 2, none⟩ u2).setCell ⟨b, 3, none⟩ u3).setCell ⟨b, 4, none⟩ u4).setCell ⟨b, 5, none⟩ u5).setCell ⟨b, 6, none⟩ u6).setCell ⟨b, 7, none⟩ u7).setCell ⟨b, 8, none⟩ u8).setCell ⟨b, 9, none⟩ u9).setCell ⟨b, 10, none⟩ u10) :=
  (((((((((((s.setCell (p := ⟨b, 0, none⟩) (.inl hb) u0).setCell (p := ⟨b, 1, none⟩) (.inl hb) u1).setCell (p := ⟨b, 2, none⟩) (.inl hb) u2).setCell (p := ⟨b, 3, none⟩) (.inl hb) u3).setCell (p := ⟨b, 4, none⟩) (.inl hb) u4).setCell (p := ⟨b, 5, none⟩) (.inl hb) u5).setCell (p := ⟨b, 6, none⟩) (.inl hb) u6).setCell (p := ⟨b, 7, none⟩) (.inl hb) u7).setCell (p := ⟨b, 8, none⟩) (.inl hb) u8).setCell (p := ⟨b, 9, none⟩) (.inl hb) u9).setCell (p := ⟨b, 10, none⟩) (.inl hb) u10)
theorem Bx.set11 {b : Nat} {x0 x1 x2 x3 x4 x5 x6 x7 x8 x9 x10 : Value} {w : World} (h : Bx b #[x0, x1, x2, x3, x4, x5, x6, x7, x8, x9, x10] w) (u0 u1 u2 u3 u4 u5 u6 u7 u8 u9 u10 : Value) : Bx b #[u0, u1, u2, u3, u4, u5, u6, u7, u8, u9, u10] (((((((((((w.setCell ⟨b, 0, none⟩ u0).setCell ⟨b, 1, none⟩ u1).setCell ⟨b, 2, none⟩ u2).setCell ⟨b, 3, none⟩ u3).setCell ⟨b, 4, none⟩ u4).setCell ⟨b, 5, none⟩ u5).setCell ⟨b, 6, none⟩ u6).setCell ⟨b, 7, none⟩ u7).setCell ⟨b, 8, none⟩ u8).setCell ⟨b, 9, none⟩ u9).setCell ⟨b, 10, none⟩ u10) := by
  have := (((((((((((h.set 0 u0 (by simp)).set 1 u1 (by simp)).set 2 u2 (by simp)).set 3 u3 (by simp)).set 4 u4 (by simp)).set 5 u5 (by simp)).set 6 u6 (by simp)).set 7 u7 (by simp)).set 8 u8 (by simp)).set 9 u9 (by simp)).set 10 u10 (by simp))
  simpa using this
theorem Span.set11 {b lo hi : Nat} {a w : World} (s : Span lo hi a w) (hb : a.heap.size ≤ b) (u0 u1 u2 u3 u4 u5 u6 u7 u8 u9 u10 : Value) : Span lo hi a (((((((((((w.setCell ⟨b, 0, none⟩ u0).setCell ⟨b, 1, none⟩ u1).setCell ⟨b, 2, none⟩ u2).setCell ⟨b, 3, none⟩ u3).setCell ⟨b, 4, none⟩ u4).setCell ⟨b, 5, none⟩ u5).setCell ⟨b, 6, none⟩ u6).setCell ⟨b, 7, none⟩ u7).setCell ⟨b, 8, none⟩ u8).setCell ⟨b, 9, none⟩ u9).setCell ⟨b, 10, none⟩ u10) :=
  (((((((((((s.setCell (p := ⟨b, 0, none⟩) (.inr hb) u0).setCell (p := ⟨b, 1, none⟩) (.inr hb) u1).setCell (p := ⟨b, 2, none⟩) (.inr hb) u2).setCell (p := ⟨b, 3, none⟩) (.inr hb) u3).setCell (p := ⟨b, 4, none⟩) (.inr hb) u4).setCell (p := ⟨b, 5, none⟩) (.inr hb) u5).setCell (p := ⟨b, 6, none⟩) (.inr hb) u6).setCell (p := ⟨b, 7, none⟩) (.inr hb) u7).setCell (p := ⟨b, 8, none⟩) (.inr hb) u8).setCell (p := ⟨b, 9, none⟩) (.inr hb) u9).setCell (p := ⟨b, 10, none⟩) (.inr hb) u10)


theorem Span.put2 {b lo hi : Nat} {a w : World} (s : Span lo hi a w) (hb : lo ≤ b ∧ b < hi) (u0 u1 : Value) : Span lo hi a ((w.setCell ⟨b, 0, none⟩ u0).setCell ⟨b, 1, none⟩ u1) :=
  ((s.setCell (p := ⟨b, 0, none⟩) (.inl hb) u0).setCell (p := ⟨b, 1, none⟩) (.inl hb) u1)
theorem Bx.set2 {b : Nat} {x0 x1 : Value} {w : World} (h : Bx b #[x0, x1] w) (u0 u1 : Value) : Bx b #[u0, u1] ((w.setCell ⟨b, 0, none⟩ u0).setCell ⟨b, 1, none⟩ u1) := by
  have := ((h.set 0 u0 (by simp)).set 1 u1 (by simp))
  simpa using this
theorem Span.set2 {b lo hi : Nat} {a w : World} (s : Span lo hi a w) (hb : a.heap.size ≤ b) (u0 u1 : Value) : Span lo hi a ((w.setCell ⟨b, 0, none⟩ u0).setCell ⟨b, 1, none⟩ u1) :=
  ((s.setCell (p := ⟨b, 0, none⟩) (.inr hb) u0).setCell (p := ⟨b, 1, none⟩) (.inr hb) u1)
end
section
open Go.RowKit

/-- A ring as numbers: at most 16 places, the free ones are 0. -/
def ValidR (xs : List Cx) (a k : Nat) : Prop := 1 ≤ xs.length ∧ xs.length ≤ 16 ∧ a < xs.length ∧ k ≤ xs.length ∧ ∀ j, k ≤ j → j < xs.length → xs[(a + j) % xs.length]? = some (0, 0)

theorem isPlainZero_zero (w : World) : Calls Try.prog 65 #[.complex .f32 0 0] w fun e w' => e = .returned (.bool true) ∧ w = w' := by
  have hb := run_float32bits
  go_enter Try.func65, Try.ntmps65
  go_wp2_with fail
  go_ret
  exact ⟨rfl, rfl⟩

theorem ringIndex_any (A : Option Addr) (n p a j : Nat) (c : Int) (h1 : 1 ≤ n) (h2 : n ≤ 16) (ha : a ≤ 16) (hj : j ≤ 16) (w : World) : Calls Try.prog 42 #[.agg #[.slice A n p, .int .i64 (a : Int), .int .i64 c], .int .i64 (j : Int)] w fun e w' => e = .returned (.int .i64 (((a + j) % n : Nat) : Int)) ∧ Span 0 0 w w' := by
  have i0 : ¬ ((n : Int) = 0) := by omega
  have i1 : ¬ (n = 0) := by omega
  have i2 : ((a : Int) + (j : Int)).tmod (n : Int) = (((a + j) % n : Nat) : Int) := by
    rw [← Int.natCast_add, Int.ofNat_tmod]
  have i3 : IntKind.i64.wrap (((a + j) % n : Nat) : Int) = (((a + j) % n : Nat) : Int) := IntWalk.i64_in _ (by have := Nat.mod_lt (a + j) (show 0 < n by omega); omega)
  obtain ⟨q, hq⟩ : ∃ q, q = (a + j) % n := ⟨_, rfl⟩
  rw [← hq] at i2 i3 ⊢
  clear hq
  go_enter Try.func42, Try.ntmps42
  go_wp2_with fail
  go_ret
  exact ⟨rfl, (Span.refl _ _ _).alloc _⟩

set_option maxRecDepth 100000 in
set_option maxHeartbeats 2000000 in
theorem isRing_true (xs : List Cx) (a k : Nat) (hv : ValidR xs a k) (o : Bool) (b lo hi : Nat) (v : Value) (w : World) (hx : HasS cxV o b lo hi w v xs) :
    Calls Try.prog 41 #[.agg #[v, .int .i64 (a : Int), .int .i64 (k : Int)]] w (True0 w) := by
  obtain ⟨h1, h2, h3, h4, h5⟩ := hv
  have HX := Lib.hid hx
  obtain ⟨A, p, rfl, hp, hc⟩ := hx
  obtain ⟨n, hn⟩ : ∃ n, n = xs.length := ⟨_, rfl⟩
  rw [← hn] at h1 h2 h3 h4 h5 HX hp hc ⊢
  have HN := Lib.hid hn
  have H5 := Lib.hid h5
  obtain ⟨off, rfl, _, _, hbs, hcell, _⟩ := hc (by omega)
  have HC := Lib.hid hcell
  have X := Lib.hid (Bx.new w #[.slice (some ⟨b, off, none⟩) n p, .int .i64 (a : Int), .int .i64 (k : Int)] 52)
  have HS0 := Lib.hid ((Span.refl 0 0 w).alloc (.cells #[.slice (some ⟨b, off, none⟩) n p, .int .i64 (a : Int), .int .i64 (k : Int)] 52))
  have HB := Lib.hid hbs
  have d1 : decide ((n : Int) < 1) = false := by rw [decide_eq_false_iff_not]; omega
  have d2 : decide ((16 : Int) < (n : Int)) = false := by rw [decide_eq_false_iff_not]; omega
  have d3 : decide ((a : Int) < 0) = false := by rw [decide_eq_false_iff_not]; omega
  have d4 : decide ((n : Int) ≤ (a : Int)) = false := by rw [decide_eq_false_iff_not]; omega
  have d5 : decide ((k : Int) < 0) = false := by rw [decide_eq_false_iff_not]; omega
  have d6 : decide ((n : Int) < (k : Int)) = false := by rw [decide_eq_false_iff_not]; omega
  have f1 : ¬ (n < 1) := by omega
  have f2 : ¬ (16 < n) := by omega
  have f4 : ¬ (n ≤ a) := by omega
  have f4' : a < n := by omega
  have f6 : ¬ (n < k) := by omega
  have f6' : k ≤ n := by omega
  have HN1 := Lib.hid h1
  have HN2 := Lib.hid h2
  have HN3 := Lib.hid h3
  have HN4 := Lib.hid h4
  clear hc hcell hn h5 hbs h1 h2 h3 h4 hp
  go_enter Try.func41, Try.ntmps41
  go_wp2_with fail
  generalize w.alloc (.cells #[.slice (some ⟨b, off, none⟩) n p, .int .i64 (a : Int), .int .i64 (k : Int)] 52) = w0 at *
  go_loopw [4] (fun i wr => ∃ j : Nat, k ≤ j ∧ j ≤ n ∧ i = .int .i64 j ∧ Span 0 0 w0 wr) (fun i _ => n - (intOf i).toNat)
  case atStart => exact ⟨k, Nat.le_refl _, HN4.out, rfl, Span.refl _ _ _⟩
  case round =>
    obtain ⟨j, hkj, hjn, rfl, hs⟩ := hrel
    have cx := (X.out.keep hs).cells
    have HSr := Lib.hid (HS0.out.trans hs)
    have HXr := Lib.hid (X.out.keep hs)
    by_cases hlt : j < n
    · obtain ⟨q, hq⟩ : ∃ q, q = (a + j) % n := ⟨_, rfl⟩
      have hqn : q < n := by rw [hq]; exact Nat.mod_lt _ (by omega)
      have hz := H5.out j hkj hlt
      rw [← hq] at hz
      have hck : wr.cell? ⟨b, off + q, none⟩ = some (.complex .f32 0 0) := ((HSr.out.cells (Nat.le_refl _)).1 b _ HB.out).trans (HC.out q _ hz)
      have RI := Lib.hid (ringIndex_any (some ⟨b, off, none⟩) n p a j (k : Int) HN1.out HN2.out (by have := HN3.out; have := HN2.out; omega) (by have := HN2.out; omega))
      rw [← hq] at RI
      have HCK := Lib.hid hck
      have j0 : (0 : Int) ≤ (q : Int) := by omega
      have j1 : (q : Int) < (n : Int) := by omega
      have HJ := Lib.hid hlt
      have HK := Lib.hid hkj
      have HS1 := Lib.hid hs
      clear hq hz hs hkj hjn
      go_wp2_with fail
      go_region_with (first
        | (go_at_call 42; go_loud ((refine (RI.out _).mono ?_; rintro _ wq ⟨rfl, sq⟩; have SQ : Hid (Span 0 0 wr wq) := (by first | exact sq | exact sq.undrawn | exact Span.undrawn (n := 1) sq); have cq := (HXr.out.keep SQ.out).cells; have hcq : wq.cell? ⟨b, off + q, none⟩ = some (.complex .f32 0 0) := ((SQ.out.cells (Nat.le_refl _)).1 b _ (Nat.lt_of_lt_of_le HB.out HSr.out.size)).trans HCK.out; clear sq)))
        | (go_at_call 65; go_loud (refine (isPlainZero_zero _).mono ?_; rintro _ _ ⟨rfl, rfl⟩)))
      all_goals
        go_wp2_with fail
        go_roundw
        case rel => exact ⟨j + 1, by have := HK.out; omega, by omega, by go_num, by first | exact HS1.out.trans SQ.out | exact (HS1.out.trans SQ.out).drewN _⟩
        case measure => simp [intOf]; omega
    · have hje : j = n := by omega
      have HJ := Lib.hid hje
      clear hje hs
      go_wp2_with fail
      go_ret
      exact ⟨rfl, HSr.out⟩
end
end Go.Proofs.Ytfafkdpefdpnkaa
