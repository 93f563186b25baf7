/- Rings are made. -/
import Derived.Test.YtdmahikaajdkgaaJb15
import Derived.Outline
namespace Go.Proofs.Ytdmahikaajdkgaa
open Go.RowKit

theorem HasR.form {own : Bool} {lo hi : Nat} {w : World} {v : Value} {t : Rg} (h : HasR own lo hi w v t) : ∃ A c, v = .agg #[.slice A t.store.length c, .int .i64 t.at_, .int .i64 t.cnt] := by
  obtain ⟨b1, vS, rfl, h1⟩ := h
  obtain ⟨A, c, rfl, _⟩ := h1
  exact ⟨A, c, rfl⟩

def zeroRing : Rg := ⟨[], 0, 0⟩
/-- A ring that is made, or none. -/
def GivesR (o : Option Rg) (w : World) (e : Ending) (w' : World) : Prop :=
  ∃ v, e = .returned (.tuple #[v, .bool o.isSome]) ∧ HasR true w.heap.size w'.heap.size w' v (o.getD zeroRing) ∧ Span 0 0 w w'

/-- A box of 3 cells. -/
def Box3 (b : Nat) (u0 u1 u2 : Value) (w : World) : Prop := w.cell? ⟨b, 0, none⟩ = some u0 ∧ w.cell? ⟨b, 1, none⟩ = some u1 ∧ w.cell? ⟨b, 2, none⟩ = some u2
theorem box3_mk {b : Nat} {u0 u1 u2 : Value} {w : World} (h0 : w.cell? ⟨b, 0, none⟩ = some u0) (h1 : w.cell? ⟨b, 1, none⟩ = some u1) (h2 : w.cell? ⟨b, 2, none⟩ = some u2) : Box3 b u0 u1 u2 w := ⟨h0, h1, h2⟩
theorem box3_span {lo hi b : Nat} {u0 u1 u2 : Value} {w w' : World} (h : Box3 b u0 u1 u2 w) (s : Span lo hi w w') (hb : b < w.heap.size) (hd : hi ≤ lo ∨ b < lo ∨ hi ≤ b) : Box3 b u0 u1 u2 w' := by
  have e := s.block b hb (by omega)
  exact ⟨(World.cell?_of_block (w := w) (a := ⟨b, 0, none⟩) e).trans h.1, (World.cell?_of_block (w := w) (a := ⟨b, 1, none⟩) e).trans h.2.1, (World.cell?_of_block (w := w) (a := ⟨b, 2, none⟩) e).trans h.2.2⟩
theorem box3_alloc {b : Nat} {u0 u1 u2 : Value} {w : World} (h : Box3 b u0 u1 u2 w) (hb : b < w.heap.size) : (∀ o, (w.alloc o).cell? ⟨b, 0, none⟩ = some u0) ∧ (∀ o, (w.alloc o).cell? ⟨b, 1, none⟩ = some u1) ∧ (∀ o, (w.alloc o).cell? ⟨b, 2, none⟩ = some u2) :=
  have k := fun o => box3_span h ((Span.refl 0 0 w).alloc o) hb (.inl (Nat.le_refl _))
  ⟨fun o => (k o).1, fun o => (k o).2.1, fun o => (k o).2.2⟩
theorem box3_new (w : World) (u0 u1 u2 : Value) (t : TypeId) : Box3 w.heap.size u0 u1 u2 (w.alloc (.cells #[u0, u1, u2] t)) :=
  ⟨(by rw [World.cell?_alloc_new]; rfl), (by rw [World.cell?_alloc_new]; rfl), (by rw [World.cell?_alloc_new]; rfl)⟩

def ringO (n : Int) : Option Rg := if 1 ≤ n ∧ n ≤ 16 then some ⟨List.replicate n.toNat (0, 0), 0, 0⟩ else none
theorem ringO_len (n : Int) : ((ringO n).getD zeroRing).store.length ≤ 16 := by
  unfold ringO
  by_cases h : 1 ≤ n ∧ n ≤ 16
  · rw [if_pos h]; simp; omega
  · rw [if_neg h]; simp [zeroRing]

theorem zeros_hasS' (w : World) (m lo hi : Nat) (h1 : lo ≤ w.heap.size) (h2 : w.heap.size < hi) : HasS cxV true w.heap.size lo hi (w.alloc (.cells (zerosV (.complex .f32 0 0) m) 27)) (.slice (some ⟨w.heap.size, 0, none⟩) m m) (List.replicate m (0, 0)) := by
  have hF : Filled (w.alloc (.cells (zerosV (.complex .f32 0 0) m) 27)) w.heap.size 27 m m (fun _ => .complex .f32 0 0) :=
    ⟨zerosV (.complex .f32 0 0) m, heap_alloc_new _ _, by simp [zerosV], fun j hj => by simp [zerosV, hj]⟩
  have := Filled.hasS (val := cxV) (xs := List.replicate m ((0, 0) : Cx)) (lo := lo) (hi := hi) (w := w.alloc (.cells (zerosV (.complex .f32 0 0) m) 27)) (g := w.heap.size) (e := 27) (f := fun _ => .complex .f32 0 0) (by rw [List.length_replicate]; exact hF)
    (fun j x hj => by obtain ⟨_, h⟩ := List.getElem?_eq_some_iff.1 hj; simp at h; rw [← h]; rfl) h1 h2
  rw [List.length_replicate] at this
  exact this

set_option maxRecDepth 100000 in
theorem impl_newRing (n : Int) (w : World) : Calls Try.prog 43 #[.int .i64 n] w (GivesR (ringO n) w) := by
  unfold ringO
  by_cases h0 : n < 1
  · rw [if_neg (by omega)]
    go_enter Try.func43, Try.ntmps43
    go_wp2
    exact bodyPost_ret (v := .tuple #[.agg #[.slice none 0 0, .int .i64 0, .int .i64 0], .bool false]) (by simp [results, Try.results43, go_sem]) rfl ⟨_, rfl, HasR.none_ _ _ _ _, (Span.refl _ _ _).alloc _⟩
  · by_cases h1 : n ≤ 16
    · obtain ⟨m, rfl⟩ := Int.eq_ofNat_of_zero_le (show 0 ≤ n by omega)
      rw [if_pos (by omega)]
      have i0 : decide ((m : Int) < 1) = false := by rw [decide_eq_false_iff_not]; omega
      have i1 : decide ((16 : Int) < (m : Int)) = false := by rw [decide_eq_false_iff_not]; omega
      have hmk := run_make_zeros (P := Try.prog) (w.alloc (.cells #[.slice none 0 0, .int .i64 0, .int .i64 0] 30)) 28 27 (.complex .f32 0 0) 8 Try.underlying28 info_c64 rfl m (by omega) (by omega)
      go_enter Try.func43, Try.ntmps43
      go_wp2_with fail
      have HZ := Lib.hid (zeros_hasS' (w.alloc (.cells #[.slice (some ⟨w.heap.size + 1, 0, none⟩) m m, .int .i64 0, .int .i64 0] 30)) m (w.heap.size + 1) (w.heap.size + 2) (by simp) (by simp))
      obtain ⟨HX0, HX1, HX2⟩ := box3_span (box3_new w (.slice (some ⟨w.heap.size + 1, 0, none⟩) m m) (.int .i64 0) (.int .i64 0) 30) ((Span.refl 0 0 _).alloc (.cells (zerosV (.complex .f32 0 0) m) 27)) (by simp) (.inl (Nat.le_refl _))
      rw [show (w.alloc (.cells #[.slice (some ⟨w.heap.size + 1, 0, none⟩) m m, .int .i64 0, .int .i64 0] 30)).heap.size = w.heap.size + 1 by simp] at HZ
      refine bodyPost_ret (v := .tuple #[.agg #[.slice (some ⟨w.heap.size + 1, 0, none⟩) m m, .int .i64 0, .int .i64 0], .bool true]) (by simp [results, Try.results43, go_sem, HX0, HX1, HX2]) rfl ⟨_, rfl, ?_, ((Span.refl 0 0 w).alloc _).alloc _⟩
      refine HasR.weak (lo := w.heap.size + 1) (hi := w.heap.size + 2) ⟨w.heap.size + 1, _, rfl, ?_⟩ (by omega) (.inl (by simp))
      have := HZ.out
      simpa using this
    · rw [if_neg (by omega)]
      have i0 : decide (n < 1) = false := by rw [decide_eq_false_iff_not]; omega
      have i1 : decide (16 < n) = true := by rw [decide_eq_true_iff]; omega
      go_enter Try.func43, Try.ntmps43
      go_wp2
      exact bodyPost_ret (v := .tuple #[.agg #[.slice none 0 0, .int .i64 0, .int .i64 0], .bool false]) (by simp [results, Try.results43, go_sem]) rfl ⟨_, rfl, HasR.none_ _ _ _ _, (Span.refl _ _ _).alloc _⟩

set_option maxRecDepth 100000 in
theorem spec_newRing (n : Int) (w : World) : Calls Try.prog 76 #[.int .i64 n] w (GivesR (ringO n) w) := by
  unfold ringO
  by_cases h1 : 1 ≤ n ∧ n ≤ 16
  · obtain ⟨m, rfl⟩ := Int.eq_ofNat_of_zero_le (show 0 ≤ n by omega)
    rw [if_pos (by omega)]
    have i0 : Hid (decide ((1 : Int) ≤ (m : Int) ∧ (m : Int) ≤ 16) = true) := by unfold Hid; rw [decide_eq_true_iff]; omega
    have hmk := run_make_zeros (P := Try.prog) (w.alloc (.cells #[.slice none 0 0, .int .i64 0, .int .i64 0] 30)) 28 27 (.complex .f32 0 0) 8 Try.underlying28 info_c64 rfl m (by omega) (by omega)
    go_enter Try.func76, Try.ntmps76
    go_wp2_with fail
    refine (l1In_any _ _ _ _).mono ?_
    rintro _ _ ⟨rfl, rfl⟩
    rw [i0.out]
    go_wp2_with fail
    have HZ := Lib.hid (zeros_hasS' (w.alloc (.cells #[.slice (some ⟨w.heap.size + 1, 0, none⟩) m m, .int .i64 0, .int .i64 0] 30)) m (w.heap.size + 1) (w.heap.size + 2) (by simp) (by simp))
    obtain ⟨HX0, HX1, HX2⟩ := box3_span (box3_new w (.slice (some ⟨w.heap.size + 1, 0, none⟩) m m) (.int .i64 0) (.int .i64 0) 30) ((Span.refl 0 0 _).alloc (.cells (zerosV (.complex .f32 0 0) m) 27)) (by simp) (.inl (Nat.le_refl _))
    rw [show (w.alloc (.cells #[.slice (some ⟨w.heap.size + 1, 0, none⟩) m m, .int .i64 0, .int .i64 0] 30)).heap.size = w.heap.size + 1 by simp] at HZ
    refine bodyPost_ret (v := .tuple #[.agg #[.slice (some ⟨w.heap.size + 1, 0, none⟩) m m, .int .i64 0, .int .i64 0], .bool true]) (by simp [results, Try.results76, go_sem, HX0, HX1, HX2]) rfl ⟨_, rfl, ?_, ((Span.refl 0 0 w).alloc _).alloc _⟩
    refine HasR.weak (lo := w.heap.size + 1) (hi := w.heap.size + 2) ⟨w.heap.size + 1, _, rfl, ?_⟩ (by omega) (.inl (by simp))
    have := HZ.out
    simpa using this
  · rw [if_neg h1]
    have b3 : Hid (decide ((1 : Int) ≤ n ∧ n ≤ 16) = false) := by unfold Hid; rw [decide_eq_false_iff_not]; omega
    clear h1
    go_enter Try.func76, Try.ntmps76
    go_wp2_with fail
    refine (l1In_any _ _ _ _).mono ?_
    rintro _ _ ⟨rfl, rfl⟩
    rw [b3.out]
    go_wp2
    exact bodyPost_ret (v := .tuple #[.agg #[.slice none 0 0, .int .i64 0, .int .i64 0], .bool false]) (by simp [results, Try.results76, go_sem]) rfl ⟨_, rfl, HasR.none_ _ _ _ _, (Span.refl _ _ _).alloc _⟩
end Go.Proofs.Ytdmahikaajdkgaa
