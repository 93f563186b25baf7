/- Delays are made. -/
import Derived.Test.YtkjlodoppmipfaaGreatJg25
import Derived.Test.YtkjlodoppmipfaaGreatJg28
import Derived.Test.YtkjlodoppmipfaaGreatJg3
import Derived.Outline
namespace Go.Proofs.YtkjlodoppmipfaaGreat
open Go.RowKit

def delayO (n : Int) : Option Md := if 1 ≤ n ∧ n ≤ 16 then some ⟨4, (0, 0), (0, 0), 0, ⟨List.replicate n.toNat (0, 0), 0, n⟩, 0, 0⟩ else none
theorem delayO_len (n : Int) : ((delayO n).getD zeroModule).ring.store.length ≤ 16 := by
  unfold delayO
  by_cases h : 1 ≤ n ∧ n ≤ 16
  · rw [if_pos h]; simp; omega
  · rw [if_neg h]; simp [zeroModule]

set_option maxRecDepth 100000 in
set_option maxHeartbeats 4000000 in
theorem impl_newDelay (n : Int) (w : World) : Calls Tryz.prog 16 #[.int .i64 n] w (GivesM (delayO n) w) := by
  unfold delayO
  by_cases h0 : 1 ≤ n ∧ n ≤ 16
  · have hr : ringO n = some ⟨List.replicate n.toNat (0, 0), 0, 0⟩ := if_pos h0
    rw [if_pos h0]
    have HR := Lib.hid hr
    clear hr
    go_enter Tryz.func16, Tryz.ntmps16
    go_wp2_with fail
    refine (impl_newRing n _).mono ?_
    rintro _ w1 ⟨v, rfl, x1, s1⟩
    rw [HR.out, show (some (⟨List.replicate n.toNat (0, 0), 0, 0⟩ : Rg)).getD zeroRing = ⟨List.replicate n.toNat (0, 0), 0, 0⟩ from rfl] at x1
    rw [HR.out]
    obtain ⟨A, c, rfl⟩ := x1.form
    have X1 := Lib.hid x1
    have B0 := (Bx.new w #[.int .i64 0, .complex .f32 0 0, .complex .f32 0 0, .float .f32 0, .slice none 0 0, .int .i64 0, .int .i64 0, .slice none 0 0, .slice none 0 0, .int .i64 0, .int .i64 0] 32).keep s1
    obtain ⟨b, hb⟩ : ∃ b, b = w.heap.size := ⟨_, rfl⟩
    rw [← hb] at B0 ⊢
    have HB := Lib.hid hb
    have S1 := Lib.hid s1
    clear hb s1 x1
    have c1 := B0.cellsA
    have c2 := B0.thawA
    have B0 := Lib.hid B0
    simp only
    go_wp2_with fail
    have B1 := (B0.out.alloc (.cells #[.slice A n.toNat c, .int .i64 0, .int .i64 n] 27)).set11 (.int .i64 4) (.complex .f32 0 0) (.complex .f32 0 0) (.float .f32 0) (.slice A n.toNat c) (.int .i64 0) (.int .i64 n) (.slice none 0 0) (.slice none 0 0) (.int .i64 0) (.int .i64 0)
    have d1 := B1.cells
    have T1 := (((Span.refl 0 0 w).alloc _).trans S1.out).alloc (.cells #[.slice A n.toNat c, .int .i64 0, .int .i64 n] 27)
    refine bodyPost_ret (v := .tuple #[.agg #[.int .i64 4, .complex .f32 0 0, .complex .f32 0 0, .float .f32 0, .slice A n.toNat c, .int .i64 0, .int .i64 n, .slice none 0 0, .slice none 0 0, .int .i64 0, .int .i64 0], .bool true]) (by simp [results, Tryz.results16, go_sem, d1]) rfl ⟨_, rfl, ?_, T1.set11 (by rw [HB.out]; exact Nat.le_refl _) _ _ _ _ _ _ _ _ _ _ _⟩
    obtain ⟨b2, vS, e2, g2⟩ := X1.out
    injection e2 with e2
    injection e2 with e2
    injection e2 with e2 _
    subst e2
    have P1 := ((Span.refl b (b + 1) w1).alloc (.cells #[.slice A n.toNat c, .int .i64 0, .int .i64 n] 27)).put11 (b := b) ⟨Nat.le_refl _, Nat.lt_succ_self _⟩ (.int .i64 4) (.complex .f32 0 0) (.complex .f32 0 0) (.float .f32 0) (.slice A n.toNat c) (.int .i64 0) (.int .i64 n) (.slice none 0 0) (.slice none 0 0) (.int .i64 0) (.int .i64 0)
    have hb := HB.out
    have z1 := P1.size
    have g3 := (g2.span P1 (by simp; omega)).weak (lo' := w.heap.size) (hi' := _) (by simp) (.inr (Nat.le_refl _))
    refine ⟨b2, _, rfl, ?_⟩
    simpa using g3
  · have hr : ringO n = none := if_neg h0
    rw [if_neg h0]
    have HR := Lib.hid hr
    clear hr h0
    go_enter Tryz.func16, Tryz.ntmps16
    go_wp2_with fail
    refine (impl_newRing n _).mono ?_
    rintro _ w1 ⟨v, rfl, x1, s1⟩
    rw [HR.out, show (none : Option Rg).getD zeroRing = ⟨[], 0, 0⟩ from rfl] at x1
    rw [HR.out]
    obtain ⟨A, c, rfl⟩ := x1.form
    have X1 := Lib.hid x1
    have B0 := (Bx.new w #[.int .i64 0, .complex .f32 0 0, .complex .f32 0 0, .float .f32 0, .slice none 0 0, .int .i64 0, .int .i64 0, .slice none 0 0, .slice none 0 0, .int .i64 0, .int .i64 0] 32).keep s1
    obtain ⟨b, hb⟩ : ∃ b, b = w.heap.size := ⟨_, rfl⟩
    rw [← hb] at B0 ⊢
    have HB := Lib.hid hb
    have S1 := Lib.hid s1
    clear hb s1 x1
    have c1 := B0.cellsA
    have c2 := B0.thawA
    have B0 := Lib.hid B0
    simp only
    go_wp2_with fail
    have B1 := (B0.out.alloc (.cells #[.slice A 0 c, .int .i64 0, .int .i64 0] 27)).set11 (.int .i64 0) (.complex .f32 0 0) (.complex .f32 0 0) (.float .f32 0) (.slice none 0 0) (.int .i64 0) (.int .i64 0) (.slice none 0 0) (.slice none 0 0) (.int .i64 0) (.int .i64 0)
    have d1 := B1.cells
    have T1 := (((Span.refl 0 0 w).alloc _).trans S1.out).alloc (.cells #[.slice A 0 c, .int .i64 0, .int .i64 0] 27)
    refine bodyPost_ret (v := .tuple #[.agg #[.int .i64 0, .complex .f32 0 0, .complex .f32 0 0, .float .f32 0, .slice none 0 0, .int .i64 0, .int .i64 0, .slice none 0 0, .slice none 0 0, .int .i64 0, .int .i64 0], .bool false]) (by simp [results, Tryz.results16, go_sem, d1]) rfl ⟨_, rfl, HasM0.plain _ _ _ _ _ (0, 0) (0, 0) _ _ _, T1.set11 (by rw [HB.out]; exact Nat.le_refl _) _ _ _ _ _ _ _ _ _ _ _⟩

set_option maxRecDepth 100000 in
set_option maxHeartbeats 4000000 in
theorem spec_newDelay (n : Int) (w : World) : Calls Tryz.prog 69 #[.int .i64 n] w (GivesM (delayO n) w) := by
  unfold delayO
  by_cases h0 : 1 ≤ n ∧ n ≤ 16
  · obtain ⟨m, rfl⟩ := Int.eq_ofNat_of_zero_le (show 0 ≤ n by omega)
    have hr : ringO m = some ⟨List.replicate m (0, 0), 0, 0⟩ := if_pos h0
    rw [if_pos h0]
    have HR := Lib.hid hr
    clear hr
    go_enter Tryz.func69, Tryz.ntmps69
    go_wp2_with fail
    refine (spec_newRing m _).mono ?_
    rintro _ w1 ⟨v, rfl, x1, s1⟩
    rw [HR.out, show (some (⟨List.replicate m (0, 0), 0, 0⟩ : Rg)).getD zeroRing = ⟨List.replicate m (0, 0), 0, 0⟩ from rfl] at x1
    rw [HR.out]
    obtain ⟨A, c, rfl⟩ := x1.form
    have X1 := Lib.hid x1
    have B0 := (Bx.new w #[.int .i64 0, .complex .f32 0 0, .complex .f32 0 0, .float .f32 0, .slice none 0 0, .int .i64 0, .int .i64 0, .slice none 0 0, .slice none 0 0, .int .i64 0, .int .i64 0] 32).keep s1
    obtain ⟨b, hb⟩ : ∃ b, b = w.heap.size := ⟨_, rfl⟩
    rw [← hb] at B0 ⊢
    have HB := Lib.hid hb
    have S1 := Lib.hid s1
    clear hb s1 x1
    have c1 := B0.cellsA
    have c2 := B0.thawA
    have B0 := Lib.hid B0
    simp only
    go_wp2_with fail
    have B1 := (B0.out.alloc (.cells #[.slice A m c, .int .i64 0, .int .i64 (m : Int)] 27)).set11 (.int .i64 4) (.complex .f32 0 0) (.complex .f32 0 0) (.float .f32 0) (.slice A m c) (.int .i64 0) (.int .i64 (m : Int)) (.slice none 0 0) (.slice none 0 0) (.int .i64 0) (.int .i64 0)
    have d1 := B1.cells
    have T1 := (((Span.refl 0 0 w).alloc _).trans S1.out).alloc (.cells #[.slice A m c, .int .i64 0, .int .i64 (m : Int)] 27)
    refine bodyPost_ret (v := .tuple #[.agg #[.int .i64 4, .complex .f32 0 0, .complex .f32 0 0, .float .f32 0, .slice A m c, .int .i64 0, .int .i64 (m : Int), .slice none 0 0, .slice none 0 0, .int .i64 0, .int .i64 0], .bool true]) (by simp [results, Tryz.results69, go_sem, d1]) rfl ⟨_, rfl, ?_, T1.set11 (by rw [HB.out]; exact Nat.le_refl _) _ _ _ _ _ _ _ _ _ _ _⟩
    obtain ⟨b2, vS, e2, g2⟩ := X1.out
    injection e2 with e2
    injection e2 with e2
    injection e2 with e2 _
    subst e2
    have P1 := ((Span.refl b (b + 1) w1).alloc (.cells #[.slice A m c, .int .i64 0, .int .i64 (m : Int)] 27)).put11 (b := b) ⟨Nat.le_refl _, Nat.lt_succ_self _⟩ (.int .i64 4) (.complex .f32 0 0) (.complex .f32 0 0) (.float .f32 0) (.slice A m c) (.int .i64 0) (.int .i64 (m : Int)) (.slice none 0 0) (.slice none 0 0) (.int .i64 0) (.int .i64 0)
    have hb := HB.out
    have z1 := P1.size
    have g3 := (g2.span P1 (by simp; omega)).weak (lo' := w.heap.size) (hi' := _) (by simp) (.inr (Nat.le_refl _))
    refine ⟨b2, _, rfl, ?_⟩
    simpa using g3
  · have hr : ringO n = none := if_neg h0
    rw [if_neg h0]
    have HR := Lib.hid hr
    clear hr h0
    go_enter Tryz.func69, Tryz.ntmps69
    go_wp2_with fail
    refine (spec_newRing n _).mono ?_
    rintro _ w1 ⟨v, rfl, x1, s1⟩
    rw [HR.out, show (none : Option Rg).getD zeroRing = ⟨[], 0, 0⟩ from rfl] at x1
    rw [HR.out]
    obtain ⟨A, c, rfl⟩ := x1.form
    have X1 := Lib.hid x1
    have B0 := (Bx.new w #[.int .i64 0, .complex .f32 0 0, .complex .f32 0 0, .float .f32 0, .slice none 0 0, .int .i64 0, .int .i64 0, .slice none 0 0, .slice none 0 0, .int .i64 0, .int .i64 0] 32).keep s1
    obtain ⟨b, hb⟩ : ∃ b, b = w.heap.size := ⟨_, rfl⟩
    rw [← hb] at B0 ⊢
    have HB := Lib.hid hb
    have S1 := Lib.hid s1
    clear hb s1 x1
    have c1 := B0.cellsA
    have c2 := B0.thawA
    have B0 := Lib.hid B0
    simp only
    go_wp2_with fail
    have B1 := (B0.out.alloc (.cells #[.slice A 0 c, .int .i64 0, .int .i64 0] 27)).set11 (.int .i64 0) (.complex .f32 0 0) (.complex .f32 0 0) (.float .f32 0) (.slice none 0 0) (.int .i64 0) (.int .i64 0) (.slice none 0 0) (.slice none 0 0) (.int .i64 0) (.int .i64 0)
    have d1 := B1.cells
    have T1 := (((Span.refl 0 0 w).alloc _).trans S1.out).alloc (.cells #[.slice A 0 c, .int .i64 0, .int .i64 0] 27)
    refine bodyPost_ret (v := .tuple #[.agg #[.int .i64 0, .complex .f32 0 0, .complex .f32 0 0, .float .f32 0, .slice none 0 0, .int .i64 0, .int .i64 0, .slice none 0 0, .slice none 0 0, .int .i64 0, .int .i64 0], .bool false]) (by simp [results, Tryz.results69, go_sem, d1]) rfl ⟨_, rfl, HasM0.plain _ _ _ _ _ (0, 0) (0, 0) _ _ _, T1.set11 (by rw [HB.out]; exact Nat.le_refl _) _ _ _ _ _ _ _ _ _ _ _⟩
end Go.Proofs.YtkjlodoppmipfaaGreat
