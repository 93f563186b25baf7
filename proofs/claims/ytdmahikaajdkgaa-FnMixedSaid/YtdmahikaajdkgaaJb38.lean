/- Holds are made: not valid; both sides. -/
import Derived.Test.YtdmahikaajdkgaaJb37
import Derived.Outline
namespace Go.Proofs.Ytdmahikaajdkgaa
open Go.RowKit

set_option maxRecDepth 100000 in
set_option maxHeartbeats 4000000 in
theorem isModule_hold_no (s1 s2 : Nat) (c f : Int) (h1 : ¬ (1 ≤ c ∧ c ≤ 100)) (w : World) :
    Calls Try.prog 70 #[.agg #[.int .i64 8, .complex .f32 0 0, .complex .f32 s1 s2, .float .f32 0, .slice none 0 0, .int .i64 0, .int .i64 0, .slice none 0 0, .slice none 0 0, .int .i64 c, .int .i64 f]] w fun e w' => e = .returned (.bool false) ∧ Span 0 0 w w' := by
  have cm1 := call_hold_isValid
  have cm2 := call_hold_module
  have HI := Lib.hid (hold_isValid_no · s1 s2 c f h1)
  clear h1
  go_enter Try.func70, Try.ntmps70
  go_wp2_with fail
  refine (unitOf_hold _ _ _ _ _ _ _ _ _ _ _ _ _ _ _ _ _ _ _).mono ?_
  rintro _ w1 ⟨b, rfl, x1, s1'⟩
  have HS := Lib.hid (((Span.refl 0 0 w).alloc (.cells #[.int .i64 8, .complex .f32 0 0, .complex .f32 s1 s2, .float .f32 0, .slice none 0 0, .int .i64 0, .int .i64 0, .slice none 0 0, .slice none 0 0, .int .i64 c, .int .i64 f] 35)).trans s1')
  have X1 := Lib.hid x1
  clear s1' x1
  go_wp2_with fail
  go_quiet (first | (go_at_call 200; refine Calls.quiet_of (HI.out _ _ (X1.out.drewN _))))
  all_goals go_wp2_with fail
  all_goals go_ret
  all_goals exact ⟨rfl, HS.out.drewN _⟩

def holdO (n : Int) : Option Md := if 1 ≤ n ∧ n ≤ 100 then some ⟨8, (0, 0), (0, 0), 0, ⟨[], 0, 0⟩, n, 0⟩ else none
theorem holdO_len (n : Int) : ((holdO n).getD zeroModule).ring.store.length ≤ 16 := by
  unfold holdO
  by_cases h : 1 ≤ n ∧ n ≤ 100
  · rw [if_pos h]; simp
  · rw [if_neg h]; simp [zeroModule]

set_option maxRecDepth 100000 in
set_option maxHeartbeats 4000000 in
theorem onlyValid_hold (n : Int) (w : World) : Calls Try.prog 42 #[.agg #[.int .i64 8, .complex .f32 0 0, .complex .f32 0 0, .float .f32 0, .slice none 0 0, .int .i64 0, .int .i64 0, .slice none 0 0, .slice none 0 0, .int .i64 n, .int .i64 0]] w fun e w' => e = .returned (.tuple #[.agg (if 1 ≤ n ∧ n ≤ 100 then #[.int .i64 8, .complex .f32 0 0, .complex .f32 0 0, .float .f32 0, .slice none 0 0, .int .i64 0, .int .i64 0, .slice none 0 0, .slice none 0 0, .int .i64 n, .int .i64 0] else #[.int .i64 0, .complex .f32 0 0, .complex .f32 0 0, .float .f32 0, .slice none 0 0, .int .i64 0, .int .i64 0, .slice none 0 0, .slice none 0 0, .int .i64 0, .int .i64 0]), .bool (decide (1 ≤ n ∧ n ≤ 100))]) ∧ Span 0 0 w w' := by
  by_cases h : 1 ≤ n ∧ n ≤ 100
  · rw [if_pos h, decide_eq_true h]
    have HI := Lib.hid (isModule_hold_yes 0 0 n 0 h.1 h.2 (by omega) (by omega))
    clear h
    go_enter Try.func42, Try.ntmps42
    go_wp2_with fail
    refine (HI.out _).mono ?_
    rintro _ w1 ⟨rfl, s1⟩
    have X := ((Bx.new w #[.int .i64 8, .complex .f32 0 0, .complex .f32 0 0, .float .f32 0, .slice none 0 0, .int .i64 0, .int .i64 0, .slice none 0 0, .slice none 0 0, .int .i64 n, .int .i64 0] 35).alloc (.cells #[.int .i64 0, .complex .f32 0 0, .complex .f32 0 0, .float .f32 0, .slice none 0 0, .int .i64 0, .int .i64 0, .slice none 0 0, .slice none 0 0, .int .i64 0, .int .i64 0] 35)).keep s1
    have Y := (Bx.new (w.alloc (.cells #[.int .i64 8, .complex .f32 0 0, .complex .f32 0 0, .float .f32 0, .slice none 0 0, .int .i64 0, .int .i64 0, .slice none 0 0, .slice none 0 0, .int .i64 n, .int .i64 0] 35)) #[.int .i64 0, .complex .f32 0 0, .complex .f32 0 0, .float .f32 0, .slice none 0 0, .int .i64 0, .int .i64 0, .slice none 0 0, .slice none 0 0, .int .i64 0, .int .i64 0] 35).keep s1
    rw [show (w.alloc (.cells #[.int .i64 8, .complex .f32 0 0, .complex .f32 0 0, .float .f32 0, .slice none 0 0, .int .i64 0, .int .i64 0, .slice none 0 0, .slice none 0 0, .int .i64 n, .int .i64 0] 35)).heap.size = w.heap.size + 1 by simp] at Y
    have S1 := Lib.hid ((((Span.refl 0 0 w).alloc (.cells #[.int .i64 8, .complex .f32 0 0, .complex .f32 0 0, .float .f32 0, .slice none 0 0, .int .i64 0, .int .i64 0, .slice none 0 0, .slice none 0 0, .int .i64 n, .int .i64 0] 35)).alloc (.cells #[.int .i64 0, .complex .f32 0 0, .complex .f32 0 0, .float .f32 0, .slice none 0 0, .int .i64 0, .int .i64 0, .slice none 0 0, .slice none 0 0, .int .i64 0, .int .i64 0] 35)).trans s1)
    have cx := X.cells
    have cy := Y.cells
    have fy := Y.thaw
    have YS := Lib.hid (Y.set11 (.int .i64 8) (.complex .f32 0 0) (.complex .f32 0 0) (.float .f32 0) (.slice none 0 0) (.int .i64 0) (.int .i64 0) (.slice none 0 0) (.slice none 0 0) (.int .i64 n) (.int .i64 0))
    clear s1 X Y
    go_wp2_with fail
    have d1 := YS.out.cells
    exact bodyPost_ret (v := .tuple #[.agg #[.int .i64 8, .complex .f32 0 0, .complex .f32 0 0, .float .f32 0, .slice none 0 0, .int .i64 0, .int .i64 0, .slice none 0 0, .slice none 0 0, .int .i64 n, .int .i64 0], .bool true]) (by simp [results, Try.results42, go_sem, d1]) rfl ⟨rfl, S1.out.set11 (by omega) _ _ _ _ _ _ _ _ _ _ _⟩
  · rw [if_neg h, decide_eq_false h]
    have HI := Lib.hid (isModule_hold_no 0 0 n 0 h)
    clear h
    go_enter Try.func42, Try.ntmps42
    go_wp2_with fail
    refine (HI.out _).mono ?_
    rintro _ w1 ⟨rfl, s1⟩
    have Y := (Bx.new (w.alloc (.cells #[.int .i64 8, .complex .f32 0 0, .complex .f32 0 0, .float .f32 0, .slice none 0 0, .int .i64 0, .int .i64 0, .slice none 0 0, .slice none 0 0, .int .i64 n, .int .i64 0] 35)) #[.int .i64 0, .complex .f32 0 0, .complex .f32 0 0, .float .f32 0, .slice none 0 0, .int .i64 0, .int .i64 0, .slice none 0 0, .slice none 0 0, .int .i64 0, .int .i64 0] 35).keep s1
    rw [show (w.alloc (.cells #[.int .i64 8, .complex .f32 0 0, .complex .f32 0 0, .float .f32 0, .slice none 0 0, .int .i64 0, .int .i64 0, .slice none 0 0, .slice none 0 0, .int .i64 n, .int .i64 0] 35)).heap.size = w.heap.size + 1 by simp] at Y
    have S1 := Lib.hid ((((Span.refl 0 0 w).alloc (.cells #[.int .i64 8, .complex .f32 0 0, .complex .f32 0 0, .float .f32 0, .slice none 0 0, .int .i64 0, .int .i64 0, .slice none 0 0, .slice none 0 0, .int .i64 n, .int .i64 0] 35)).alloc (.cells #[.int .i64 0, .complex .f32 0 0, .complex .f32 0 0, .float .f32 0, .slice none 0 0, .int .i64 0, .int .i64 0, .slice none 0 0, .slice none 0 0, .int .i64 0, .int .i64 0] 35)).trans s1)
    have cy := Y.cells
    have fy := Y.thaw
    have YS := Lib.hid (Y.set11 (.int .i64 0) (.complex .f32 0 0) (.complex .f32 0 0) (.float .f32 0) (.slice none 0 0) (.int .i64 0) (.int .i64 0) (.slice none 0 0) (.slice none 0 0) (.int .i64 0) (.int .i64 0))
    clear s1 Y
    go_wp2_with fail
    have d1 := YS.out.cells
    exact bodyPost_ret (v := .tuple #[.agg #[.int .i64 0, .complex .f32 0 0, .complex .f32 0 0, .float .f32 0, .slice none 0 0, .int .i64 0, .int .i64 0, .slice none 0 0, .slice none 0 0, .int .i64 0, .int .i64 0], .bool false]) (by simp [results, Try.results42, go_sem, d1]) rfl ⟨rfl, S1.out.set11 (by omega) _ _ _ _ _ _ _ _ _ _ _⟩

set_option maxRecDepth 100000 in
set_option maxHeartbeats 4000000 in
theorem impl_newHold (n : Int) (w : World) : Calls Try.prog 10 #[.int .i64 n] w (GivesM (holdO n) w) := by
  unfold holdO
  by_cases h : 1 ≤ n ∧ n ≤ 100
  · rw [if_pos h]
    have HO := Lib.hid (onlyValid_hold n)
    rw [if_pos h, decide_eq_true h] at HO
    clear h
    go_enter Try.func10, Try.ntmps10
    go_wp2_with fail
    refine (HO.out _).mono ?_
    rintro _ w1 ⟨rfl, s1⟩
    have Y := (Bx.new w #[.int .i64 0, .complex .f32 0 0, .complex .f32 0 0, .float .f32 0, .slice none 0 0, .int .i64 0, .int .i64 0, .slice none 0 0, .slice none 0 0, .int .i64 0, .int .i64 0] 35).keep s1
    have S1 := Lib.hid (((Span.refl 0 0 w).alloc (.cells #[.int .i64 0, .complex .f32 0 0, .complex .f32 0 0, .float .f32 0, .slice none 0 0, .int .i64 0, .int .i64 0, .slice none 0 0, .slice none 0 0, .int .i64 0, .int .i64 0] 35)).trans s1)
    have cy := Y.cells
    have fy := Y.thaw
    have YS := Lib.hid (Y.set11 (.int .i64 8) (.complex .f32 0 0) (.complex .f32 0 0) (.float .f32 0) (.slice none 0 0) (.int .i64 0) (.int .i64 0) (.slice none 0 0) (.slice none 0 0) (.int .i64 n) (.int .i64 0))
    clear s1 Y
    go_wp2_with fail
    have d1 := YS.out.cells
    exact bodyPost_ret (v := .tuple #[.agg #[.int .i64 8, .complex .f32 0 0, .complex .f32 0 0, .float .f32 0, .slice none 0 0, .int .i64 0, .int .i64 0, .slice none 0 0, .slice none 0 0, .int .i64 n, .int .i64 0], .bool true]) (by simp [results, Try.results10, go_sem, d1]) rfl ⟨_, rfl, HasM0.plain _ _ _ _ _ (0, 0) (0, 0) _ _ _, S1.out.set11 (Nat.le_refl _) _ _ _ _ _ _ _ _ _ _ _⟩
  · rw [if_neg h]
    have HO := Lib.hid (onlyValid_hold n)
    rw [if_neg h, decide_eq_false h] at HO
    clear h
    go_enter Try.func10, Try.ntmps10
    go_wp2_with fail
    refine (HO.out _).mono ?_
    rintro _ w1 ⟨rfl, s1⟩
    have Y := (Bx.new w #[.int .i64 0, .complex .f32 0 0, .complex .f32 0 0, .float .f32 0, .slice none 0 0, .int .i64 0, .int .i64 0, .slice none 0 0, .slice none 0 0, .int .i64 0, .int .i64 0] 35).keep s1
    have S1 := Lib.hid (((Span.refl 0 0 w).alloc (.cells #[.int .i64 0, .complex .f32 0 0, .complex .f32 0 0, .float .f32 0, .slice none 0 0, .int .i64 0, .int .i64 0, .slice none 0 0, .slice none 0 0, .int .i64 0, .int .i64 0] 35)).trans s1)
    have cy := Y.cells
    have fy := Y.thaw
    have YS := Lib.hid (Y.set11 (.int .i64 0) (.complex .f32 0 0) (.complex .f32 0 0) (.float .f32 0) (.slice none 0 0) (.int .i64 0) (.int .i64 0) (.slice none 0 0) (.slice none 0 0) (.int .i64 0) (.int .i64 0))
    clear s1 Y
    go_wp2_with fail
    have d1 := YS.out.cells
    exact bodyPost_ret (v := .tuple #[.agg #[.int .i64 0, .complex .f32 0 0, .complex .f32 0 0, .float .f32 0, .slice none 0 0, .int .i64 0, .int .i64 0, .slice none 0 0, .slice none 0 0, .int .i64 0, .int .i64 0], .bool false]) (by simp [results, Try.results10, go_sem, d1]) rfl ⟨_, rfl, HasM0.plain _ _ _ _ _ (0, 0) (0, 0) _ _ _, S1.out.set11 (Nat.le_refl _) _ _ _ _ _ _ _ _ _ _ _⟩
end Go.Proofs.Ytdmahikaajdkgaa
