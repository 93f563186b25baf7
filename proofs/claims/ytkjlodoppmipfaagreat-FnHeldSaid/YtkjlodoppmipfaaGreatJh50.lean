/- Modules of the kind hold are valid, or not. Modules of the kind hold1: unit, valid, module. Modules of the kind hold1 are stepped. -/
import Derived.Test.YtkjlodoppmipfaaGreatJh32
import Derived.BigQuiet
import Derived.Outline
import Derived.Test.YtkjlodoppmipfaaGreatJh33
import Derived.Test.YtkjlodoppmipfaaGreatJh34
namespace Go.Proofs.YtkjlodoppmipfaaGreat
section
open Go.RowKit

set_option maxRecDepth 100000 in
theorem unitOf_hold (t1 t2 s1 s2 l : Nat) (A0 A1 A2 : Option Addr) (n0 c0 n1 c1 n2 c2 : Nat) (a n c f : Int) (w : World) :
    Calls Tryz.prog 59 #[.agg #[.int .i64 8, .complex .f32 t1 t2, .complex .f32 s1 s2, .float .f32 l, .slice A0 n0 c0, .int .i64 a, .int .i64 n, .slice A1 n1 c1, .slice A2 n2 c2, .int .i64 c, .int .i64 f]] w fun e w' => ∃ b, e = .returned (.iface 145 (.pointer (some ⟨b, 0, none⟩))) ∧ Bx b #[.complex .f32 s1 s2, .int .i64 c, .int .i64 f] w' ∧ Span 0 0 w w' := by
  go_enter Tryz.func59, Tryz.ntmps59
  go_wp2_with fail
  go_ret
  refine ⟨_, rfl, ?_, ((Span.refl _ _ _).alloc _).alloc _⟩
  have := Bx.new (w.alloc (.cells #[.int .i64 8, .complex .f32 t1 t2, .complex .f32 s1 s2, .float .f32 l, .slice A0 n0 c0, .int .i64 a, .int .i64 n, .slice A1 n1 c1, .slice A2 n2 c2, .int .i64 c, .int .i64 f] 32)) #[.complex .f32 s1 s2, .int .i64 c, .int .i64 f] 147
  simpa using this

theorem hold_isValid_yes (b : Nat) (s1 s2 : Nat) (c f : Int) (h1 : 1 ≤ c) (h2 : c ≤ 100) (h3 : 0 ≤ f) (h4 : f < c) (w : World) (hx : Bx b #[.complex .f32 s1 s2, .int .i64 c, .int .i64 f] w) :
    Calls Tryz.prog 187 #[.pointer (some ⟨b, 0, none⟩)] w (SaysTrue w) := by
  have cx := hx.cells
  have d1 : decide (1 ≤ c) = true := decide_eq_true h1
  have d2 : decide (c ≤ 100) = true := decide_eq_true h2
  have d3 : decide (0 ≤ f) = true := decide_eq_true h3
  have d4 : decide (f < c) = true := decide_eq_true h4
  clear h1 h2 h3 h4 hx
  go_enter Tryz.func187, Tryz.ntmps187
  go_wp2_with fail
  go_quiet (fail)
  go_wp2_with fail
  go_ret
  exact ⟨_, rfl, rfl⟩

theorem hold_isValid_no (b : Nat) (s1 s2 : Nat) (c f : Int) (h1 : ¬ (1 ≤ c ∧ c ≤ 100)) (w : World) (hx : Bx b #[.complex .f32 s1 s2, .int .i64 c, .int .i64 f] w) :
    Calls Tryz.prog 187 #[.pointer (some ⟨b, 0, none⟩)] w fun e w' => e = .returned (.bool false) ∧ ∃ n, w' = w.drewN n := by
  have cx := hx.cells
  by_cases h2 : 1 ≤ c
  · have d1 : decide (1 ≤ c) = true := decide_eq_true h2
    have d2 : decide (c ≤ 100) = false := by rw [decide_eq_false_iff_not]; omega
    clear h1 h2 hx
    go_enter Tryz.func187, Tryz.ntmps187
    go_wp2_with fail
    go_quiet (fail)
    go_wp2_with fail
    go_ret
    exact ⟨rfl, _, rfl⟩
  · have d1 : decide (1 ≤ c) = false := by rw [decide_eq_false_iff_not]; omega
    clear h1 h2 hx
    go_enter Tryz.func187, Tryz.ntmps187
    go_wp2_with fail
    go_quiet (fail)
    go_wp2_with fail
    go_ret
    exact ⟨rfl, _, rfl⟩

set_option maxRecDepth 100000 in
theorem hold_module (b : Nat) (s1 s2 : Nat) (c f : Int) (w : World) (hx : Bx b #[.complex .f32 s1 s2, .int .i64 c, .int .i64 f] w) :
    Calls Tryz.prog 188 #[.pointer (some ⟨b, 0, none⟩)] w fun e w' => e = .returned (.agg #[.int .i64 8, .complex .f32 0 0, .complex .f32 s1 s2, .float .f32 0, .slice none 0 0, .int .i64 0, .int .i64 0, .slice none 0 0, .slice none 0 0, .int .i64 c, .int .i64 f]) ∧ Span 0 0 w w' := by
  have cx := hx.cells
  have ca := hx.cellsA
  have HX := Lib.hid hx
  clear hx
  go_enter Tryz.func188, Tryz.ntmps188
  go_wp2_with fail
  go_region
  all_goals go_wp2_with fail
  all_goals exact bodyPost_ret (v := .agg #[.int .i64 8, .complex .f32 0 0, .complex .f32 s1 s2, .float .f32 0, .slice none 0 0, .int .i64 0, .int .i64 0, .slice none 0 0, .slice none 0 0, .int .i64 c, .int .i64 f]) (by simp [results, Tryz.results188, go_sem]) rfl ⟨rfl, ((Span.refl _ _ _).alloc _).drew⟩
end
section
open Go.RowKit

set_option maxRecDepth 100000 in
theorem unitOf_hold1 (s1 s2 : Nat) (c f : Int) (w : World) :
    Calls Tryz.prog 59 #[.agg #[.int .i64 8, .complex .f32 0 0, .complex .f32 s1 s2, .float .f32 0, .slice none 0 0, .int .i64 0, .int .i64 0, .slice none 0 0, .slice none 0 0, .int .i64 c, .int .i64 f]] w fun e w' => ∃ b, e = .returned (.iface 145 (.pointer (some ⟨b, 0, none⟩))) ∧ Bx b #[.complex .f32 s1 s2, .int .i64 c, .int .i64 f] w' ∧ w.heap.size ≤ b ∧ Span 0 0 w w' := by
  go_enter Tryz.func59, Tryz.ntmps59
  go_wp2_with fail
  go_ret
  refine ⟨_, rfl, ?_, ?_, ((Span.refl _ _ _).alloc _).alloc _⟩
  · have := Bx.new (w.alloc (.cells #[.int .i64 8, .complex .f32 0 0, .complex .f32 s1 s2, .float .f32 0, .slice none 0 0, .int .i64 0, .int .i64 0, .slice none 0 0, .slice none 0 0, .int .i64 c, .int .i64 f] 32)) #[.complex .f32 s1 s2, .int .i64 c, .int .i64 f] 147
    simpa using this
  · omega

theorem call_hold1_isValid (v : Value) (w : World) : (method 314 145 v "loop.example/g03223/impl.isValid").run Tryz.prog w = .ok (187, v) w := by kernel_rfl
theorem call_hold1_module (v : Value) (w : World) : (method 314 145 v "loop.example/g03223/impl.module").run Tryz.prog w = .ok (188, v) w := by kernel_rfl
theorem call_hold1_step (v : Value) (w : World) : (method 314 145 v "loop.example/g03223/impl.step").run Tryz.prog w = .ok (190, v) w := by kernel_rfl

theorem hold1_isValid (b : Nat) (s1 s2 : Nat) (c f : Int) (h1 : 1 ≤ c) (h2 : c ≤ 100) (h3 : 0 ≤ f) (h4 : f < c) (w : World) (hx : Bx b #[.complex .f32 s1 s2, .int .i64 c, .int .i64 f] w) :
    Calls Tryz.prog 187 #[.pointer (some ⟨b, 0, none⟩)] w (SaysTrue w) := hold_isValid_yes b s1 s2 c f h1 h2 h3 h4 w hx

set_option maxRecDepth 100000 in
theorem hold1_module (b : Nat) (s1 s2 : Nat) (c f : Int) (w : World) (hx : Bx b #[.complex .f32 s1 s2, .int .i64 c, .int .i64 f] w) :
    Calls Tryz.prog 188 #[.pointer (some ⟨b, 0, none⟩)] w fun e w' => e = .returned (.agg #[.int .i64 8, .complex .f32 0 0, .complex .f32 s1 s2, .float .f32 0, .slice none 0 0, .int .i64 0, .int .i64 0, .slice none 0 0, .slice none 0 0, .int .i64 c, .int .i64 f]) ∧ Span 0 0 w w' := by
  have cx := hx.cells
  have ca := hx.cellsA
  clear hx
  go_enter Tryz.func188, Tryz.ntmps188
  go_wp2_with fail
  try go_region
  all_goals try go_wp2_with fail
  all_goals exact bodyPost_ret (v := .agg #[.int .i64 8, .complex .f32 0 0, .complex .f32 s1 s2, .float .f32 0, .slice none 0 0, .int .i64 0, .int .i64 0, .slice none 0 0, .slice none 0 0, .int .i64 c, .int .i64 f]) (by simp [results, Tryz.results188, go_sem]) rfl ⟨rfl, by first | exact (Span.refl _ _ _).alloc _ | exact ((Span.refl _ _ _).alloc _).drew⟩

theorem ReadM.hold1 (s1 s2 : Nat) (c f : Int) (w : World) : ReadM w (.agg #[.int .i64 8, .complex .f32 0 0, .complex .f32 s1 s2, .float .f32 0, .slice none 0 0, .int .i64 0, .int .i64 0, .slice none 0 0, .slice none 0 0, .int .i64 c, .int .i64 f]) ⟨8, (0, 0), (s1, s2), 0, ⟨[], 0, 0⟩, c, f⟩ ([], []) :=
  ⟨_, _, _, 0, 0, 0, rfl, HasS.empty _ _ _ _ _ _ _ _, HasS.empty _ _ _ _ _ _ _ _, HasS.empty _ _ _ _ _ _ _ _⟩

set_option maxRecDepth 100000 in
set_option maxHeartbeats 4000000 in
theorem isModule_hold1 (s1 s2 : Nat) (c f : Int) (h1 : 1 ≤ c) (h2 : c ≤ 100) (h3 : 0 ≤ f) (h4 : f < c) (w : World) : Calls Tryz.prog 53 #[.agg #[.int .i64 8, .complex .f32 0 0, .complex .f32 s1 s2, .float .f32 0, .slice none 0 0, .int .i64 0, .int .i64 0, .slice none 0 0, .slice none 0 0, .int .i64 c, .int .i64 f]] w (True0 w) := by
  have cm1 := call_hold1_isValid
  have cm2 := call_hold1_module
  have HI := Lib.hid (fun b w h => hold1_isValid b s1 s2 c f h1 h2 h3 h4 w h)
  clear h1 h2 h3 h4
  go_enter Tryz.func53, Tryz.ntmps53
  go_wp2_with fail
  refine (unitOf_hold1 _ _ _ _ _).mono ?_
  rintro _ w1 ⟨b, rfl, x1, _, s1'⟩
  have B := (Bx.new w #[.int .i64 8, .complex .f32 0 0, .complex .f32 s1 s2, .float .f32 0, .slice none 0 0, .int .i64 0, .int .i64 0, .slice none 0 0, .slice none 0 0, .int .i64 c, .int .i64 f] 32).keep s1'
  have HS := Lib.hid (((Span.refl 0 0 w).alloc (.cells #[.int .i64 8, .complex .f32 0 0, .complex .f32 s1 s2, .float .f32 0, .slice none 0 0, .int .i64 0, .int .i64 0, .slice none 0 0, .slice none 0 0, .int .i64 c, .int .i64 f] 32)).trans s1')
  have X1 := Lib.hid x1
  have HB := Lib.hid B
  have c0 := B.cells
  clear s1' x1 B
  go_wp2_with fail
  go_region_with (first
    | (go_at_call 187; go_loud (refine (HI.out _ _ (X1.out.drewN _)).mono ?_; rintro _ _ ⟨m1, rfl, rfl⟩))
    | (go_at_call 188; go_loud (refine (hold1_module _ _ _ _ _ _ (X1.out.drewN _)).mono ?_; rintro _ w2 ⟨rfl, s2'⟩; have c0 := ((HB.out.drewN _).keep s2').cells; have HS2 : Hid (Span 0 0 w w2) := (by first | exact HS.out.trans s2' | exact HS.out.trans s2'.undrawn' | exact HS.out.trans (Span.undrawn' (n := 1) s2')); clear s2'))
    | (go_at_call 64; go_loud (refine (sameModules_self _ ([], []) _ _ _ (ReadM.hold1 _ _ _ _ _) (ReadM.hold1 _ _ _ _ _) (by simp) (by simp) (by simp)).mono ?_; rintro _ w3 ⟨rfl, s3'⟩; have HS3 : Hid (Span 0 0 w w3) := (by first | exact HS2.out.trans s3' | exact HS2.out.trans s3'.undrawn' | exact HS2.out.trans (Span.undrawn' (n := 1) s3')); clear s3')))
  all_goals go_wp2_with fail
  all_goals go_ret
  all_goals exact ⟨rfl, HS3.out⟩
end
section
open Go.RowKit

theorem hold1_step (b p q s1 s2 : Nat) (c : Int) (h1 : 1 ≤ c) (h2 : c ≤ 100) (w : World) (hx : Bx b #[.complex .f32 s1 s2, .int .i64 c, .int .i64 0] w) :
    Calls Tryz.prog 190 #[.pointer (some ⟨b, 0, none⟩), .complex .f32 p q] w fun e w' => e = .returned (.complex .f32 p q) ∧ Bx b #[.complex .f32 p q, .int .i64 c, .int .i64 (c - 1)] w' ∧ Span b (b + 1) w w' := by
  have cx := hx.cells
  have ft := hx.thaw
  have HX := Lib.hid hx
  clear hx
  go_enter Tryz.func190, Tryz.ntmps190
  go_wp2_with fail
  go_ret
  refine ⟨rfl, ?_, (((Span.refl b (b + 1) w).setCell (p := ⟨b, 0, none⟩) (.inl ⟨Nat.le_refl _, Nat.lt_succ_self _⟩) _).setCell (p := ⟨b, 2, none⟩) (.inl ⟨Nat.le_refl _, Nat.lt_succ_self _⟩) _).setCell (p := ⟨b, 2, none⟩) (.inl ⟨Nat.le_refl _, Nat.lt_succ_self _⟩) _⟩
  have := ((HX.out.set 0 (.complex .f32 p q) (by simp)).set 2 (.int .i64 c) (by simp)).set 2 (.int .i64 (c - 1)) (by simp)
  simpa using this
end
end Go.Proofs.YtkjlodoppmipfaaGreat
