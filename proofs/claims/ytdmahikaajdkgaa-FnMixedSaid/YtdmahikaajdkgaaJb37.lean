/- Modules of the kind hold are valid, or not. Holds are made. -/
import Derived.Test.YtdmahikaajdkgaaJb31
import Derived.BigQuiet
import Derived.Outline
namespace Go.Proofs.Ytdmahikaajdkgaa
section
open Go.RowKit

set_option maxRecDepth 100000 in
theorem unitOf_hold (t1 t2 s1 s2 l : Nat) (A0 A1 A2 : Option Addr) (n0 c0 n1 c1 n2 c2 : Nat) (a n c f : Int) (w : World) :
    Calls Try.prog 71 #[.agg #[.int .i64 8, .complex .f32 t1 t2, .complex .f32 s1 s2, .float .f32 l, .slice A0 n0 c0, .int .i64 a, .int .i64 n, .slice A1 n1 c1, .slice A2 n2 c2, .int .i64 c, .int .i64 f]] w fun e w' => ∃ b, e = .returned (.iface 170 (.pointer (some ⟨b, 0, none⟩))) ∧ Bx b #[.complex .f32 s1 s2, .int .i64 c, .int .i64 f] w' ∧ Span 0 0 w w' := by
  go_enter Try.func71, Try.ntmps71
  go_wp2_with fail
  go_ret
  refine ⟨_, rfl, ?_, ((Span.refl _ _ _).alloc _).alloc _⟩
  have := Bx.new (w.alloc (.cells #[.int .i64 8, .complex .f32 t1 t2, .complex .f32 s1 s2, .float .f32 l, .slice A0 n0 c0, .int .i64 a, .int .i64 n, .slice A1 n1 c1, .slice A2 n2 c2, .int .i64 c, .int .i64 f] 35)) #[.complex .f32 s1 s2, .int .i64 c, .int .i64 f] 172
  simpa using this

theorem hold_isValid_yes (b : Nat) (s1 s2 : Nat) (c f : Int) (h1 : 1 ≤ c) (h2 : c ≤ 100) (h3 : 0 ≤ f) (h4 : f < c) (w : World) (hx : Bx b #[.complex .f32 s1 s2, .int .i64 c, .int .i64 f] w) :
    Calls Try.prog 200 #[.pointer (some ⟨b, 0, none⟩)] w (SaysTrue w) := by
  have cx := hx.cells
  have d1 : decide (1 ≤ c) = true := decide_eq_true h1
  have d2 : decide (c ≤ 100) = true := decide_eq_true h2
  have d3 : decide (0 ≤ f) = true := decide_eq_true h3
  have d4 : decide (f < c) = true := decide_eq_true h4
  clear h1 h2 h3 h4 hx
  go_enter Try.func200, Try.ntmps200
  go_wp2_with fail
  go_quiet (fail)
  go_wp2_with fail
  go_ret
  exact ⟨_, rfl, rfl⟩

theorem hold_isValid_no (b : Nat) (s1 s2 : Nat) (c f : Int) (h1 : ¬ (1 ≤ c ∧ c ≤ 100)) (w : World) (hx : Bx b #[.complex .f32 s1 s2, .int .i64 c, .int .i64 f] w) :
    Calls Try.prog 200 #[.pointer (some ⟨b, 0, none⟩)] w fun e w' => e = .returned (.bool false) ∧ ∃ n, w' = w.drewN n := by
  have cx := hx.cells
  by_cases h2 : 1 ≤ c
  · have d1 : decide (1 ≤ c) = true := decide_eq_true h2
    have d2 : decide (c ≤ 100) = false := by rw [decide_eq_false_iff_not]; omega
    clear h1 h2 hx
    go_enter Try.func200, Try.ntmps200
    go_wp2_with fail
    go_quiet (fail)
    go_wp2_with fail
    go_ret
    exact ⟨rfl, _, rfl⟩
  · have d1 : decide (1 ≤ c) = false := by rw [decide_eq_false_iff_not]; omega
    clear h1 h2 hx
    go_enter Try.func200, Try.ntmps200
    go_wp2_with fail
    go_quiet (fail)
    go_wp2_with fail
    go_ret
    exact ⟨rfl, _, rfl⟩

set_option maxRecDepth 100000 in
theorem hold_module (b : Nat) (s1 s2 : Nat) (c f : Int) (w : World) (hx : Bx b #[.complex .f32 s1 s2, .int .i64 c, .int .i64 f] w) :
    Calls Try.prog 201 #[.pointer (some ⟨b, 0, none⟩)] w fun e w' => e = .returned (.agg #[.int .i64 8, .complex .f32 0 0, .complex .f32 s1 s2, .float .f32 0, .slice none 0 0, .int .i64 0, .int .i64 0, .slice none 0 0, .slice none 0 0, .int .i64 c, .int .i64 f]) ∧ Span 0 0 w w' := by
  have cx := hx.cells
  have ca := hx.cellsA
  have HX := Lib.hid hx
  clear hx
  go_enter Try.func201, Try.ntmps201
  go_wp2_with fail
  go_region
  all_goals go_wp2_with fail
  all_goals exact bodyPost_ret (v := .agg #[.int .i64 8, .complex .f32 0 0, .complex .f32 s1 s2, .float .f32 0, .slice none 0 0, .int .i64 0, .int .i64 0, .slice none 0 0, .slice none 0 0, .int .i64 c, .int .i64 f]) (by simp [results, Try.results201, go_sem]) rfl ⟨rfl, ((Span.refl _ _ _).alloc _).drew⟩
end
section
open Go.RowKit

theorem call_hold_isValid (v : Value) (w : World) : (method 340 170 v "loop.example/g03223/impl.isValid").run Try.prog w = .ok (200, v) w := by kernel_rfl
theorem call_hold_module (v : Value) (w : World) : (method 340 170 v "loop.example/g03223/impl.module").run Try.prog w = .ok (201, v) w := by kernel_rfl

theorem ReadM.hold (s1 s2 : Nat) (c f : Int) (w : World) : ReadM w (.agg #[.int .i64 8, .complex .f32 0 0, .complex .f32 s1 s2, .float .f32 0, .slice none 0 0, .int .i64 0, .int .i64 0, .slice none 0 0, .slice none 0 0, .int .i64 c, .int .i64 f]) ⟨8, (0, 0), (s1, s2), 0, ⟨[], 0, 0⟩, c, f⟩ ([], []) :=
  ⟨_, _, _, 0, 0, 0, rfl, HasS.empty _ _ _ _ _ _ _ _, HasS.empty _ _ _ _ _ _ _ _, HasS.empty _ _ _ _ _ _ _ _⟩

set_option maxRecDepth 100000 in
set_option maxHeartbeats 4000000 in
theorem isModule_hold_yes (s1 s2 : Nat) (c f : Int) (h1 : 1 ≤ c) (h2 : c ≤ 100) (h3 : 0 ≤ f) (h4 : f < c) (w : World) :
    Calls Try.prog 70 #[.agg #[.int .i64 8, .complex .f32 0 0, .complex .f32 s1 s2, .float .f32 0, .slice none 0 0, .int .i64 0, .int .i64 0, .slice none 0 0, .slice none 0 0, .int .i64 c, .int .i64 f]] w (True0 w) := by
  have cm1 := call_hold_isValid
  have cm2 := call_hold_module
  have HI := Lib.hid (hold_isValid_yes · s1 s2 c f h1 h2 h3 h4)
  clear h1 h2 h3 h4
  go_enter Try.func70, Try.ntmps70
  go_wp2_with fail
  refine (unitOf_hold _ _ _ _ _ _ _ _ _ _ _ _ _ _ _ _ _ _ _).mono ?_
  rintro _ w1 ⟨b, rfl, x1, s1'⟩
  have B := (Bx.new w #[.int .i64 8, .complex .f32 0 0, .complex .f32 s1 s2, .float .f32 0, .slice none 0 0, .int .i64 0, .int .i64 0, .slice none 0 0, .slice none 0 0, .int .i64 c, .int .i64 f] 35).keep s1'
  have HS := Lib.hid (((Span.refl 0 0 w).alloc (.cells #[.int .i64 8, .complex .f32 0 0, .complex .f32 s1 s2, .float .f32 0, .slice none 0 0, .int .i64 0, .int .i64 0, .slice none 0 0, .slice none 0 0, .int .i64 c, .int .i64 f] 35)).trans s1')
  have X1 := Lib.hid x1
  have HB := Lib.hid B
  have c0 := B.cells
  clear s1' x1 B
  go_wp2_with fail
  go_region_with (first
    | (go_at_call 200; go_loud (refine (HI.out _ _ (X1.out.drewN _)).mono ?_; rintro _ _ ⟨m1, rfl, rfl⟩))
    | (go_at_call 201; go_loud (refine (hold_module _ _ _ _ _ _ (X1.out.drewN _)).mono ?_; rintro _ w2 ⟨rfl, s2'⟩; have c0 := ((HB.out.drewN _).keep s2').cells; have HS2 : Hid (Span 0 0 w w2) := (by first | exact HS.out.trans s2' | exact HS.out.trans s2'.undrawn' | exact HS.out.trans (Span.undrawn' (n := 1) s2')); clear s2'))
    | (go_at_call 96; go_loud (refine (sameModules_self _ ([], []) _ _ _ (ReadM.hold _ _ _ _ _) (ReadM.hold _ _ _ _ _) (by simp) (by simp) (by simp)).mono ?_; rintro _ w3 ⟨rfl, s3'⟩; have HS3 : Hid (Span 0 0 w w3) := (by first | exact HS2.out.trans s3' | exact HS2.out.trans s3'.undrawn' | exact HS2.out.trans (Span.undrawn' (n := 1) s3')); clear s3')))
  all_goals go_wp2_with fail
  all_goals go_ret
  all_goals exact ⟨rfl, HS3.out⟩
end
end Go.Proofs.Ytdmahikaajdkgaa
