/- Modules of the kind source: unit, valid, module. -/
import Derived.Test.YtghekafjccfjcaaJq44
import Derived.Test.YtghekafjccfjcaaJq45
import Derived.Test.YtghekafjccfjcaaJq46
import Derived.BigQuiet
import Derived.Outline
namespace Go.Proofs.Ytghekafjccfjcaa
open Go.RowKit

set_option maxRecDepth 100000 in
theorem unitOf_source (t1 t2 s1 s2 : Nat) (w : World) :
    Calls Try.prog 21 #[.agg #[.int .i64 1, .complex .f32 t1 t2, .complex .f32 s1 s2, .float .f32 0, .slice none 0 0, .int .i64 0, .int .i64 0, .slice none 0 0, .slice none 0 0, .int .i64 0, .int .i64 0]] w fun e w' => ∃ b, e = .returned (.iface 82 (.pointer (some ⟨b, 0, none⟩))) ∧ Bx b #[.complex .f32 t1 t2, .complex .f32 s1 s2] w' ∧ w.heap.size ≤ b ∧ Span 0 0 w w' := by
  go_enter Try.func21, Try.ntmps21
  go_wp2_with fail
  go_ret
  refine ⟨_, rfl, ?_, ?_, ((Span.refl _ _ _).alloc _).alloc _⟩
  · have := Bx.new (w.alloc (.cells #[.int .i64 1, .complex .f32 t1 t2, .complex .f32 s1 s2, .float .f32 0, .slice none 0 0, .int .i64 0, .int .i64 0, .slice none 0 0, .slice none 0 0, .int .i64 0, .int .i64 0] 37)) #[.complex .f32 t1 t2, .complex .f32 s1 s2] 84
    simpa using this
  · omega

theorem call_source_isValid (v : Value) (w : World) : (method 263 82 v "loop.example/g03223/impl.isValid").run Try.prog w = .ok (61, v) w := by kernel_rfl
theorem call_source_module (v : Value) (w : World) : (method 263 82 v "loop.example/g03223/impl.module").run Try.prog w = .ok (62, v) w := by kernel_rfl
theorem call_source_step (v : Value) (w : World) : (method 263 82 v "loop.example/g03223/impl.step").run Try.prog w = .ok (63, v) w := by kernel_rfl

theorem source_isValid (b : Nat) (t1 t2 s1 s2 : Nat) (w : World) (hx : Bx b #[.complex .f32 t1 t2, .complex .f32 s1 s2] w) :
    Calls Try.prog 61 #[.pointer (some ⟨b, 0, none⟩)] w (SaysTrue w) := by
  have cx := hx.cells
  clear hx
  go_enter Try.func61, Try.ntmps61
  go_wp2_with fail
  go_ret
  exact ⟨0, rfl, rfl⟩

set_option maxRecDepth 100000 in
theorem source_module (b : Nat) (t1 t2 s1 s2 : Nat) (w : World) (hx : Bx b #[.complex .f32 t1 t2, .complex .f32 s1 s2] w) :
    Calls Try.prog 62 #[.pointer (some ⟨b, 0, none⟩)] w fun e w' => e = .returned (.agg #[.int .i64 1, .complex .f32 t1 t2, .complex .f32 s1 s2, .float .f32 0, .slice none 0 0, .int .i64 0, .int .i64 0, .slice none 0 0, .slice none 0 0, .int .i64 0, .int .i64 0]) ∧ Span 0 0 w w' := by
  have cx := hx.cells
  have ca := hx.cellsA
  clear hx
  go_enter Try.func62, Try.ntmps62
  go_wp2_with fail
  try go_region
  all_goals try go_wp2_with fail
  all_goals exact bodyPost_ret (v := .agg #[.int .i64 1, .complex .f32 t1 t2, .complex .f32 s1 s2, .float .f32 0, .slice none 0 0, .int .i64 0, .int .i64 0, .slice none 0 0, .slice none 0 0, .int .i64 0, .int .i64 0]) (by simp [results, Try.results62, go_sem]) rfl ⟨rfl, by first | exact (Span.refl _ _ _).alloc _ | exact ((Span.refl _ _ _).alloc _).drew⟩

theorem ReadM.source (t1 t2 s1 s2 : Nat) (w : World) : ReadM w (.agg #[.int .i64 1, .complex .f32 t1 t2, .complex .f32 s1 s2, .float .f32 0, .slice none 0 0, .int .i64 0, .int .i64 0, .slice none 0 0, .slice none 0 0, .int .i64 0, .int .i64 0]) ⟨1, (t1, t2), (s1, s2), 0, ⟨[], 0, 0⟩, 0, 0⟩ ([], []) :=
  ⟨_, _, _, 0, 0, 0, rfl, HasS.empty _ _ _ _ _ _ _ _, HasS.empty _ _ _ _ _ _ _ _, HasS.empty _ _ _ _ _ _ _ _⟩

set_option maxRecDepth 100000 in
set_option maxHeartbeats 4000000 in
theorem isModule_source (t1 t2 s1 s2 : Nat) (w : World) : Calls Try.prog 29 #[.agg #[.int .i64 1, .complex .f32 t1 t2, .complex .f32 s1 s2, .float .f32 0, .slice none 0 0, .int .i64 0, .int .i64 0, .slice none 0 0, .slice none 0 0, .int .i64 0, .int .i64 0]] w (True0 w) := by
  have cm1 := call_source_isValid
  have cm2 := call_source_module
  have HI := Lib.hid (fun b w h => source_isValid b t1 t2 s1 s2 w h)
  skip
  go_enter Try.func29, Try.ntmps29
  go_wp2_with fail
  refine (unitOf_source _ _ _ _ _).mono ?_
  rintro _ w1 ⟨b, rfl, x1, _, s1'⟩
  have B := (Bx.new w #[.int .i64 1, .complex .f32 t1 t2, .complex .f32 s1 s2, .float .f32 0, .slice none 0 0, .int .i64 0, .int .i64 0, .slice none 0 0, .slice none 0 0, .int .i64 0, .int .i64 0] 37).keep s1'
  have HS := Lib.hid (((Span.refl 0 0 w).alloc (.cells #[.int .i64 1, .complex .f32 t1 t2, .complex .f32 s1 s2, .float .f32 0, .slice none 0 0, .int .i64 0, .int .i64 0, .slice none 0 0, .slice none 0 0, .int .i64 0, .int .i64 0] 37)).trans s1')
  have X1 := Lib.hid x1
  have HB := Lib.hid B
  have c0 := B.cells
  clear s1' x1 B
  go_wp2_with fail
  go_region_with (first
    | (go_at_call 61; go_loud (refine (HI.out _ _ (X1.out.drewN _)).mono ?_; rintro _ _ ⟨m1, rfl, rfl⟩))
    | (go_at_call 62; go_loud (refine (source_module _ _ _ _ _ _ (X1.out.drewN _)).mono ?_; rintro _ w2 ⟨rfl, s2'⟩; have c0 := ((HB.out.drewN _).keep s2').cells; have HS2 : Hid (Span 0 0 w w2) := (by first | exact HS.out.trans s2' | exact HS.out.trans s2'.undrawn' | exact HS.out.trans (Span.undrawn' (n := 1) s2')); clear s2'))
    | (go_at_call 34; go_loud (refine (sameModules_self _ ([], []) _ _ _ (ReadM.source _ _ _ _ _) (ReadM.source _ _ _ _ _) (by simp) (by simp) (by simp)).mono ?_; rintro _ w3 ⟨rfl, s3'⟩; have HS3 : Hid (Span 0 0 w w3) := (by first | exact HS2.out.trans s3' | exact HS2.out.trans s3'.undrawn' | exact HS2.out.trans (Span.undrawn' (n := 1) s3')); clear s3')))
  all_goals go_wp2_with fail
  all_goals go_ret
  all_goals exact ⟨rfl, HS3.out⟩
end Go.Proofs.Ytghekafjccfjcaa
