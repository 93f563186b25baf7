/- Modules of the kind mixer: unit, valid, module. Modules of the kind mixer are stepped. -/
import Derived.Test.YtdmahikaajdkgaaJb31
import Derived.Test.YtdmahikaajdkgaaJb32
import Derived.Test.YtdmahikaajdkgaaJb33
import Derived.BigQuiet
import Derived.Outline
import Derived.Test.YtdmahikaajdkgaaJb12
import Derived.Test.YtdmahikaajdkgaaJb19
import Derived.StillTailTactics
namespace Go.Proofs.Ytdmahikaajdkgaa
section
open Go.RowKit

set_option maxRecDepth 100000 in
theorem unitOf_mixer (t1 t2 s1 s2 : Nat) (w : World) :
    Calls Try.prog 71 #[.agg #[.int .i64 2, .complex .f32 t1 t2, .complex .f32 s1 s2, .float .f32 0, .slice none 0 0, .int .i64 0, .int .i64 0, .slice none 0 0, .slice none 0 0, .int .i64 0, .int .i64 0]] w fun e w' => ∃ b, e = .returned (.iface 154 (.pointer (some ⟨b, 0, none⟩))) ∧ Bx b #[.complex .f32 t1 t2, .complex .f32 s1 s2] w' ∧ w.heap.size ≤ b ∧ Span 0 0 w w' := by
  go_enter Try.func71, Try.ntmps71
  go_wp2_with fail
  go_ret
  refine ⟨_, rfl, ?_, ?_, ((Span.refl _ _ _).alloc _).alloc _⟩
  · have := Bx.new (w.alloc (.cells #[.int .i64 2, .complex .f32 t1 t2, .complex .f32 s1 s2, .float .f32 0, .slice none 0 0, .int .i64 0, .int .i64 0, .slice none 0 0, .slice none 0 0, .int .i64 0, .int .i64 0] 35)) #[.complex .f32 t1 t2, .complex .f32 s1 s2] 155
    simpa using this
  · omega

theorem call_mixer_isValid (v : Value) (w : World) : (method 340 154 v "loop.example/g03223/impl.isValid").run Try.prog w = .ok (160, v) w := by kernel_rfl
theorem call_mixer_module (v : Value) (w : World) : (method 340 154 v "loop.example/g03223/impl.module").run Try.prog w = .ok (161, v) w := by kernel_rfl
theorem call_mixer_step (v : Value) (w : World) : (method 340 154 v "loop.example/g03223/impl.step").run Try.prog w = .ok (163, v) w := by kernel_rfl

theorem mixer_isValid (b : Nat) (t1 t2 s1 s2 : Nat) (w : World) (hx : Bx b #[.complex .f32 t1 t2, .complex .f32 s1 s2] w) :
    Calls Try.prog 160 #[.pointer (some ⟨b, 0, none⟩)] w (SaysTrue w) := by
  have cx := hx.cells
  clear hx
  go_enter Try.func160, Try.ntmps160
  go_wp2_with fail
  go_ret
  exact ⟨0, rfl, rfl⟩

set_option maxRecDepth 100000 in
theorem mixer_module (b : Nat) (t1 t2 s1 s2 : Nat) (w : World) (hx : Bx b #[.complex .f32 t1 t2, .complex .f32 s1 s2] w) :
    Calls Try.prog 161 #[.pointer (some ⟨b, 0, none⟩)] w fun e w' => e = .returned (.agg #[.int .i64 2, .complex .f32 t1 t2, .complex .f32 s1 s2, .float .f32 0, .slice none 0 0, .int .i64 0, .int .i64 0, .slice none 0 0, .slice none 0 0, .int .i64 0, .int .i64 0]) ∧ Span 0 0 w w' := by
  have cx := hx.cells
  have ca := hx.cellsA
  clear hx
  go_enter Try.func161, Try.ntmps161
  go_wp2_with fail
  try go_region
  all_goals try go_wp2_with fail
  all_goals exact bodyPost_ret (v := .agg #[.int .i64 2, .complex .f32 t1 t2, .complex .f32 s1 s2, .float .f32 0, .slice none 0 0, .int .i64 0, .int .i64 0, .slice none 0 0, .slice none 0 0, .int .i64 0, .int .i64 0]) (by simp [results, Try.results161, go_sem]) rfl ⟨rfl, by first | exact (Span.refl _ _ _).alloc _ | exact ((Span.refl _ _ _).alloc _).drew⟩

theorem ReadM.mixer (t1 t2 s1 s2 : Nat) (w : World) : ReadM w (.agg #[.int .i64 2, .complex .f32 t1 t2, .complex .f32 s1 s2, .float .f32 0, .slice none 0 0, .int .i64 0, .int .i64 0, .slice none 0 0, .slice none 0 0, .int .i64 0, .int .i64 0]) ⟨2, (t1, t2), (s1, s2), 0, ⟨[], 0, 0⟩, 0, 0⟩ ([], []) :=
  ⟨_, _, _, 0, 0, 0, rfl, HasS.empty _ _ _ _ _ _ _ _, HasS.empty _ _ _ _ _ _ _ _, HasS.empty _ _ _ _ _ _ _ _⟩

set_option maxRecDepth 100000 in
set_option maxHeartbeats 4000000 in
theorem isModule_mixer (t1 t2 s1 s2 : Nat) (w : World) : Calls Try.prog 70 #[.agg #[.int .i64 2, .complex .f32 t1 t2, .complex .f32 s1 s2, .float .f32 0, .slice none 0 0, .int .i64 0, .int .i64 0, .slice none 0 0, .slice none 0 0, .int .i64 0, .int .i64 0]] w (True0 w) := by
  have cm1 := call_mixer_isValid
  have cm2 := call_mixer_module
  have HI := Lib.hid (fun b w h => mixer_isValid b t1 t2 s1 s2 w h)
  skip
  go_enter Try.func70, Try.ntmps70
  go_wp2_with fail
  refine (unitOf_mixer _ _ _ _ _).mono ?_
  rintro _ w1 ⟨b, rfl, x1, _, s1'⟩
  have B := (Bx.new w #[.int .i64 2, .complex .f32 t1 t2, .complex .f32 s1 s2, .float .f32 0, .slice none 0 0, .int .i64 0, .int .i64 0, .slice none 0 0, .slice none 0 0, .int .i64 0, .int .i64 0] 35).keep s1'
  have HS := Lib.hid (((Span.refl 0 0 w).alloc (.cells #[.int .i64 2, .complex .f32 t1 t2, .complex .f32 s1 s2, .float .f32 0, .slice none 0 0, .int .i64 0, .int .i64 0, .slice none 0 0, .slice none 0 0, .int .i64 0, .int .i64 0] 35)).trans s1')
  have X1 := Lib.hid x1
  have HB := Lib.hid B
  have c0 := B.cells
  clear s1' x1 B
  go_wp2_with fail
  go_region_with (first
    | (go_at_call 160; go_loud (refine (HI.out _ _ (X1.out.drewN _)).mono ?_; rintro _ _ ⟨m1, rfl, rfl⟩))
    | (go_at_call 161; go_loud (refine (mixer_module _ _ _ _ _ _ (X1.out.drewN _)).mono ?_; rintro _ w2 ⟨rfl, s2'⟩; have c0 := ((HB.out.drewN _).keep s2').cells; have HS2 : Hid (Span 0 0 w w2) := (by first | exact HS.out.trans s2' | exact HS.out.trans s2'.undrawn' | exact HS.out.trans (Span.undrawn' (n := 1) s2')); clear s2'))
    | (go_at_call 96; go_loud (refine (sameModules_self _ ([], []) _ _ _ (ReadM.mixer _ _ _ _ _) (ReadM.mixer _ _ _ _ _) (by simp) (by simp) (by simp)).mono ?_; rintro _ w3 ⟨rfl, s3'⟩; have HS3 : Hid (Span 0 0 w w3) := (by first | exact HS2.out.trans s3' | exact HS2.out.trans s3'.undrawn' | exact HS2.out.trans (Span.undrawn' (n := 1) s3')); clear s3')))
  all_goals go_wp2_with fail
  all_goals go_ret
  all_goals exact ⟨rfl, HS3.out⟩

set_option maxRecDepth 100000 in
set_option maxHeartbeats 4000000 in
theorem validUnit_mixer (t1 t2 s1 s2 : Nat) (w : World) : Calls Try.prog 44 #[.agg #[.int .i64 2, .complex .f32 t1 t2, .complex .f32 s1 s2, .float .f32 0, .slice none 0 0, .int .i64 0, .int .i64 0, .slice none 0 0, .slice none 0 0, .int .i64 0, .int .i64 0]] w fun e w' => ∃ b, e = .returned (.iface 154 (.pointer (some ⟨b, 0, none⟩))) ∧ Bx b #[.complex .f32 t1 t2, .complex .f32 s1 s2] w' ∧ w.heap.size ≤ b ∧ Span 0 0 w w' := by
  have HI := Lib.hid (fun w => isModule_mixer t1 t2 s1 s2 w)
  skip
  go_enter Try.func44, Try.ntmps44
  go_wp2_with fail
  refine (HI.out _).mono ?_
  rintro _ w1 ⟨rfl, s1'⟩
  have B := (Bx.new w #[.int .i64 2, .complex .f32 t1 t2, .complex .f32 s1 s2, .float .f32 0, .slice none 0 0, .int .i64 0, .int .i64 0, .slice none 0 0, .slice none 0 0, .int .i64 0, .int .i64 0] 35).keep s1'
  have S1 := Lib.hid (((Span.refl 0 0 w).alloc (.cells #[.int .i64 2, .complex .f32 t1 t2, .complex .f32 s1 s2, .float .f32 0, .slice none 0 0, .int .i64 0, .int .i64 0, .slice none 0 0, .slice none 0 0, .int .i64 0, .int .i64 0] 35)).trans s1')
  have c1 := B.cells
  clear s1' B
  go_wp2_with fail
  refine (copyModule_nil _ _ _ _ _ _ _ _ _).mono ?_
  rintro _ w2 ⟨rfl, s2'⟩
  have S2 := Lib.hid (S1.out.trans s2')
  clear s2'
  go_wp2_with fail
  refine (unitOf_mixer _ _ _ _ _).mono ?_
  rintro _ w3 ⟨b, rfl, x3, h3, s3'⟩
  have X3 := Lib.hid x3
  have S3 := Lib.hid (S2.out.trans s3')
  have H3 := Lib.hid h3
  have z2 := S2.out.size
  have H4 := Lib.hid (show w.heap.size ≤ b by omega)
  clear x3 s3' h3 z2
  go_wp2_with fail
  go_ret
  exact ⟨b, rfl, X3.out, H4.out, S3.out⟩
end
section
open Go.RowKit


set_option maxRecDepth 100000 in
set_option maxHeartbeats 1000000 in
theorem mixer_step (b : Nat) (t1 t2 s1 s2 n1 n2 p q : Nat) (o1 o2 : Nat) (hm : mulS (p, q) (s1, s2) = some (o1, o2)) (hn : mulS (s1, s2) (t1, t2) = some (n1, n2)) (w : World) (hx : Bx b #[.complex .f32 t1 t2, .complex .f32 s1 s2] w) :
    Calls Try.prog 163 #[.pointer (some ⟨b, 0, none⟩), .complex .f32 p q] w fun e w' => e = .returned (.complex .f32 o1 o2) ∧ Bx b #[.complex .f32 t1 t2, .complex .f32 n1 n2] w' ∧ Span b (b + 1) w w' := by
  have HM := Lib.hid (fun w => impl_multiply_some (p, q) (s1, s2) (o1, o2) hm w)
  have HNX := Lib.hid (fun w => impl_multiply_some (s1, s2) (t1, t2) (n1, n2) hn w)
  have cx := hx.cells
  have ft := hx.thaw
  have HX := Lib.hid hx
  clear hx hn hm
  go_enter Try.func163, Try.ntmps163
  go_wp2_with fail
  refine (HM.out _).mono ?_
  rintro _ _ ⟨rfl, rfl⟩
  go_wp2_with fail
  go_still_tail 10, (by kernel_rfl)
  still_call ((HNX.out _).mono (fun _ _ h => ⟨h.1, h.2.symm⟩))
  repeat still_step
  refine wpStill_nil ?_
  go_wp2_with fail
  go_ret
  refine ⟨rfl, ?_, ?_⟩
  · have h2 : Bx b #[.complex .f32 t1 t2, .complex .f32 n1 n2] (w.setCell ⟨b, 1, none⟩ (.complex .f32 n1 n2)) := by
      have := (HX.out.set 1 (.complex .f32 n1 n2) (by simp))
      simpa using this
    exact h2
  · first | exact ((Span.refl b (b + 1) w).setCell (p := ⟨b, 1, none⟩) (.inl ⟨Nat.le_refl _, Nat.lt_succ_self _⟩) _).drew | exact ((Span.refl b (b + 1) w).setCell (p := ⟨b, 1, none⟩) (.inl ⟨Nat.le_refl _, Nat.lt_succ_self _⟩) _).drewN _ | exact ((Span.refl b (b + 1) w).setCell (p := ⟨b, 1, none⟩) (.inl ⟨Nat.le_refl _, Nat.lt_succ_self _⟩) _) | exact (((Span.refl b (b + 1) w).drew).setCell (p := ⟨b, 1, none⟩) (.inl ⟨Nat.le_refl _, Nat.lt_succ_self _⟩) _) | exact (((Span.refl b (b + 1) w).drewN _).setCell (p := ⟨b, 1, none⟩) (.inl ⟨Nat.le_refl _, Nat.lt_succ_self _⟩) _)

set_option maxRecDepth 100000 in
set_option maxHeartbeats 4000000 in
theorem stepModule_mixer (t1 t2 s1 s2 n1 n2 p q : Nat) (o1 o2 : Nat) (hm : mulS (p, q) (s1, s2) = some (o1, o2)) (hn : mulS (s1, s2) (t1, t2) = some (n1, n2)) (w : World) :
    Calls Try.prog 14 #[.agg #[.int .i64 2, .complex .f32 t1 t2, .complex .f32 s1 s2, .float .f32 0, .slice none 0 0, .int .i64 0, .int .i64 0, .slice none 0 0, .slice none 0 0, .int .i64 0, .int .i64 0], .complex .f32 p q] w fun e w' => e = .returned (.tuple #[.agg #[.int .i64 2, .complex .f32 t1 t2, .complex .f32 n1 n2, .float .f32 0, .slice none 0 0, .int .i64 0, .int .i64 0, .slice none 0 0, .slice none 0 0, .int .i64 0, .int .i64 0], .complex .f32 o1 o2, .bool true]) ∧ Span 0 0 w w' := by
  have cm1 := call_mixer_step
  have cm2 := call_mixer_module
  have VU := Lib.hid (fun w => validUnit_mixer t1 t2 s1 s2 w)
  have ST := Lib.hid (fun b w h => mixer_step b t1 t2 s1 s2 n1 n2 p q o1 o2 hm hn w h)
  clear hn hm
  go_enter Try.func14, Try.ntmps14
  go_wp2_with fail
  refine (VU.out _).mono ?_
  rintro _ w1 ⟨b, rfl, x1, k1, sp1⟩
  have Y := (Bx.new (w.alloc (.cells #[.int .i64 2, .complex .f32 t1 t2, .complex .f32 s1 s2, .float .f32 0, .slice none 0 0, .int .i64 0, .int .i64 0, .slice none 0 0, .slice none 0 0, .int .i64 0, .int .i64 0] 35)) #[.int .i64 0, .complex .f32 0 0, .complex .f32 0 0, .float .f32 0, .slice none 0 0, .int .i64 0, .int .i64 0, .slice none 0 0, .slice none 0 0, .int .i64 0, .int .i64 0] 35).keep sp1
  rw [show (w.alloc (.cells #[.int .i64 2, .complex .f32 t1 t2, .complex .f32 s1 s2, .float .f32 0, .slice none 0 0, .int .i64 0, .int .i64 0, .slice none 0 0, .slice none 0 0, .int .i64 0, .int .i64 0] 35)).heap.size = w.heap.size + 1 by simp] at Y
  have S1 := Lib.hid ((((Span.refl 0 0 w).alloc (.cells #[.int .i64 2, .complex .f32 t1 t2, .complex .f32 s1 s2, .float .f32 0, .slice none 0 0, .int .i64 0, .int .i64 0, .slice none 0 0, .slice none 0 0, .int .i64 0, .int .i64 0] 35)).alloc (.cells #[.int .i64 0, .complex .f32 0 0, .complex .f32 0 0, .float .f32 0, .slice none 0 0, .int .i64 0, .int .i64 0, .slice none 0 0, .slice none 0 0, .int .i64 0, .int .i64 0] 35)).trans sp1)
  have h1' : w.heap.size + 2 ≤ b := by have := k1; simp at this; omega
  have X1 := Lib.hid x1
  have Y1 := Lib.hid Y
  have H1 := Lib.hid h1'
  clear sp1 x1 k1 h1' Y
  go_wp2_with fail
  refine (ST.out b _ X1.out).mono ?_
  rintro _ w2 ⟨rfl, x2, sp2⟩
  skip
  have hb := H1.out
  have Y2 := Lib.hid (Y1.out.span sp2 (by omega))
  have S2 := Lib.hid (show Span 0 0 w w2 from ⟨sp2.os.trans S1.out.os, sp2.tape.trans S1.out.tape, sp2.output.trans S1.out.output, Nat.le_trans S1.out.size sp2.size, fun k hk _ => (sp2.block k (Nat.lt_of_lt_of_le hk S1.out.size) (by omega)).trans (S1.out.block k hk (by omega))⟩)
  have X2 := Lib.hid x2
  clear sp2 x2 hb
  go_wp2_with fail
  refine (mixer_module b _ _ _ _ _ X2.out).mono ?_
  rintro _ w3 ⟨rfl, sp3⟩
  have Y3 := Y2.out.keep sp3
  have S3 := Lib.hid (S2.out.trans sp3)
  have cy := Y3.cells
  have fy := Y3.thaw
  have YS := Lib.hid (Y3.set11 (.int .i64 2) (.complex .f32 t1 t2) (.complex .f32 n1 n2) (.float .f32 0) (.slice none 0 0) (.int .i64 0) (.int .i64 0) (.slice none 0 0) (.slice none 0 0) (.int .i64 0) (.int .i64 0))
  clear sp3 Y3
  go_wp2_with fail
  have d1 := YS.out.cells
  exact bodyPost_ret (v := .tuple #[.agg #[.int .i64 2, .complex .f32 t1 t2, .complex .f32 n1 n2, .float .f32 0, .slice none 0 0, .int .i64 0, .int .i64 0, .slice none 0 0, .slice none 0 0, .int .i64 0, .int .i64 0], .complex .f32 o1 o2, .bool true]) (by simp [results, Try.results14, go_sem, d1]) rfl ⟨rfl, S3.out.set11 (by omega) _ _ _ _ _ _ _ _ _ _ _⟩
end
end Go.Proofs.Ytdmahikaajdkgaa
