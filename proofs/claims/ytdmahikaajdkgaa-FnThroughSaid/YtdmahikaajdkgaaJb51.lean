/- Modules of the kind hold1: unit, valid, module. Modules of the kind hold1 are stepped. -/
import Derived.Test.YtdmahikaajdkgaaJb37
import Derived.Test.YtdmahikaajdkgaaJb32
import Derived.Test.YtdmahikaajdkgaaJb33
import Derived.BigQuiet
import Derived.Outline
namespace Go.Proofs.Ytdmahikaajdkgaa
section
open Go.RowKit

set_option maxRecDepth 100000 in
theorem unitOf_hold1 (s1 s2 : Nat) (c f : Int) (w : World) :
    Calls Try.prog 71 #[.agg #[.int .i64 8, .complex .f32 0 0, .complex .f32 s1 s2, .float .f32 0, .slice none 0 0, .int .i64 0, .int .i64 0, .slice none 0 0, .slice none 0 0, .int .i64 c, .int .i64 f]] w fun e w' => ∃ b, e = .returned (.iface 170 (.pointer (some ⟨b, 0, none⟩))) ∧ Bx b #[.complex .f32 s1 s2, .int .i64 c, .int .i64 f] w' ∧ w.heap.size ≤ b ∧ Span 0 0 w w' := by
  go_enter Try.func71, Try.ntmps71
  go_wp2_with fail
  go_ret
  refine ⟨_, rfl, ?_, ?_, ((Span.refl _ _ _).alloc _).alloc _⟩
  · have := Bx.new (w.alloc (.cells #[.int .i64 8, .complex .f32 0 0, .complex .f32 s1 s2, .float .f32 0, .slice none 0 0, .int .i64 0, .int .i64 0, .slice none 0 0, .slice none 0 0, .int .i64 c, .int .i64 f] 35)) #[.complex .f32 s1 s2, .int .i64 c, .int .i64 f] 172
    simpa using this
  · omega

theorem call_hold1_isValid (v : Value) (w : World) : (method 340 170 v "loop.example/g03223/impl.isValid").run Try.prog w = .ok (200, v) w := by kernel_rfl
theorem call_hold1_module (v : Value) (w : World) : (method 340 170 v "loop.example/g03223/impl.module").run Try.prog w = .ok (201, v) w := by kernel_rfl
theorem call_hold1_step (v : Value) (w : World) : (method 340 170 v "loop.example/g03223/impl.step").run Try.prog w = .ok (203, v) w := by kernel_rfl

theorem hold1_isValid (b : Nat) (s1 s2 : Nat) (c f : Int) (h1 : 1 ≤ c) (h2 : c ≤ 100) (h3 : 0 ≤ f) (h4 : f < c) (w : World) (hx : Bx b #[.complex .f32 s1 s2, .int .i64 c, .int .i64 f] w) :
    Calls Try.prog 200 #[.pointer (some ⟨b, 0, none⟩)] w (SaysTrue w) := hold_isValid_yes b s1 s2 c f h1 h2 h3 h4 w hx

set_option maxRecDepth 100000 in
theorem hold1_module (b : Nat) (s1 s2 : Nat) (c f : Int) (w : World) (hx : Bx b #[.complex .f32 s1 s2, .int .i64 c, .int .i64 f] w) :
    Calls Try.prog 201 #[.pointer (some ⟨b, 0, none⟩)] w fun e w' => e = .returned (.agg #[.int .i64 8, .complex .f32 0 0, .complex .f32 s1 s2, .float .f32 0, .slice none 0 0, .int .i64 0, .int .i64 0, .slice none 0 0, .slice none 0 0, .int .i64 c, .int .i64 f]) ∧ Span 0 0 w w' := by
  have cx := hx.cells
  have ca := hx.cellsA
  clear hx
  go_enter Try.func201, Try.ntmps201
  go_wp2_with fail
  try go_region
  all_goals try go_wp2_with fail
  all_goals exact bodyPost_ret (v := .agg #[.int .i64 8, .complex .f32 0 0, .complex .f32 s1 s2, .float .f32 0, .slice none 0 0, .int .i64 0, .int .i64 0, .slice none 0 0, .slice none 0 0, .int .i64 c, .int .i64 f]) (by simp [results, Try.results201, go_sem]) rfl ⟨rfl, by first | exact (Span.refl _ _ _).alloc _ | exact ((Span.refl _ _ _).alloc _).drew⟩

theorem ReadM.hold1 (s1 s2 : Nat) (c f : Int) (w : World) : ReadM w (.agg #[.int .i64 8, .complex .f32 0 0, .complex .f32 s1 s2, .float .f32 0, .slice none 0 0, .int .i64 0, .int .i64 0, .slice none 0 0, .slice none 0 0, .int .i64 c, .int .i64 f]) ⟨8, (0, 0), (s1, s2), 0, ⟨[], 0, 0⟩, c, f⟩ ([], []) :=
  ⟨_, _, _, 0, 0, 0, rfl, HasS.empty _ _ _ _ _ _ _ _, HasS.empty _ _ _ _ _ _ _ _, HasS.empty _ _ _ _ _ _ _ _⟩

set_option maxRecDepth 100000 in
set_option maxHeartbeats 4000000 in
theorem isModule_hold1 (s1 s2 : Nat) (c f : Int) (h1 : 1 ≤ c) (h2 : c ≤ 100) (h3 : 0 ≤ f) (h4 : f < c) (w : World) : Calls Try.prog 70 #[.agg #[.int .i64 8, .complex .f32 0 0, .complex .f32 s1 s2, .float .f32 0, .slice none 0 0, .int .i64 0, .int .i64 0, .slice none 0 0, .slice none 0 0, .int .i64 c, .int .i64 f]] w (True0 w) := by
  have cm1 := call_hold1_isValid
  have cm2 := call_hold1_module
  have HI := Lib.hid (fun b w h => hold1_isValid b s1 s2 c f h1 h2 h3 h4 w h)
  clear h1 h2 h3 h4
  go_enter Try.func70, Try.ntmps70
  go_wp2_with fail
  refine (unitOf_hold1 _ _ _ _ _).mono ?_
  rintro _ w1 ⟨b, rfl, x1, _, s1'⟩
  have B := (Bx.new w #[.int .i64 8, .complex .f32 0 0, .complex .f32 s1 s2, .float .f32 0, .slice none 0 0, .int .i64 0, .int .i64 0, .slice none 0 0, .slice none 0 0, .int .i64 c, .int .i64 f] 35).keep s1'
  have HS := Lib.hid (((Span.refl 0 0 w).alloc (.cells #[.int .i64 8, .complex .f32 0 0, .complex .f32 s1 s2, .float .f32 0, .slice none 0 0, .int .i64 0, .int .i64 0, .slice none 0 0, .slice none 0 0, .int .i64 c, .int .i64 f] 35)).trans s1')
  have X1 := Lib.hid x1
  have HB := Lib.hid B
  have c0 := B.cells
  clear s1' x1 B
  go_wp2_with fail
  go_region_with (first
    | (go_at_call 200; go_loud (refine (HI.out _ _ (X1.out.drewN _)).mono ?_; rintro _ _ ⟨m1, rfl, rfl⟩))
    | (go_at_call 201; go_loud (refine (hold1_module _ _ _ _ _ _ (X1.out.drewN _)).mono ?_; rintro _ w2 ⟨rfl, s2'⟩; have c0 := ((HB.out.drewN _).keep s2').cells; have HS2 : Hid (Span 0 0 w w2) := (by first | exact HS.out.trans s2' | exact HS.out.trans s2'.undrawn' | exact HS.out.trans (Span.undrawn' (n := 1) s2')); clear s2'))
    | (go_at_call 96; go_loud (refine (sameModules_self _ ([], []) _ _ _ (ReadM.hold1 _ _ _ _ _) (ReadM.hold1 _ _ _ _ _) (by simp) (by simp) (by simp)).mono ?_; rintro _ w3 ⟨rfl, s3'⟩; have HS3 : Hid (Span 0 0 w w3) := (by first | exact HS2.out.trans s3' | exact HS2.out.trans s3'.undrawn' | exact HS2.out.trans (Span.undrawn' (n := 1) s3')); clear s3')))
  all_goals go_wp2_with fail
  all_goals go_ret
  all_goals exact ⟨rfl, HS3.out⟩

set_option maxRecDepth 100000 in
set_option maxHeartbeats 4000000 in
theorem validUnit_hold1 (s1 s2 : Nat) (c f : Int) (h1 : 1 ≤ c) (h2 : c ≤ 100) (h3 : 0 ≤ f) (h4 : f < c) (w : World) : Calls Try.prog 44 #[.agg #[.int .i64 8, .complex .f32 0 0, .complex .f32 s1 s2, .float .f32 0, .slice none 0 0, .int .i64 0, .int .i64 0, .slice none 0 0, .slice none 0 0, .int .i64 c, .int .i64 f]] w fun e w' => ∃ b, e = .returned (.iface 170 (.pointer (some ⟨b, 0, none⟩))) ∧ Bx b #[.complex .f32 s1 s2, .int .i64 c, .int .i64 f] w' ∧ w.heap.size ≤ b ∧ Span 0 0 w w' := by
  have HI := Lib.hid (fun w => isModule_hold1 s1 s2 c f h1 h2 h3 h4 w)
  clear h1 h2 h3 h4
  go_enter Try.func44, Try.ntmps44
  go_wp2_with fail
  refine (HI.out _).mono ?_
  rintro _ w1 ⟨rfl, s1'⟩
  have B := (Bx.new w #[.int .i64 8, .complex .f32 0 0, .complex .f32 s1 s2, .float .f32 0, .slice none 0 0, .int .i64 0, .int .i64 0, .slice none 0 0, .slice none 0 0, .int .i64 c, .int .i64 f] 35).keep s1'
  have S1 := Lib.hid (((Span.refl 0 0 w).alloc (.cells #[.int .i64 8, .complex .f32 0 0, .complex .f32 s1 s2, .float .f32 0, .slice none 0 0, .int .i64 0, .int .i64 0, .slice none 0 0, .slice none 0 0, .int .i64 c, .int .i64 f] 35)).trans s1')
  have c1 := B.cells
  clear s1' B
  go_wp2_with fail
  refine (copyModule_nil _ _ _ _ _ _ _ _ _).mono ?_
  rintro _ w2 ⟨rfl, s2'⟩
  have S2 := Lib.hid (S1.out.trans s2')
  clear s2'
  go_wp2_with fail
  refine (unitOf_hold1 _ _ _ _ _).mono ?_
  rintro _ w3 ⟨b, rfl, x3, h3, s3'⟩
  have X3 := Lib.hid x3
  have S3 := Lib.hid (S2.out.trans s3')
  have H3 := Lib.hid h3
  have z2 := S2.out.size
  have H4 := Lib.hid (show w.heap.size ≤ b by omega)
  clear x3 s3' h3 z2
  go_wp2_with fail
  go_ret
  exact ⟨b, rfl, X3.out, H4.out, S3.out⟩
end
section
open Go.RowKit

theorem hold1_step (b p q s1 s2 : Nat) (c : Int) (h1 : 1 ≤ c) (h2 : c ≤ 100) (w : World) (hx : Bx b #[.complex .f32 s1 s2, .int .i64 c, .int .i64 0] w) :
    Calls Try.prog 203 #[.pointer (some ⟨b, 0, none⟩), .complex .f32 p q] w fun e w' => e = .returned (.complex .f32 p q) ∧ Bx b #[.complex .f32 p q, .int .i64 c, .int .i64 (c - 1)] w' ∧ Span b (b + 1) w w' := by
  have cx := hx.cells
  have ft := hx.thaw
  have HX := Lib.hid hx
  clear hx
  go_enter Try.func203, Try.ntmps203
  go_wp2_with fail
  go_ret
  refine ⟨rfl, ?_, (((Span.refl b (b + 1) w).setCell (p := ⟨b, 0, none⟩) (.inl ⟨Nat.le_refl _, Nat.lt_succ_self _⟩) _).setCell (p := ⟨b, 2, none⟩) (.inl ⟨Nat.le_refl _, Nat.lt_succ_self _⟩) _).setCell (p := ⟨b, 2, none⟩) (.inl ⟨Nat.le_refl _, Nat.lt_succ_self _⟩) _⟩
  have := ((HX.out.set 0 (.complex .f32 p q) (by simp)).set 2 (.int .i64 c) (by simp)).set 2 (.int .i64 (c - 1)) (by simp)
  simpa using this

set_option maxRecDepth 100000 in
set_option maxHeartbeats 4000000 in
theorem stepModule_hold1 (p q s1 s2 : Nat) (c : Int) (h1 : 1 ≤ c) (h2 : c ≤ 100) (w : World) :
    Calls Try.prog 14 #[.agg #[.int .i64 8, .complex .f32 0 0, .complex .f32 s1 s2, .float .f32 0, .slice none 0 0, .int .i64 0, .int .i64 0, .slice none 0 0, .slice none 0 0, .int .i64 c, .int .i64 0], .complex .f32 p q] w fun e w' => e = .returned (.tuple #[.agg #[.int .i64 8, .complex .f32 0 0, .complex .f32 p q, .float .f32 0, .slice none 0 0, .int .i64 0, .int .i64 0, .slice none 0 0, .slice none 0 0, .int .i64 c, .int .i64 (c - 1)], .complex .f32 p q, .bool true]) ∧ Span 0 0 w w' := by
  have cm1 := call_hold1_step
  have cm2 := call_hold1_module
  have VU := Lib.hid (fun w => validUnit_hold1 s1 s2 c 0 h1 h2 (by omega) (by omega)  w)
  have ST := Lib.hid (fun b w h => hold1_step b p q s1 s2 c h1 h2 w h)
  go_enter Try.func14, Try.ntmps14
  go_wp2_with fail
  refine (VU.out _).mono ?_
  rintro _ w1 ⟨b, rfl, x1, k1, sp1⟩
  have Y := (Bx.new (w.alloc (.cells #[.int .i64 8, .complex .f32 0 0, .complex .f32 s1 s2, .float .f32 0, .slice none 0 0, .int .i64 0, .int .i64 0, .slice none 0 0, .slice none 0 0, .int .i64 c, .int .i64 0] 35)) #[.int .i64 0, .complex .f32 0 0, .complex .f32 0 0, .float .f32 0, .slice none 0 0, .int .i64 0, .int .i64 0, .slice none 0 0, .slice none 0 0, .int .i64 0, .int .i64 0] 35).keep sp1
  rw [show (w.alloc (.cells #[.int .i64 8, .complex .f32 0 0, .complex .f32 s1 s2, .float .f32 0, .slice none 0 0, .int .i64 0, .int .i64 0, .slice none 0 0, .slice none 0 0, .int .i64 c, .int .i64 0] 35)).heap.size = w.heap.size + 1 by simp] at Y
  have S1 := Lib.hid ((((Span.refl 0 0 w).alloc (.cells #[.int .i64 8, .complex .f32 0 0, .complex .f32 s1 s2, .float .f32 0, .slice none 0 0, .int .i64 0, .int .i64 0, .slice none 0 0, .slice none 0 0, .int .i64 c, .int .i64 0] 35)).alloc (.cells #[.int .i64 0, .complex .f32 0 0, .complex .f32 0 0, .float .f32 0, .slice none 0 0, .int .i64 0, .int .i64 0, .slice none 0 0, .slice none 0 0, .int .i64 0, .int .i64 0] 35)).trans sp1)
  have h1' : w.heap.size + 2 ≤ b := by have := k1; simp at this; omega
  have X1 := Lib.hid x1
  have Y1 := Lib.hid Y
  have H1 := Lib.hid h1'
  clear sp1 x1 k1 h1' Y
  go_wp2_with fail
  refine (ST.out b _ X1.out).mono ?_
  rintro _ w2 ⟨rfl, x2, sp2⟩
  have hb := H1.out
  have Y2 := Lib.hid (Y1.out.span sp2 (by omega))
  have S2 := Lib.hid (show Span 0 0 w w2 from ⟨sp2.os.trans S1.out.os, sp2.tape.trans S1.out.tape, sp2.output.trans S1.out.output, Nat.le_trans S1.out.size sp2.size, fun k hk _ => (sp2.block k (Nat.lt_of_lt_of_le hk S1.out.size) (by omega)).trans (S1.out.block k hk (by omega))⟩)
  have X2 := Lib.hid x2
  clear sp2 x2 hb
  go_wp2_with fail
  refine (hold1_module b _ _ _ _ _ X2.out).mono ?_
  rintro _ w3 ⟨rfl, sp3⟩
  have Y3 := Y2.out.keep sp3
  have S3 := Lib.hid (S2.out.trans sp3)
  have cy := Y3.cells
  have fy := Y3.thaw
  have YS := Lib.hid (Y3.set11 (.int .i64 8) (.complex .f32 0 0) (.complex .f32 p q) (.float .f32 0) (.slice none 0 0) (.int .i64 0) (.int .i64 0) (.slice none 0 0) (.slice none 0 0) (.int .i64 c) (.int .i64 (c - 1)))
  clear sp3 Y3
  go_wp2_with fail
  have d1 := YS.out.cells
  exact bodyPost_ret (v := .tuple #[.agg #[.int .i64 8, .complex .f32 0 0, .complex .f32 p q, .float .f32 0, .slice none 0 0, .int .i64 0, .int .i64 0, .slice none 0 0, .slice none 0 0, .int .i64 c, .int .i64 (c - 1)], .complex .f32 p q, .bool true]) (by simp [results, Try.results14, go_sem, d1]) rfl ⟨rfl, S3.out.set11 (by omega) _ _ _ _ _ _ _ _ _ _ _⟩
end
end Go.Proofs.Ytdmahikaajdkgaa
