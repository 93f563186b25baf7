/- Modules of the kind gain: unit, valid, module. Modules of the kind gain are stepped. -/
import Derived.Test.YtdmahikaajdkgaaJb31
import Derived.Test.YtdmahikaajdkgaaJb32
import Derived.Test.YtdmahikaajdkgaaJb33
import Derived.BigQuiet
import Derived.Outline
import Derived.Test.YtdmahikaajdkgaaJb12
import Derived.Test.YtdmahikaajdkgaaJb19
import Derived.StillTailTactics
namespace Go.Proofs.Ytdmahikaajdkgaa
section
open Go.RowKit

set_option maxRecDepth 100000 in
theorem unitOf_gain (l : Nat) (w : World) :
    Calls Try.prog 71 #[.agg #[.int .i64 3, .complex .f32 0 0, .complex .f32 0 0, .float .f32 l, .slice none 0 0, .int .i64 0, .int .i64 0, .slice none 0 0, .slice none 0 0, .int .i64 0, .int .i64 0]] w fun e w' => ∃ b, e = .returned (.iface 156 (.pointer (some ⟨b, 0, none⟩))) ∧ Bx b #[.float .f32 l] w' ∧ w.heap.size ≤ b ∧ Span 0 0 w w' := by
  go_enter Try.func71, Try.ntmps71
  go_wp2_with fail
  go_ret
  refine ⟨_, rfl, ?_, ?_, ((Span.refl _ _ _).alloc _).alloc _⟩
  · have := Bx.new (w.alloc (.cells #[.int .i64 3, .complex .f32 0 0, .complex .f32 0 0, .float .f32 l, .slice none 0 0, .int .i64 0, .int .i64 0, .slice none 0 0, .slice none 0 0, .int .i64 0, .int .i64 0] 35)) #[.float .f32 l] 158
    simpa using this
  · omega

theorem call_gain_isValid (v : Value) (w : World) : (method 340 156 v "loop.example/g03223/impl.isValid").run Try.prog w = .ok (166, v) w := by kernel_rfl
theorem call_gain_module (v : Value) (w : World) : (method 340 156 v "loop.example/g03223/impl.module").run Try.prog w = .ok (167, v) w := by kernel_rfl
theorem call_gain_step (v : Value) (w : World) : (method 340 156 v "loop.example/g03223/impl.step").run Try.prog w = .ok (168, v) w := by kernel_rfl

theorem gain_isValid (b : Nat) (l : Nat) (w : World) (hx : Bx b #[.float .f32 l] w) :
    Calls Try.prog 166 #[.pointer (some ⟨b, 0, none⟩)] w (SaysTrue w) := by
  have cx := hx.cells
  clear hx
  go_enter Try.func166, Try.ntmps166
  go_wp2_with fail
  go_ret
  exact ⟨0, rfl, rfl⟩

set_option maxRecDepth 100000 in
theorem gain_module (b : Nat) (l : Nat) (w : World) (hx : Bx b #[.float .f32 l] w) :
    Calls Try.prog 167 #[.pointer (some ⟨b, 0, none⟩)] w fun e w' => e = .returned (.agg #[.int .i64 3, .complex .f32 0 0, .complex .f32 0 0, .float .f32 l, .slice none 0 0, .int .i64 0, .int .i64 0, .slice none 0 0, .slice none 0 0, .int .i64 0, .int .i64 0]) ∧ Span 0 0 w w' := by
  have cx := hx.cells
  have ca := hx.cellsA
  clear hx
  go_enter Try.func167, Try.ntmps167
  go_wp2_with fail
  try go_region
  all_goals try go_wp2_with fail
  all_goals exact bodyPost_ret (v := .agg #[.int .i64 3, .complex .f32 0 0, .complex .f32 0 0, .float .f32 l, .slice none 0 0, .int .i64 0, .int .i64 0, .slice none 0 0, .slice none 0 0, .int .i64 0, .int .i64 0]) (by simp [results, Try.results167, go_sem]) rfl ⟨rfl, by first | exact (Span.refl _ _ _).alloc _ | exact ((Span.refl _ _ _).alloc _).drew⟩

theorem ReadM.gain (l : Nat) (w : World) : ReadM w (.agg #[.int .i64 3, .complex .f32 0 0, .complex .f32 0 0, .float .f32 l, .slice none 0 0, .int .i64 0, .int .i64 0, .slice none 0 0, .slice none 0 0, .int .i64 0, .int .i64 0]) ⟨3, (0, 0), (0, 0), l, ⟨[], 0, 0⟩, 0, 0⟩ ([], []) :=
  ⟨_, _, _, 0, 0, 0, rfl, HasS.empty _ _ _ _ _ _ _ _, HasS.empty _ _ _ _ _ _ _ _, HasS.empty _ _ _ _ _ _ _ _⟩

set_option maxRecDepth 100000 in
set_option maxHeartbeats 4000000 in
theorem isModule_gain (l : Nat) (w : World) : Calls Try.prog 70 #[.agg #[.int .i64 3, .complex .f32 0 0, .complex .f32 0 0, .float .f32 l, .slice none 0 0, .int .i64 0, .int .i64 0, .slice none 0 0, .slice none 0 0, .int .i64 0, .int .i64 0]] w (True0 w) := by
  have cm1 := call_gain_isValid
  have cm2 := call_gain_module
  have HI := Lib.hid (fun b w h => gain_isValid b l w h)
  skip
  go_enter Try.func70, Try.ntmps70
  go_wp2_with fail
  refine (unitOf_gain _ _).mono ?_
  rintro _ w1 ⟨b, rfl, x1, _, s1'⟩
  have B := (Bx.new w #[.int .i64 3, .complex .f32 0 0, .complex .f32 0 0, .float .f32 l, .slice none 0 0, .int .i64 0, .int .i64 0, .slice none 0 0, .slice none 0 0, .int .i64 0, .int .i64 0] 35).keep s1'
  have HS := Lib.hid (((Span.refl 0 0 w).alloc (.cells #[.int .i64 3, .complex .f32 0 0, .complex .f32 0 0, .float .f32 l, .slice none 0 0, .int .i64 0, .int .i64 0, .slice none 0 0, .slice none 0 0, .int .i64 0, .int .i64 0] 35)).trans s1')
  have X1 := Lib.hid x1
  have HB := Lib.hid B
  have c0 := B.cells
  clear s1' x1 B
  go_wp2_with fail
  go_region_with (first
    | (go_at_call 166; go_loud (refine (HI.out _ _ (X1.out.drewN _)).mono ?_; rintro _ _ ⟨m1, rfl, rfl⟩))
    | (go_at_call 167; go_loud (refine (gain_module _ _ _ (X1.out.drewN _)).mono ?_; rintro _ w2 ⟨rfl, s2'⟩; have c0 := ((HB.out.drewN _).keep s2').cells; have HS2 : Hid (Span 0 0 w w2) := (by first | exact HS.out.trans s2' | exact HS.out.trans s2'.undrawn' | exact HS.out.trans (Span.undrawn' (n := 1) s2')); clear s2'))
    | (go_at_call 96; go_loud (refine (sameModules_self _ ([], []) _ _ _ (ReadM.gain _ _) (ReadM.gain _ _) (by simp) (by simp) (by simp)).mono ?_; rintro _ w3 ⟨rfl, s3'⟩; have HS3 : Hid (Span 0 0 w w3) := (by first | exact HS2.out.trans s3' | exact HS2.out.trans s3'.undrawn' | exact HS2.out.trans (Span.undrawn' (n := 1) s3')); clear s3')))
  all_goals go_wp2_with fail
  all_goals go_ret
  all_goals exact ⟨rfl, HS3.out⟩

set_option maxRecDepth 100000 in
set_option maxHeartbeats 4000000 in
theorem validUnit_gain (l : Nat) (w : World) : Calls Try.prog 44 #[.agg #[.int .i64 3, .complex .f32 0 0, .complex .f32 0 0, .float .f32 l, .slice none 0 0, .int .i64 0, .int .i64 0, .slice none 0 0, .slice none 0 0, .int .i64 0, .int .i64 0]] w fun e w' => ∃ b, e = .returned (.iface 156 (.pointer (some ⟨b, 0, none⟩))) ∧ Bx b #[.float .f32 l] w' ∧ w.heap.size ≤ b ∧ Span 0 0 w w' := by
  have HI := Lib.hid (fun w => isModule_gain l w)
  skip
  go_enter Try.func44, Try.ntmps44
  go_wp2_with fail
  refine (HI.out _).mono ?_
  rintro _ w1 ⟨rfl, s1'⟩
  have B := (Bx.new w #[.int .i64 3, .complex .f32 0 0, .complex .f32 0 0, .float .f32 l, .slice none 0 0, .int .i64 0, .int .i64 0, .slice none 0 0, .slice none 0 0, .int .i64 0, .int .i64 0] 35).keep s1'
  have S1 := Lib.hid (((Span.refl 0 0 w).alloc (.cells #[.int .i64 3, .complex .f32 0 0, .complex .f32 0 0, .float .f32 l, .slice none 0 0, .int .i64 0, .int .i64 0, .slice none 0 0, .slice none 0 0, .int .i64 0, .int .i64 0] 35)).trans s1')
  have c1 := B.cells
  clear s1' B
  go_wp2_with fail
  refine (copyModule_nil _ _ _ _ _ _ _ _ _).mono ?_
  rintro _ w2 ⟨rfl, s2'⟩
  have S2 := Lib.hid (S1.out.trans s2')
  clear s2'
  go_wp2_with fail
  refine (unitOf_gain _ _).mono ?_
  rintro _ w3 ⟨b, rfl, x3, h3, s3'⟩
  have X3 := Lib.hid x3
  have S3 := Lib.hid (S2.out.trans s3')
  have H3 := Lib.hid h3
  have z2 := S2.out.size
  have H4 := Lib.hid (show w.heap.size ≤ b by omega)
  clear x3 s3' h3 z2
  go_wp2_with fail
  go_ret
  exact ⟨b, rfl, X3.out, H4.out, S3.out⟩
end
section
open Go.RowKit

theorem floatBits_lt {op : BinOp} {x y r : Nat} (h : floatBits op .f32 x y = some r) : r < 4294967296 := f32_lt (floatBits_wf h)
theorem flush_num (x : Nat) (hx : x < 4294967296) (hn : nanB .f32 (flushB x) = false) (w : World) : Calls Try.prog 169 #[.float .f32 x] w fun e w1 => e = .returned (.float .f32 (flushB x)) ∧ ∃ n, w1 = w.drewN n :=
  (impl_flushSmall x hx w).mono fun _ _ ⟨r, n, h1, h2, h3⟩ => by
    rcases h3 with rfl | ⟨_, h4⟩
    · exact ⟨h1, n, h2⟩
    · rw [hn] at h4; cases h4

set_option maxRecDepth 100000 in
set_option maxHeartbeats 1000000 in
theorem gain_step (b : Nat) (l p q x y : Nat) (hx : floatBits .mul .f32 p l = some x) (hy : floatBits .mul .f32 q l = some y) (nx : nanB .f32 (flushB x) = false) (ny : nanB .f32 (flushB y) = false) (w : World) (hb : Bx b #[.float .f32 l] w) :
    Calls Try.prog 168 #[.pointer (some ⟨b, 0, none⟩), .complex .f32 p q] w fun e w' => e = .returned (.complex .f32 (flushB x) (flushB y)) ∧ Bx b #[.float .f32 l] w' ∧ Span b (b + 1) w w' := by
  have FX := Lib.hid (fun w => flush_num x (floatBits_lt hx) nx w)
  have FY := Lib.hid (fun w => flush_num y (floatBits_lt hy) ny w)
  obtain ⟨a1, d1⟩ := ar_of hx
  obtain ⟨a2, d2⟩ := ar_of hy
  have cx := hb.cells
  have HX := Lib.hid hb
  obtain ⟨u, hu⟩ : ∃ u, u = flushB x := ⟨_, rfl⟩
  obtain ⟨v, hv⟩ : ∃ v, v = flushB y := ⟨_, rfl⟩
  rw [← hu] at FX ⊢
  rw [← hv] at FY ⊢
  clear hb hx hy nx ny hu hv
  go_enter Try.func168, Try.ntmps168
  go_wp2_with fail
  refine wp_region_quiet_lit (by kernel_rfl) (by kernel_rfl) ?_
  quiet_step (fail)
  quiet_step (fail)
  quiet_step (fail)
  quiet_step (fail)
  quiet_step (fail)
  quiet_step (fail)
  quiet_step (fail)
  quiet_step (first | (go_at_call 169; refine Calls.quiet_of (FX.out _)))
  quiet_step (fail)
  quiet_step (fail)
  quiet_step (fail)
  quiet_step (fail)
  quiet_step (fail)
  quiet_step (fail)
  quiet_step (fail)
  quiet_step (first | (go_at_call 169; refine Calls.quiet_of (FY.out _)))
  quiet_step (fail)
  quiet_step (fail)
  refine wpQuiet_nil ?_
  intro _ hw'
  obtain ⟨nq, hw''⟩ := hw'
  subst hw''
  go_wp2_with fail
  go_ret
  exact ⟨rfl, HX.out.drewN _, (Span.refl _ _ _).drewN _⟩

set_option maxRecDepth 100000 in
set_option maxHeartbeats 4000000 in
theorem stepModule_gain (l p q x y : Nat) (hx : floatBits .mul .f32 p l = some x) (hy : floatBits .mul .f32 q l = some y) (nx : nanB .f32 (flushB x) = false) (ny : nanB .f32 (flushB y) = false) (w : World) :
    Calls Try.prog 14 #[.agg #[.int .i64 3, .complex .f32 0 0, .complex .f32 0 0, .float .f32 l, .slice none 0 0, .int .i64 0, .int .i64 0, .slice none 0 0, .slice none 0 0, .int .i64 0, .int .i64 0], .complex .f32 p q] w fun e w' => e = .returned (.tuple #[.agg #[.int .i64 3, .complex .f32 0 0, .complex .f32 0 0, .float .f32 l, .slice none 0 0, .int .i64 0, .int .i64 0, .slice none 0 0, .slice none 0 0, .int .i64 0, .int .i64 0], .complex .f32 (flushB x) (flushB y), .bool true]) ∧ Span 0 0 w w' := by
  have cm1 := call_gain_step
  have cm2 := call_gain_module
  have VU := Lib.hid (fun w => validUnit_gain l w)
  have ST := Lib.hid (fun b w h => gain_step b l p q x y hx hy nx ny w h)
  clear hx hy nx ny
  go_enter Try.func14, Try.ntmps14
  go_wp2_with fail
  refine (VU.out _).mono ?_
  rintro _ w1 ⟨b, rfl, x1, k1, sp1⟩
  have Y := (Bx.new (w.alloc (.cells #[.int .i64 3, .complex .f32 0 0, .complex .f32 0 0, .float .f32 l, .slice none 0 0, .int .i64 0, .int .i64 0, .slice none 0 0, .slice none 0 0, .int .i64 0, .int .i64 0] 35)) #[.int .i64 0, .complex .f32 0 0, .complex .f32 0 0, .float .f32 0, .slice none 0 0, .int .i64 0, .int .i64 0, .slice none 0 0, .slice none 0 0, .int .i64 0, .int .i64 0] 35).keep sp1
  rw [show (w.alloc (.cells #[.int .i64 3, .complex .f32 0 0, .complex .f32 0 0, .float .f32 l, .slice none 0 0, .int .i64 0, .int .i64 0, .slice none 0 0, .slice none 0 0, .int .i64 0, .int .i64 0] 35)).heap.size = w.heap.size + 1 by simp] at Y
  have S1 := Lib.hid ((((Span.refl 0 0 w).alloc (.cells #[.int .i64 3, .complex .f32 0 0, .complex .f32 0 0, .float .f32 l, .slice none 0 0, .int .i64 0, .int .i64 0, .slice none 0 0, .slice none 0 0, .int .i64 0, .int .i64 0] 35)).alloc (.cells #[.int .i64 0, .complex .f32 0 0, .complex .f32 0 0, .float .f32 0, .slice none 0 0, .int .i64 0, .int .i64 0, .slice none 0 0, .slice none 0 0, .int .i64 0, .int .i64 0] 35)).trans sp1)
  have h1' : w.heap.size + 2 ≤ b := by have := k1; simp at this; omega
  have X1 := Lib.hid x1
  have Y1 := Lib.hid Y
  have H1 := Lib.hid h1'
  clear sp1 x1 k1 h1' Y
  go_wp2_with fail
  refine (ST.out b _ X1.out).mono ?_
  rintro _ w2 ⟨rfl, x2, sp2⟩
  skip
  have hb := H1.out
  have Y2 := Lib.hid (Y1.out.span sp2 (by omega))
  have S2 := Lib.hid (show Span 0 0 w w2 from ⟨sp2.os.trans S1.out.os, sp2.tape.trans S1.out.tape, sp2.output.trans S1.out.output, Nat.le_trans S1.out.size sp2.size, fun k hk _ => (sp2.block k (Nat.lt_of_lt_of_le hk S1.out.size) (by omega)).trans (S1.out.block k hk (by omega))⟩)
  have X2 := Lib.hid x2
  clear sp2 x2 hb
  go_wp2_with fail
  refine (gain_module b _ _ X2.out).mono ?_
  rintro _ w3 ⟨rfl, sp3⟩
  have Y3 := Y2.out.keep sp3
  have S3 := Lib.hid (S2.out.trans sp3)
  have cy := Y3.cells
  have fy := Y3.thaw
  have YS := Lib.hid (Y3.set11 (.int .i64 3) (.complex .f32 0 0) (.complex .f32 0 0) (.float .f32 l) (.slice none 0 0) (.int .i64 0) (.int .i64 0) (.slice none 0 0) (.slice none 0 0) (.int .i64 0) (.int .i64 0))
  clear sp3 Y3
  go_wp2_with fail
  have d1 := YS.out.cells
  exact bodyPost_ret (v := .tuple #[.agg #[.int .i64 3, .complex .f32 0 0, .complex .f32 0 0, .float .f32 l, .slice none 0 0, .int .i64 0, .int .i64 0, .slice none 0 0, .slice none 0 0, .int .i64 0, .int .i64 0], .complex .f32 (flushB x) (flushB y), .bool true]) (by simp [results, Try.results14, go_sem, d1]) rfl ⟨rfl, S3.out.set11 (by omega) _ _ _ _ _ _ _ _ _ _ _⟩
end
end Go.Proofs.Ytdmahikaajdkgaa
