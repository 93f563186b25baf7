/- Modules of the kind sum: unit, valid, module. Modules of the kind sum are stepped. A source's step. Sources and sums as units of a circuit. -/
import Derived.Test.YtpiiflhdllpoiaaJq31
import Derived.Test.YtpiiflhdllpoiaaJq32
import Derived.Test.YtpiiflhdllpoiaaJq33
import Derived.BigQuiet
import Derived.Outline
import Derived.Test.YtpiiflhdllpoiaaJq4
import Derived.Test.YtpiiflhdllpoiaaJq15
import Derived.Deep.RegionWith
import Derived.Test.YtpiiflhdllpoiaaJq30
namespace Go.Proofs.Ytpiiflhdllpoiaa
section
open Go.RowKit

set_option maxRecDepth 100000 in
theorem unitOf_sum (w : World) :
    Calls Try.prog 32 #[.agg #[.int .i64 5, .complex .f32 0 0, .complex .f32 0 0, .float .f32 0, .slice none 0 0, .int .i64 0, .int .i64 0, .slice none 0 0, .slice none 0 0, .int .i64 0, .int .i64 0]] w fun e w' => ∃ b, e = .returned (.iface 109 (.pointer (some ⟨b, 0, none⟩))) ∧ Bx b #[] w' ∧ w.heap.size ≤ b ∧ Span 0 0 w w' := by
  go_enter Try.func32, Try.ntmps32
  go_wp2_with fail
  go_ret
  refine ⟨_, rfl, ?_, ?_, ((Span.refl _ _ _).alloc _).alloc _⟩
  · have := Bx.new (w.alloc (.cells #[.int .i64 5, .complex .f32 0 0, .complex .f32 0 0, .float .f32 0, .slice none 0 0, .int .i64 0, .int .i64 0, .slice none 0 0, .slice none 0 0, .int .i64 0, .int .i64 0] 33)) #[] 111
    simpa using this
  · omega

theorem call_sum_isValid (v : Value) (w : World) : (method 282 109 v "loop.example/g03223/impl.isValid").run Try.prog w = .ok (98, v) w := by kernel_rfl
theorem call_sum_module (v : Value) (w : World) : (method 282 109 v "loop.example/g03223/impl.module").run Try.prog w = .ok (99, v) w := by kernel_rfl
theorem call_sum_step (v : Value) (w : World) : (method 282 109 v "loop.example/g03223/impl.step").run Try.prog w = .ok (100, v) w := by kernel_rfl

theorem sum_isValid (b : Nat) (w : World) (hx : Bx b #[] w) :
    Calls Try.prog 98 #[.pointer (some ⟨b, 0, none⟩)] w (SaysTrue w) := by
  have cx := hx.cells
  clear hx
  go_enter Try.func98, Try.ntmps98
  go_wp2_with fail
  go_ret
  exact ⟨0, rfl, rfl⟩

set_option maxRecDepth 100000 in
theorem sum_module (b : Nat) (w : World) (hx : Bx b #[] w) :
    Calls Try.prog 99 #[.pointer (some ⟨b, 0, none⟩)] w fun e w' => e = .returned (.agg #[.int .i64 5, .complex .f32 0 0, .complex .f32 0 0, .float .f32 0, .slice none 0 0, .int .i64 0, .int .i64 0, .slice none 0 0, .slice none 0 0, .int .i64 0, .int .i64 0]) ∧ Span 0 0 w w' := by
  have cx := hx.cells
  have ca := hx.cellsA
  clear hx
  go_enter Try.func99, Try.ntmps99
  go_wp2_with fail
  try go_region
  all_goals try go_wp2_with fail
  all_goals exact bodyPost_ret (v := .agg #[.int .i64 5, .complex .f32 0 0, .complex .f32 0 0, .float .f32 0, .slice none 0 0, .int .i64 0, .int .i64 0, .slice none 0 0, .slice none 0 0, .int .i64 0, .int .i64 0]) (by simp [results, Try.results99, go_sem]) rfl ⟨rfl, by first | exact (Span.refl _ _ _).alloc _ | exact ((Span.refl _ _ _).alloc _).drew⟩

theorem ReadM.sum (w : World) : ReadM w (.agg #[.int .i64 5, .complex .f32 0 0, .complex .f32 0 0, .float .f32 0, .slice none 0 0, .int .i64 0, .int .i64 0, .slice none 0 0, .slice none 0 0, .int .i64 0, .int .i64 0]) ⟨5, (0, 0), (0, 0), 0, ⟨[], 0, 0⟩, 0, 0⟩ ([], []) :=
  ⟨_, _, _, 0, 0, 0, rfl, HasS.empty _ _ _ _ _ _ _ _, HasS.empty _ _ _ _ _ _ _ _, HasS.empty _ _ _ _ _ _ _ _⟩

set_option maxRecDepth 100000 in
set_option maxHeartbeats 4000000 in
theorem isModule_sum (w : World) : Calls Try.prog 44 #[.agg #[.int .i64 5, .complex .f32 0 0, .complex .f32 0 0, .float .f32 0, .slice none 0 0, .int .i64 0, .int .i64 0, .slice none 0 0, .slice none 0 0, .int .i64 0, .int .i64 0]] w (True0 w) := by
  have cm1 := call_sum_isValid
  have cm2 := call_sum_module
  have HI := Lib.hid (fun b w h => sum_isValid b  w h)
  skip
  go_enter Try.func44, Try.ntmps44
  go_wp2_with fail
  refine (unitOf_sum _).mono ?_
  rintro _ w1 ⟨b, rfl, x1, _, s1'⟩
  have B := (Bx.new w #[.int .i64 5, .complex .f32 0 0, .complex .f32 0 0, .float .f32 0, .slice none 0 0, .int .i64 0, .int .i64 0, .slice none 0 0, .slice none 0 0, .int .i64 0, .int .i64 0] 33).keep s1'
  have HS := Lib.hid (((Span.refl 0 0 w).alloc (.cells #[.int .i64 5, .complex .f32 0 0, .complex .f32 0 0, .float .f32 0, .slice none 0 0, .int .i64 0, .int .i64 0, .slice none 0 0, .slice none 0 0, .int .i64 0, .int .i64 0] 33)).trans s1')
  have X1 := Lib.hid x1
  have HB := Lib.hid B
  have c0 := B.cells
  clear s1' x1 B
  go_wp2_with fail
  go_region_with (first
    | (go_at_call 98; go_loud (refine (HI.out _ _ (X1.out.drewN _)).mono ?_; rintro _ _ ⟨m1, rfl, rfl⟩))
    | (go_at_call 99; go_loud (refine (sum_module _ _ (X1.out.drewN _)).mono ?_; rintro _ w2 ⟨rfl, s2'⟩; have c0 := ((HB.out.drewN _).keep s2').cells; have HS2 : Hid (Span 0 0 w w2) := (by first | exact HS.out.trans s2' | exact HS.out.trans s2'.undrawn' | exact HS.out.trans (Span.undrawn' (n := 1) s2')); clear s2'))
    | (go_at_call 49; go_loud (refine (sameModules_self _ ([], []) _ _ _ (ReadM.sum _) (ReadM.sum _) (by simp) (by simp) (by simp)).mono ?_; rintro _ w3 ⟨rfl, s3'⟩; have HS3 : Hid (Span 0 0 w w3) := (by first | exact HS2.out.trans s3' | exact HS2.out.trans s3'.undrawn' | exact HS2.out.trans (Span.undrawn' (n := 1) s3')); clear s3')))
  all_goals go_wp2_with fail
  all_goals go_ret
  all_goals exact ⟨rfl, HS3.out⟩
end
section
open Go.RowKit

theorem sum_step (b p q : Nat) (w : World) (hx : Bx b #[] w) :
    Calls Try.prog 100 #[.pointer (some ⟨b, 0, none⟩), .complex .f32 p q] w fun e w' => e = .returned (.complex .f32 p q) ∧ Bx b #[] w' ∧ Span b (b + 1) w w' := by
  have HX := Lib.hid hx
  clear hx
  go_enter Try.func100, Try.ntmps100
  go_wp2_with fail
  go_ret
  exact ⟨rfl, HX.out, Span.refl _ _ _⟩
end
section
open Go.RowKit

set_option maxRecDepth 100000 in
set_option maxHeartbeats 4000000 in
theorem source_stepK (g : Nat) (t s s' : Cx) (hm : mulS s t = some s') (z1 z2 : Nat) (w : World) (hx : Bx g #[.complex .f32 t.1 t.2, .complex .f32 s.1 s.2] w) :
    Calls Try.prog 76 #[.pointer (some ⟨g, 0, none⟩), .complex .f32 z1 z2] w fun e w' => e = .returned (.complex .f32 s.1 s.2) ∧ Bx g #[.complex .f32 t.1 t.2, .complex .f32 s'.1 s'.2] w' ∧ Span g (g + 1) w w' := by
  obtain ⟨t1, t2⟩ := t
  obtain ⟨s1, s2⟩ := s
  obtain ⟨r1, r2⟩ := s'
  have MU := Lib.hid (impl_multiply_some (s1, s2) (t1, t2) (r1, r2) hm)
  have HX := Lib.hid hx
  have cx := hx.cells
  have fx := hx.thaw
  clear hx hm
  simp only at MU cx fx
  go_enter Try.func76, Try.ntmps76
  go_wp2_with fail
  go_region_with (go_at_call 77; refine (MU.out _).mono ?_; rintro _ _ ⟨rfl, rfl⟩)
  all_goals
    go_wp2_with fail
    go_ret
    have h := HX.out.set 1 (.complex .f32 r1 r2) (by simp)
    have h2 : Bx g #[.complex .f32 t1 t2, .complex .f32 r1 r2] (w.setCell ⟨g, 1, none⟩ (.complex .f32 r1 r2)) := by simpa using h
    exact ⟨rfl, h2, ((Span.refl g (g + 1) w).setCell (p := ⟨g, 1, none⟩) (.inl ⟨Nat.le_refl _, Nat.lt_succ_self _⟩) _).drew⟩
end
section
open Go.RowKit

theorem newSumK_is (w : World) : Calls Try.prog 13 #[] w fun e w' => e = .returned (.agg #[.int .i64 5, .complex .f32 0 0, .complex .f32 0 0, .float .f32 0, .slice none 0 0, .int .i64 0, .int .i64 0, .slice none 0 0, .slice none 0 0, .int .i64 0, .int .i64 0]) ∧ Span 0 0 w w' := by
  go_enter Try.func13, Try.ntmps13
  go_wp2_with fail
  exact bodyPost_ret (v := .agg #[.int .i64 5, .complex .f32 0 0, .complex .f32 0 0, .float .f32 0, .slice none 0 0, .int .i64 0, .int .i64 0, .slice none 0 0, .slice none 0 0, .int .i64 0, .int .i64 0]) (by simp [results, Try.results13, go_sem]) rfl ⟨rfl, (Span.refl _ _ _).alloc _⟩
theorem newSourceK_is (t1 t2 s1 s2 : Nat) (w : World) : Calls Try.prog 8 #[.complex .f32 t1 t2, .complex .f32 s1 s2] w fun e w' => e = .returned (.agg #[.int .i64 1, .complex .f32 t1 t2, .complex .f32 s1 s2, .float .f32 0, .slice none 0 0, .int .i64 0, .int .i64 0, .slice none 0 0, .slice none 0 0, .int .i64 0, .int .i64 0]) ∧ Span 0 0 w w' := by
  go_enter Try.func8, Try.ntmps8
  go_wp2_with fail
  exact bodyPost_ret (v := .agg #[.int .i64 1, .complex .f32 t1 t2, .complex .f32 s1 s2, .float .f32 0, .slice none 0 0, .int .i64 0, .int .i64 0, .slice none 0 0, .slice none 0 0, .int .i64 0, .int .i64 0]) (by simp [results, Try.results8, go_sem]) rfl ⟨rfl, (Span.refl _ _ _).alloc _⟩

def mSource (t s : Cx) : Mw := ⟨1, t.1, t.2, s.1, s.2, 0, none, 0, 0, 0, 0, none, 0, 0, none, 0, 0, 0, 0⟩
def mSum : Mw := ⟨5, 0, 0, 0, 0, 0, none, 0, 0, 0, 0, none, 0, 0, none, 0, 0, 0, 0⟩
theorem okM_source (t s : Cx) (w : World) : OkM w (mSource t s) := fun w' _ => isModule_source t.1 t.2 s.1 s.2 w'
theorem okM_sum (w : World) : OkM w mSum := fun w' _ => isModule_sum w'

def uSource (t s : Cx) : Un := .box #[.complex .f32 t.1 t.2, .complex .f32 s.1 s.2]
def uSum : Un := .box #[]
theorem modU_source (t s : Cx) (X : List Nat) (g : Nat) (f : List Nat) : ModU X (.source, g) f (uSource t s) (fun m => m = mSource t s) := fun w h => by
  obtain ⟨_, _, hb⟩ := h
  exact (source_module g t.1 t.2 s.1 s.2 w hb).mono fun e w' ⟨h1, h2⟩ => ⟨mSource t s, h1, rfl, h2⟩
theorem modU_sum (X : List Nat) (g : Nat) (f : List Nat) : ModU X (.sum, g) f uSum (fun m => m = mSum) := fun w h => by
  obtain ⟨_, _, hb⟩ := h
  exact (sum_module g w hb).mono fun e w' ⟨h1, h2⟩ => ⟨mSum, h1, rfl, h2⟩
theorem stepU_sum (z : Cx) : StepsU .sum uSum z uSum z := fun X g f w _ h => by
  obtain ⟨h1, rfl, hb⟩ := h
  refine (sum_step g z.1 z.2 w hb).mono fun e w' ⟨h2, h3, h4⟩ => ⟨h2, ⟨h1, rfl, h3⟩, Keeps.of h4 (fun k g1 g2 => List.mem_singleton.2 (by omega))⟩

theorem stepU_source (t s s' z : Cx) (hm : mulS s t = some s') : StepsU .source (uSource t s) z (uSource t s') s := fun X g f w _ h => by
  obtain ⟨h1, rfl, hb⟩ := h
  refine (source_stepK g t s s' hm z.1 z.2 w hb).mono fun e w' ⟨h2, h3, h4⟩ => ⟨h2, ⟨h1, rfl, h3⟩, Keeps.of h4 (fun k g1 g2 => List.mem_singleton.2 (by omega))⟩
end
end Go.Proofs.Ytpiiflhdllpoiaa
