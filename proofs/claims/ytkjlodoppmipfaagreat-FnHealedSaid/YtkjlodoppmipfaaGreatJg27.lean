/- Copies of modules without a ring and a table. Modules of the kind source: unit, valid, module. Modules of the kind sum: unit, valid, module. Modules of the kind sum are stepped. A source's step. Sources and sums as units of a circuit. -/
import Derived.Test.YtkjlodoppmipfaaGreatJg3
import Derived.Test.YtkjlodoppmipfaaGreatJg11
import Derived.Deep.RegionWith
import Derived.StillTailTactics
import Derived.Outline
import Derived.Test.YtkjlodoppmipfaaGreatJg25
import Derived.Test.YtkjlodoppmipfaaGreatJg26
import Derived.BigQuiet
import Derived.Test.YtkjlodoppmipfaaGreatJg13
import Derived.Test.YtkjlodoppmipfaaGreatJg23
namespace Go.Proofs.YtkjlodoppmipfaaGreat
section
open Go.RowKit

set_option maxRecDepth 100000 in
theorem cloneC_nil (w : World) : Calls Tryz.prog 23 #[.slice none 0 0] w fun e w' => e = .returned (.slice none 0 0) ∧ w = w' := by
  have hq := Lib.run_eql_slice_nil (P := Tryz.prog) w 25 23 none 0 0 0 0 Tryz.underlying25
  go_enter Tryz.func23, Tryz.ntmps23
  go_wp2
  go_ret
  exact ⟨rfl, rfl⟩
set_option maxRecDepth 100000 in
theorem cloneI_nil (w : World) : Calls Tryz.prog 122 #[.slice none 0 0] w fun e w' => e = .returned (.slice none 0 0) ∧ w = w' := by
  have hq := Lib.run_eql_slice_nil (P := Tryz.prog) w 28 3 none 0 0 0 0 Tryz.underlying28
  go_enter Tryz.func122, Tryz.ntmps122
  go_wp2
  go_ret
  exact ⟨rfl, rfl⟩

set_option maxRecDepth 100000 in
set_option maxHeartbeats 4000000 in
theorem copyRing_nil (w : World) : Calls Tryz.prog 109 #[.agg #[.slice none 0 0, .int .i64 0, .int .i64 0]] w fun e w' => e = .returned (.agg #[.slice none 0 0, .int .i64 0, .int .i64 0]) ∧ Span 0 0 w w' := by
  go_enter Tryz.func109, Tryz.ntmps109
  go_wp2_with fail
  have X := Lib.hid ((Bx.new w #[.slice none 0 0, .int .i64 0, .int .i64 0] 27).alloc (.cells #[.slice none 0 0, .int .i64 0, .int .i64 0] 27))
  have Y := Lib.hid (Bx.new (w.alloc (.cells #[.slice none 0 0, .int .i64 0, .int .i64 0] 27)) #[.slice none 0 0, .int .i64 0, .int .i64 0] 27)
  rw [show (w.alloc (.cells #[.slice none 0 0, .int .i64 0, .int .i64 0] 27)).heap.size = w.heap.size + 1 by simp] at Y
  have HS := Lib.hid (((Span.refl 0 0 w).alloc (.cells #[.slice none 0 0, .int .i64 0, .int .i64 0] 27)).alloc (.cells #[.slice none 0 0, .int .i64 0, .int .i64 0] 27))
  generalize (w.alloc (.cells #[.slice none 0 0, .int .i64 0, .int .i64 0] 27)).alloc (.cells #[.slice none 0 0, .int .i64 0, .int .i64 0] 27) = w0 at *
  have c0 := X.out.cells
  have d0 := Y.out.cells
  have e0 := Y.out.thaw
  have YS := Lib.hid (Y.out.set3 (.slice none 0 0) (.int .i64 0) (.int .i64 0))
  go_still_tail 8, (by kernel_rfl)
  still_call ((cloneC_nil _).mono (fun _ _ h => ⟨h.1, h.2.symm⟩))
  repeat still_step
  refine wpStill_nil ?_
  go_wp2_with fail
  have d1 := YS.out.cells
  exact bodyPost_ret (v := .agg #[.slice none 0 0, .int .i64 0, .int .i64 0]) (by simp [results, Tryz.results109, go_sem, d1]) rfl ⟨rfl, by first | exact ((HS.out.drew).set3 (by omega) _ _ _) | exact ((HS.out.drewN _).set3 (by omega) _ _ _)⟩

set_option maxRecDepth 100000 in
set_option maxHeartbeats 4000000 in
theorem copyTable_nil (w : World) : Calls Tryz.prog 110 #[.agg #[.slice none 0 0, .slice none 0 0]] w fun e w' => e = .returned (.agg #[.slice none 0 0, .slice none 0 0]) ∧ Span 0 0 w w' := by
  go_enter Tryz.func110, Tryz.ntmps110
  go_wp2_with fail
  have X := Lib.hid ((Bx.new w #[.slice none 0 0, .slice none 0 0] 30).alloc (.cells #[.slice none 0 0, .slice none 0 0] 30))
  have Y := Lib.hid (Bx.new (w.alloc (.cells #[.slice none 0 0, .slice none 0 0] 30)) #[.slice none 0 0, .slice none 0 0] 30)
  rw [show (w.alloc (.cells #[.slice none 0 0, .slice none 0 0] 30)).heap.size = w.heap.size + 1 by simp] at Y
  have HS := Lib.hid (((Span.refl 0 0 w).alloc (.cells #[.slice none 0 0, .slice none 0 0] 30)).alloc (.cells #[.slice none 0 0, .slice none 0 0] 30))
  generalize (w.alloc (.cells #[.slice none 0 0, .slice none 0 0] 30)).alloc (.cells #[.slice none 0 0, .slice none 0 0] 30) = w0 at *
  have c0 := X.out.cells
  have d0 := Y.out.cells
  have e0 := Y.out.thaw
  have YS := Lib.hid (Y.out.set2 (.slice none 0 0) (.slice none 0 0))
  go_still_tail 7, (by kernel_rfl)
  still_call ((cloneC_nil _).mono (fun _ _ h => ⟨h.1, h.2.symm⟩))
  repeat still_step
  still_call ((cloneI_nil _).mono (fun _ _ h => ⟨h.1, h.2.symm⟩))
  repeat still_step
  refine wpStill_nil ?_
  go_wp2_with fail
  have d1 := YS.out.cells
  exact bodyPost_ret (v := .agg #[.slice none 0 0, .slice none 0 0]) (by simp [results, Tryz.results110, go_sem, d1]) rfl ⟨rfl, by first | exact ((HS.out.drew).set2 (by omega) _ _) | exact ((HS.out.drewN _).set2 (by omega) _ _)⟩

set_option maxRecDepth 100000 in
set_option maxHeartbeats 4000000 in
theorem copyModule_nil (k : Int) (t1 t2 s1 s2 l : Nat) (c f : Int) (w : World) : Calls Tryz.prog 80 #[.agg #[.int .i64 k, .complex .f32 t1 t2, .complex .f32 s1 s2, .float .f32 l, .slice none 0 0, .int .i64 0, .int .i64 0, .slice none 0 0, .slice none 0 0, .int .i64 c, .int .i64 f]] w fun e w' => e = .returned (.agg #[.int .i64 k, .complex .f32 t1 t2, .complex .f32 s1 s2, .float .f32 l, .slice none 0 0, .int .i64 0, .int .i64 0, .slice none 0 0, .slice none 0 0, .int .i64 c, .int .i64 f]) ∧ Span 0 0 w w' := by
  go_enter Tryz.func80, Tryz.ntmps80
  go_wp2_with fail
  have X := Lib.hid ((Bx.new w #[.int .i64 k, .complex .f32 t1 t2, .complex .f32 s1 s2, .float .f32 l, .slice none 0 0, .int .i64 0, .int .i64 0, .slice none 0 0, .slice none 0 0, .int .i64 c, .int .i64 f] 32).alloc (.cells #[.int .i64 0, .complex .f32 0 0, .complex .f32 0 0, .float .f32 0, .slice none 0 0, .int .i64 0, .int .i64 0, .slice none 0 0, .slice none 0 0, .int .i64 0, .int .i64 0] 32))
  have Y := Lib.hid (Bx.new (w.alloc (.cells #[.int .i64 k, .complex .f32 t1 t2, .complex .f32 s1 s2, .float .f32 l, .slice none 0 0, .int .i64 0, .int .i64 0, .slice none 0 0, .slice none 0 0, .int .i64 c, .int .i64 f] 32)) #[.int .i64 0, .complex .f32 0 0, .complex .f32 0 0, .float .f32 0, .slice none 0 0, .int .i64 0, .int .i64 0, .slice none 0 0, .slice none 0 0, .int .i64 0, .int .i64 0] 32)
  rw [show (w.alloc (.cells #[.int .i64 k, .complex .f32 t1 t2, .complex .f32 s1 s2, .float .f32 l, .slice none 0 0, .int .i64 0, .int .i64 0, .slice none 0 0, .slice none 0 0, .int .i64 c, .int .i64 f] 32)).heap.size = w.heap.size + 1 by simp] at Y
  have HS := Lib.hid (((Span.refl 0 0 w).alloc (.cells #[.int .i64 k, .complex .f32 t1 t2, .complex .f32 s1 s2, .float .f32 l, .slice none 0 0, .int .i64 0, .int .i64 0, .slice none 0 0, .slice none 0 0, .int .i64 c, .int .i64 f] 32)).alloc (.cells #[.int .i64 0, .complex .f32 0 0, .complex .f32 0 0, .float .f32 0, .slice none 0 0, .int .i64 0, .int .i64 0, .slice none 0 0, .slice none 0 0, .int .i64 0, .int .i64 0] 32))
  generalize (w.alloc (.cells #[.int .i64 k, .complex .f32 t1 t2, .complex .f32 s1 s2, .float .f32 l, .slice none 0 0, .int .i64 0, .int .i64 0, .slice none 0 0, .slice none 0 0, .int .i64 c, .int .i64 f] 32)).alloc (.cells #[.int .i64 0, .complex .f32 0 0, .complex .f32 0 0, .float .f32 0, .slice none 0 0, .int .i64 0, .int .i64 0, .slice none 0 0, .slice none 0 0, .int .i64 0, .int .i64 0] 32) = w0 at *
  have c0 := X.out.cells
  go_region_with (first
    | (go_at_call 109; go_loud ((refine (copyRing_nil _).mono ?_; rintro _ w1 ⟨rfl, s1'⟩; have X1 := Lib.hid ((X.out.drewN 1).keep s1'); have Y1 := Lib.hid ((Y.out.drewN 1).keep s1'); have HS1 := Lib.hid (HS.out.trans (Span.undrawn' (n := 1) s1')); have c1 := X1.out.cells; clear s1')))
    | (go_at_call 110; go_loud ((refine (copyTable_nil _).mono ?_; rintro _ w2 ⟨rfl, s2'⟩; have X2 := Lib.hid (X1.out.keep s2'); have Y2 := Lib.hid (Y1.out.keep s2'); have HS2 := Lib.hid (HS1.out.trans s2'); have c2 := X2.out.cells; have g2 := X2.out.thaw; clear s2'))))
  all_goals
    have X3 := (((((X2.out.set 4 (.slice none 0 0) (by simp)).set 5 (.int .i64 0) (by simp)).set 6 (.int .i64 0) (by simp)).set 7 (.slice none 0 0) (by simp)).set 8 (.slice none 0 0) (by simp))
    have X3 : Bx w.heap.size #[.int .i64 k, .complex .f32 t1 t2, .complex .f32 s1 s2, .float .f32 l, .slice none 0 0, .int .i64 0, .int .i64 0, .slice none 0 0, .slice none 0 0, .int .i64 c, .int .i64 f] (((((w2.setCell ⟨w.heap.size, 4, none⟩ (.slice none 0 0)).setCell ⟨w.heap.size, 5, none⟩ (.int .i64 0)).setCell ⟨w.heap.size, 6, none⟩ (.int .i64 0)).setCell ⟨w.heap.size, 7, none⟩ (.slice none 0 0)).setCell ⟨w.heap.size, 8, none⟩ (.slice none 0 0)) := by simpa using X3
    have Y3 := (((((Y2.out.other (a := ⟨w.heap.size, 4, none⟩) (by simp) (.slice none 0 0)).other (a := ⟨w.heap.size, 5, none⟩) (by simp) (.int .i64 0)).other (a := ⟨w.heap.size, 6, none⟩) (by simp) (.int .i64 0)).other (a := ⟨w.heap.size, 7, none⟩) (by simp) (.slice none 0 0)).other (a := ⟨w.heap.size, 8, none⟩) (by simp) (.slice none 0 0))
    have S3 := (((((HS2.out.setCell (p := ⟨w.heap.size, 4, none⟩) (.inr (Nat.le_refl _)) (.slice none 0 0)).setCell (p := ⟨w.heap.size, 5, none⟩) (.inr (Nat.le_refl _)) (.int .i64 0)).setCell (p := ⟨w.heap.size, 6, none⟩) (.inr (Nat.le_refl _)) (.int .i64 0)).setCell (p := ⟨w.heap.size, 7, none⟩) (.inr (Nat.le_refl _)) (.slice none 0 0)).setCell (p := ⟨w.heap.size, 8, none⟩) (.inr (Nat.le_refl _)) (.slice none 0 0))
    clear c2 g2
    generalize (((((w2.setCell ⟨w.heap.size, 4, none⟩ (.slice none 0 0)).setCell ⟨w.heap.size, 5, none⟩ (.int .i64 0)).setCell ⟨w.heap.size, 6, none⟩ (.int .i64 0)).setCell ⟨w.heap.size, 7, none⟩ (.slice none 0 0)).setCell ⟨w.heap.size, 8, none⟩ (.slice none 0 0)) = w5 at *
    have cx := X3.cells
    have cy := Y3.cells
    have fy := Y3.thaw
    have YS := Lib.hid (Y3.set11 (.int .i64 k) (.complex .f32 t1 t2) (.complex .f32 s1 s2) (.float .f32 l) (.slice none 0 0) (.int .i64 0) (.int .i64 0) (.slice none 0 0) (.slice none 0 0) (.int .i64 c) (.int .i64 f))
    have S4 := Lib.hid S3
    clear X3 Y3 S3
    go_wp2_with fail
    have d1 := YS.out.cells
    exact bodyPost_ret (v := .agg #[.int .i64 k, .complex .f32 t1 t2, .complex .f32 s1 s2, .float .f32 l, .slice none 0 0, .int .i64 0, .int .i64 0, .slice none 0 0, .slice none 0 0, .int .i64 c, .int .i64 f]) (by simp [results, Tryz.results80, go_sem, d1]) rfl ⟨rfl, S4.out.set11 (by omega) _ _ _ _ _ _ _ _ _ _ _⟩
end
section
open Go.RowKit

set_option maxRecDepth 100000 in
theorem unitOf_source (t1 t2 s1 s2 : Nat) (w : World) :
    Calls Tryz.prog 59 #[.agg #[.int .i64 1, .complex .f32 t1 t2, .complex .f32 s1 s2, .float .f32 0, .slice none 0 0, .int .i64 0, .int .i64 0, .slice none 0 0, .slice none 0 0, .int .i64 0, .int .i64 0]] w fun e w' => ∃ b, e = .returned (.iface 126 (.pointer (some ⟨b, 0, none⟩))) ∧ Bx b #[.complex .f32 t1 t2, .complex .f32 s1 s2] w' ∧ w.heap.size ≤ b ∧ Span 0 0 w w' := by
  go_enter Tryz.func59, Tryz.ntmps59
  go_wp2_with fail
  go_ret
  refine ⟨_, rfl, ?_, ?_, ((Span.refl _ _ _).alloc _).alloc _⟩
  · have := Bx.new (w.alloc (.cells #[.int .i64 1, .complex .f32 t1 t2, .complex .f32 s1 s2, .float .f32 0, .slice none 0 0, .int .i64 0, .int .i64 0, .slice none 0 0, .slice none 0 0, .int .i64 0, .int .i64 0] 32)) #[.complex .f32 t1 t2, .complex .f32 s1 s2] 128
    simpa using this
  · omega

theorem call_source_isValid (v : Value) (w : World) : (method 314 126 v "loop.example/g03223/impl.isValid").run Tryz.prog w = .ok (144, v) w := by kernel_rfl
theorem call_source_module (v : Value) (w : World) : (method 314 126 v "loop.example/g03223/impl.module").run Tryz.prog w = .ok (145, v) w := by kernel_rfl
theorem call_source_step (v : Value) (w : World) : (method 314 126 v "loop.example/g03223/impl.step").run Tryz.prog w = .ok (146, v) w := by kernel_rfl

theorem source_isValid (b : Nat) (t1 t2 s1 s2 : Nat) (w : World) (hx : Bx b #[.complex .f32 t1 t2, .complex .f32 s1 s2] w) :
    Calls Tryz.prog 144 #[.pointer (some ⟨b, 0, none⟩)] w (SaysTrue w) := by
  have cx := hx.cells
  clear hx
  go_enter Tryz.func144, Tryz.ntmps144
  go_wp2_with fail
  go_ret
  exact ⟨0, rfl, rfl⟩

set_option maxRecDepth 100000 in
theorem source_module (b : Nat) (t1 t2 s1 s2 : Nat) (w : World) (hx : Bx b #[.complex .f32 t1 t2, .complex .f32 s1 s2] w) :
    Calls Tryz.prog 145 #[.pointer (some ⟨b, 0, none⟩)] w fun e w' => e = .returned (.agg #[.int .i64 1, .complex .f32 t1 t2, .complex .f32 s1 s2, .float .f32 0, .slice none 0 0, .int .i64 0, .int .i64 0, .slice none 0 0, .slice none 0 0, .int .i64 0, .int .i64 0]) ∧ Span 0 0 w w' := by
  have cx := hx.cells
  have ca := hx.cellsA
  clear hx
  go_enter Tryz.func145, Tryz.ntmps145
  go_wp2_with fail
  try go_region
  all_goals try go_wp2_with fail
  all_goals exact bodyPost_ret (v := .agg #[.int .i64 1, .complex .f32 t1 t2, .complex .f32 s1 s2, .float .f32 0, .slice none 0 0, .int .i64 0, .int .i64 0, .slice none 0 0, .slice none 0 0, .int .i64 0, .int .i64 0]) (by simp [results, Tryz.results145, go_sem]) rfl ⟨rfl, by first | exact (Span.refl _ _ _).alloc _ | exact ((Span.refl _ _ _).alloc _).drew⟩

theorem ReadM.source (t1 t2 s1 s2 : Nat) (w : World) : ReadM w (.agg #[.int .i64 1, .complex .f32 t1 t2, .complex .f32 s1 s2, .float .f32 0, .slice none 0 0, .int .i64 0, .int .i64 0, .slice none 0 0, .slice none 0 0, .int .i64 0, .int .i64 0]) ⟨1, (t1, t2), (s1, s2), 0, ⟨[], 0, 0⟩, 0, 0⟩ ([], []) :=
  ⟨_, _, _, 0, 0, 0, rfl, HasS.empty _ _ _ _ _ _ _ _, HasS.empty _ _ _ _ _ _ _ _, HasS.empty _ _ _ _ _ _ _ _⟩

set_option maxRecDepth 100000 in
set_option maxHeartbeats 4000000 in
theorem isModule_source (t1 t2 s1 s2 : Nat) (w : World) : Calls Tryz.prog 53 #[.agg #[.int .i64 1, .complex .f32 t1 t2, .complex .f32 s1 s2, .float .f32 0, .slice none 0 0, .int .i64 0, .int .i64 0, .slice none 0 0, .slice none 0 0, .int .i64 0, .int .i64 0]] w (True0 w) := by
  have cm1 := call_source_isValid
  have cm2 := call_source_module
  have HI := Lib.hid (fun b w h => source_isValid b t1 t2 s1 s2 w h)
  skip
  go_enter Tryz.func53, Tryz.ntmps53
  go_wp2_with fail
  refine (unitOf_source _ _ _ _ _).mono ?_
  rintro _ w1 ⟨b, rfl, x1, _, s1'⟩
  have B := (Bx.new w #[.int .i64 1, .complex .f32 t1 t2, .complex .f32 s1 s2, .float .f32 0, .slice none 0 0, .int .i64 0, .int .i64 0, .slice none 0 0, .slice none 0 0, .int .i64 0, .int .i64 0] 32).keep s1'
  have HS := Lib.hid (((Span.refl 0 0 w).alloc (.cells #[.int .i64 1, .complex .f32 t1 t2, .complex .f32 s1 s2, .float .f32 0, .slice none 0 0, .int .i64 0, .int .i64 0, .slice none 0 0, .slice none 0 0, .int .i64 0, .int .i64 0] 32)).trans s1')
  have X1 := Lib.hid x1
  have HB := Lib.hid B
  have c0 := B.cells
  clear s1' x1 B
  go_wp2_with fail
  go_region_with (first
    | (go_at_call 144; go_loud (refine (HI.out _ _ (X1.out.drewN _)).mono ?_; rintro _ _ ⟨m1, rfl, rfl⟩))
    | (go_at_call 145; go_loud (refine (source_module _ _ _ _ _ _ (X1.out.drewN _)).mono ?_; rintro _ w2 ⟨rfl, s2'⟩; have c0 := ((HB.out.drewN _).keep s2').cells; have HS2 : Hid (Span 0 0 w w2) := (by first | exact HS.out.trans s2' | exact HS.out.trans s2'.undrawn' | exact HS.out.trans (Span.undrawn' (n := 1) s2')); clear s2'))
    | (go_at_call 64; go_loud (refine (sameModules_self _ ([], []) _ _ _ (ReadM.source _ _ _ _ _) (ReadM.source _ _ _ _ _) (by simp) (by simp) (by simp)).mono ?_; rintro _ w3 ⟨rfl, s3'⟩; have HS3 : Hid (Span 0 0 w w3) := (by first | exact HS2.out.trans s3' | exact HS2.out.trans s3'.undrawn' | exact HS2.out.trans (Span.undrawn' (n := 1) s3')); clear s3')))
  all_goals go_wp2_with fail
  all_goals go_ret
  all_goals exact ⟨rfl, HS3.out⟩
end
section
open Go.RowKit

set_option maxRecDepth 100000 in
theorem unitOf_sum (w : World) :
    Calls Tryz.prog 59 #[.agg #[.int .i64 5, .complex .f32 0 0, .complex .f32 0 0, .float .f32 0, .slice none 0 0, .int .i64 0, .int .i64 0, .slice none 0 0, .slice none 0 0, .int .i64 0, .int .i64 0]] w fun e w' => ∃ b, e = .returned (.iface 137 (.pointer (some ⟨b, 0, none⟩))) ∧ Bx b #[] w' ∧ w.heap.size ≤ b ∧ Span 0 0 w w' := by
  go_enter Tryz.func59, Tryz.ntmps59
  go_wp2_with fail
  go_ret
  refine ⟨_, rfl, ?_, ?_, ((Span.refl _ _ _).alloc _).alloc _⟩
  · have := Bx.new (w.alloc (.cells #[.int .i64 5, .complex .f32 0 0, .complex .f32 0 0, .float .f32 0, .slice none 0 0, .int .i64 0, .int .i64 0, .slice none 0 0, .slice none 0 0, .int .i64 0, .int .i64 0] 32)) #[] 139
    simpa using this
  · omega

theorem call_sum_isValid (v : Value) (w : World) : (method 314 137 v "loop.example/g03223/impl.isValid").run Tryz.prog w = .ok (165, v) w := by kernel_rfl
theorem call_sum_module (v : Value) (w : World) : (method 314 137 v "loop.example/g03223/impl.module").run Tryz.prog w = .ok (166, v) w := by kernel_rfl
theorem call_sum_step (v : Value) (w : World) : (method 314 137 v "loop.example/g03223/impl.step").run Tryz.prog w = .ok (167, v) w := by kernel_rfl

theorem sum_isValid (b : Nat) (w : World) (hx : Bx b #[] w) :
    Calls Tryz.prog 165 #[.pointer (some ⟨b, 0, none⟩)] w (SaysTrue w) := by
  have cx := hx.cells
  clear hx
  go_enter Tryz.func165, Tryz.ntmps165
  go_wp2_with fail
  go_ret
  exact ⟨0, rfl, rfl⟩

set_option maxRecDepth 100000 in
theorem sum_module (b : Nat) (w : World) (hx : Bx b #[] w) :
    Calls Tryz.prog 166 #[.pointer (some ⟨b, 0, none⟩)] w fun e w' => e = .returned (.agg #[.int .i64 5, .complex .f32 0 0, .complex .f32 0 0, .float .f32 0, .slice none 0 0, .int .i64 0, .int .i64 0, .slice none 0 0, .slice none 0 0, .int .i64 0, .int .i64 0]) ∧ Span 0 0 w w' := by
  have cx := hx.cells
  have ca := hx.cellsA
  clear hx
  go_enter Tryz.func166, Tryz.ntmps166
  go_wp2_with fail
  try go_region
  all_goals try go_wp2_with fail
  all_goals exact bodyPost_ret (v := .agg #[.int .i64 5, .complex .f32 0 0, .complex .f32 0 0, .float .f32 0, .slice none 0 0, .int .i64 0, .int .i64 0, .slice none 0 0, .slice none 0 0, .int .i64 0, .int .i64 0]) (by simp [results, Tryz.results166, go_sem]) rfl ⟨rfl, by first | exact (Span.refl _ _ _).alloc _ | exact ((Span.refl _ _ _).alloc _).drew⟩

theorem ReadM.sum (w : World) : ReadM w (.agg #[.int .i64 5, .complex .f32 0 0, .complex .f32 0 0, .float .f32 0, .slice none 0 0, .int .i64 0, .int .i64 0, .slice none 0 0, .slice none 0 0, .int .i64 0, .int .i64 0]) ⟨5, (0, 0), (0, 0), 0, ⟨[], 0, 0⟩, 0, 0⟩ ([], []) :=
  ⟨_, _, _, 0, 0, 0, rfl, HasS.empty _ _ _ _ _ _ _ _, HasS.empty _ _ _ _ _ _ _ _, HasS.empty _ _ _ _ _ _ _ _⟩

set_option maxRecDepth 100000 in
set_option maxHeartbeats 4000000 in
theorem isModule_sum (w : World) : Calls Tryz.prog 53 #[.agg #[.int .i64 5, .complex .f32 0 0, .complex .f32 0 0, .float .f32 0, .slice none 0 0, .int .i64 0, .int .i64 0, .slice none 0 0, .slice none 0 0, .int .i64 0, .int .i64 0]] w (True0 w) := by
  have cm1 := call_sum_isValid
  have cm2 := call_sum_module
  have HI := Lib.hid (fun b w h => sum_isValid b  w h)
  skip
  go_enter Tryz.func53, Tryz.ntmps53
  go_wp2_with fail
  refine (unitOf_sum _).mono ?_
  rintro _ w1 ⟨b, rfl, x1, _, s1'⟩
  have B := (Bx.new w #[.int .i64 5, .complex .f32 0 0, .complex .f32 0 0, .float .f32 0, .slice none 0 0, .int .i64 0, .int .i64 0, .slice none 0 0, .slice none 0 0, .int .i64 0, .int .i64 0] 32).keep s1'
  have HS := Lib.hid (((Span.refl 0 0 w).alloc (.cells #[.int .i64 5, .complex .f32 0 0, .complex .f32 0 0, .float .f32 0, .slice none 0 0, .int .i64 0, .int .i64 0, .slice none 0 0, .slice none 0 0, .int .i64 0, .int .i64 0] 32)).trans s1')
  have X1 := Lib.hid x1
  have HB := Lib.hid B
  have c0 := B.cells
  clear s1' x1 B
  go_wp2_with fail
  go_region_with (first
    | (go_at_call 165; go_loud (refine (HI.out _ _ (X1.out.drewN _)).mono ?_; rintro _ _ ⟨m1, rfl, rfl⟩))
    | (go_at_call 166; go_loud (refine (sum_module _ _ (X1.out.drewN _)).mono ?_; rintro _ w2 ⟨rfl, s2'⟩; have c0 := ((HB.out.drewN _).keep s2').cells; have HS2 : Hid (Span 0 0 w w2) := (by first | exact HS.out.trans s2' | exact HS.out.trans s2'.undrawn' | exact HS.out.trans (Span.undrawn' (n := 1) s2')); clear s2'))
    | (go_at_call 64; go_loud (refine (sameModules_self _ ([], []) _ _ _ (ReadM.sum _) (ReadM.sum _) (by simp) (by simp) (by simp)).mono ?_; rintro _ w3 ⟨rfl, s3'⟩; have HS3 : Hid (Span 0 0 w w3) := (by first | exact HS2.out.trans s3' | exact HS2.out.trans s3'.undrawn' | exact HS2.out.trans (Span.undrawn' (n := 1) s3')); clear s3')))
  all_goals go_wp2_with fail
  all_goals go_ret
  all_goals exact ⟨rfl, HS3.out⟩
end
section
open Go.RowKit

theorem sum_step (b p q : Nat) (w : World) (hx : Bx b #[] w) :
    Calls Tryz.prog 167 #[.pointer (some ⟨b, 0, none⟩), .complex .f32 p q] w fun e w' => e = .returned (.complex .f32 p q) ∧ Bx b #[] w' ∧ Span b (b + 1) w w' := by
  have HX := Lib.hid hx
  clear hx
  go_enter Tryz.func167, Tryz.ntmps167
  go_wp2_with fail
  go_ret
  exact ⟨rfl, HX.out, Span.refl _ _ _⟩
end
section
open Go.RowKit

set_option maxRecDepth 100000 in
set_option maxHeartbeats 4000000 in
theorem source_stepK (g : Nat) (t s s' : Cx) (hm : mulS s t = some s') (z1 z2 : Nat) (w : World) (hx : Bx g #[.complex .f32 t.1 t.2, .complex .f32 s.1 s.2] w) :
    Calls Tryz.prog 146 #[.pointer (some ⟨g, 0, none⟩), .complex .f32 z1 z2] w fun e w' => e = .returned (.complex .f32 s.1 s.2) ∧ Bx g #[.complex .f32 t.1 t.2, .complex .f32 s'.1 s'.2] w' ∧ Span g (g + 1) w w' := by
  obtain ⟨t1, t2⟩ := t
  obtain ⟨s1, s2⟩ := s
  obtain ⟨r1, r2⟩ := s'
  have MU := Lib.hid (impl_multiply_some (s1, s2) (t1, t2) (r1, r2) hm)
  have HX := Lib.hid hx
  have cx := hx.cells
  have fx := hx.thaw
  clear hx hm
  simp only at MU cx fx
  go_enter Tryz.func146, Tryz.ntmps146
  go_wp2_with fail
  go_region_with (go_at_call 147; refine (MU.out _).mono ?_; rintro _ _ ⟨rfl, rfl⟩)
  all_goals
    go_wp2_with fail
    go_ret
    have h := HX.out.set 1 (.complex .f32 r1 r2) (by simp)
    have h2 : Bx g #[.complex .f32 t1 t2, .complex .f32 r1 r2] (w.setCell ⟨g, 1, none⟩ (.complex .f32 r1 r2)) := by simpa using h
    exact ⟨rfl, h2, ((Span.refl g (g + 1) w).setCell (p := ⟨g, 1, none⟩) (.inl ⟨Nat.le_refl _, Nat.lt_succ_self _⟩) _).drew⟩
end
section
open Go.RowKit

theorem newSumK_is (w : World) : Calls Tryz.prog 7 #[] w fun e w' => e = .returned (.agg #[.int .i64 5, .complex .f32 0 0, .complex .f32 0 0, .float .f32 0, .slice none 0 0, .int .i64 0, .int .i64 0, .slice none 0 0, .slice none 0 0, .int .i64 0, .int .i64 0]) ∧ Span 0 0 w w' := by
  go_enter Tryz.func7, Tryz.ntmps7
  go_wp2_with fail
  exact bodyPost_ret (v := .agg #[.int .i64 5, .complex .f32 0 0, .complex .f32 0 0, .float .f32 0, .slice none 0 0, .int .i64 0, .int .i64 0, .slice none 0 0, .slice none 0 0, .int .i64 0, .int .i64 0]) (by simp [results, Tryz.results7, go_sem]) rfl ⟨rfl, (Span.refl _ _ _).alloc _⟩
theorem newSourceK_is (t1 t2 s1 s2 : Nat) (w : World) : Calls Tryz.prog 6 #[.complex .f32 t1 t2, .complex .f32 s1 s2] w fun e w' => e = .returned (.agg #[.int .i64 1, .complex .f32 t1 t2, .complex .f32 s1 s2, .float .f32 0, .slice none 0 0, .int .i64 0, .int .i64 0, .slice none 0 0, .slice none 0 0, .int .i64 0, .int .i64 0]) ∧ Span 0 0 w w' := by
  go_enter Tryz.func6, Tryz.ntmps6
  go_wp2_with fail
  exact bodyPost_ret (v := .agg #[.int .i64 1, .complex .f32 t1 t2, .complex .f32 s1 s2, .float .f32 0, .slice none 0 0, .int .i64 0, .int .i64 0, .slice none 0 0, .slice none 0 0, .int .i64 0, .int .i64 0]) (by simp [results, Tryz.results6, go_sem]) rfl ⟨rfl, (Span.refl _ _ _).alloc _⟩

def mSource (t s : Cx) : Mw := ⟨1, t.1, t.2, s.1, s.2, 0, none, 0, 0, 0, 0, none, 0, 0, none, 0, 0, 0, 0⟩
def mSum : Mw := ⟨5, 0, 0, 0, 0, 0, none, 0, 0, 0, 0, none, 0, 0, none, 0, 0, 0, 0⟩
theorem okM_source (t s : Cx) (w : World) : OkM w (mSource t s) := fun w' _ => isModule_source t.1 t.2 s.1 s.2 w'
theorem okM_sum (w : World) : OkM w mSum := fun w' _ => isModule_sum w'

def uSource (t s : Cx) : Un := .box #[.complex .f32 t.1 t.2, .complex .f32 s.1 s.2]
def uSum : Un := .box #[]
theorem modU_source (t s : Cx) (X : List Nat) (g : Nat) (f : List Nat) : ModU X (.source, g) f (uSource t s) (fun m => m = mSource t s) := fun w h => by
  obtain ⟨_, _, hb⟩ := h
  exact (source_module g t.1 t.2 s.1 s.2 w hb).mono fun e w' ⟨h1, h2⟩ => ⟨mSource t s, h1, rfl, h2⟩
theorem modU_sum (X : List Nat) (g : Nat) (f : List Nat) : ModU X (.sum, g) f uSum (fun m => m = mSum) := fun w h => by
  obtain ⟨_, _, hb⟩ := h
  exact (sum_module g w hb).mono fun e w' ⟨h1, h2⟩ => ⟨mSum, h1, rfl, h2⟩
theorem stepU_sum (z : Cx) : StepsU .sum uSum z uSum z := fun X g f w _ h => by
  obtain ⟨h1, rfl, hb⟩ := h
  refine (sum_step g z.1 z.2 w hb).mono fun e w' ⟨h2, h3, h4⟩ => ⟨h2, ⟨h1, rfl, h3⟩, Keeps.of h4 (fun k g1 g2 => List.mem_singleton.2 (by omega))⟩

theorem stepU_source (t s s' z : Cx) (hm : mulS s t = some s') : StepsU .source (uSource t s) z (uSource t s') s := fun X g f w _ h => by
  obtain ⟨h1, rfl, hb⟩ := h
  refine (source_stepK g t s s' hm z.1 z.2 w hb).mono fun e w' ⟨h2, h3, h4⟩ => ⟨h2, ⟨h1, rfl, h3⟩, Keeps.of h4 (fun k g1 g2 => List.mem_singleton.2 (by omega))⟩
end
end Go.Proofs.YtkjlodoppmipfaaGreat
