/- Copies of modules without a ring and a table. -/
import Derived.Test.YtghekafjccfjcaaJq18
import Derived.Test.YtghekafjccfjcaaJq21
import Derived.Deep.RegionWith
import Derived.StillTailTactics
import Derived.Outline
namespace Go.Proofs.Ytghekafjccfjcaa
open Go.RowKit

set_option maxRecDepth 100000 in
theorem cloneC_nil (w : World) : Calls Try.prog 35 #[.slice none 0 0] w fun e w' => e = .returned (.slice none 0 0) ∧ w = w' := by
  have hq := Lib.run_eql_slice_nil (P := Try.prog) w 30 29 none 0 0 0 0 Try.underlying30
  go_enter Try.func35, Try.ntmps35
  go_wp2
  go_ret
  exact ⟨rfl, rfl⟩
set_option maxRecDepth 100000 in
theorem cloneI_nil (w : World) : Calls Try.prog 36 #[.slice none 0 0] w fun e w' => e = .returned (.slice none 0 0) ∧ w = w' := by
  have hq := Lib.run_eql_slice_nil (P := Try.prog) w 33 3 none 0 0 0 0 Try.underlying33
  go_enter Try.func36, Try.ntmps36
  go_wp2
  go_ret
  exact ⟨rfl, rfl⟩

set_option maxRecDepth 100000 in
set_option maxHeartbeats 4000000 in
theorem copyRing_nil (w : World) : Calls Try.prog 32 #[.agg #[.slice none 0 0, .int .i64 0, .int .i64 0]] w fun e w' => e = .returned (.agg #[.slice none 0 0, .int .i64 0, .int .i64 0]) ∧ Span 0 0 w w' := by
  go_enter Try.func32, Try.ntmps32
  go_wp2_with fail
  have X := Lib.hid ((Bx.new w #[.slice none 0 0, .int .i64 0, .int .i64 0] 32).alloc (.cells #[.slice none 0 0, .int .i64 0, .int .i64 0] 32))
  have Y := Lib.hid (Bx.new (w.alloc (.cells #[.slice none 0 0, .int .i64 0, .int .i64 0] 32)) #[.slice none 0 0, .int .i64 0, .int .i64 0] 32)
  rw [show (w.alloc (.cells #[.slice none 0 0, .int .i64 0, .int .i64 0] 32)).heap.size = w.heap.size + 1 by simp] at Y
  have HS := Lib.hid (((Span.refl 0 0 w).alloc (.cells #[.slice none 0 0, .int .i64 0, .int .i64 0] 32)).alloc (.cells #[.slice none 0 0, .int .i64 0, .int .i64 0] 32))
  generalize (w.alloc (.cells #[.slice none 0 0, .int .i64 0, .int .i64 0] 32)).alloc (.cells #[.slice none 0 0, .int .i64 0, .int .i64 0] 32) = w0 at *
  have c0 := X.out.cells
  have d0 := Y.out.cells
  have e0 := Y.out.thaw
  have YS := Lib.hid (Y.out.set3 (.slice none 0 0) (.int .i64 0) (.int .i64 0))
  go_still_tail 8, (by kernel_rfl)
  still_call ((cloneC_nil _).mono (fun _ _ h => ⟨h.1, h.2.symm⟩))
  repeat still_step
  refine wpStill_nil ?_
  go_wp2_with fail
  have d1 := YS.out.cells
  exact bodyPost_ret (v := .agg #[.slice none 0 0, .int .i64 0, .int .i64 0]) (by simp [results, Try.results32, go_sem, d1]) rfl ⟨rfl, by first | exact ((HS.out.drew).set3 (by omega) _ _ _) | exact ((HS.out.drewN _).set3 (by omega) _ _ _)⟩

set_option maxRecDepth 100000 in
set_option maxHeartbeats 4000000 in
theorem copyTable_nil (w : World) : Calls Try.prog 33 #[.agg #[.slice none 0 0, .slice none 0 0]] w fun e w' => e = .returned (.agg #[.slice none 0 0, .slice none 0 0]) ∧ Span 0 0 w w' := by
  go_enter Try.func33, Try.ntmps33
  go_wp2_with fail
  have X := Lib.hid ((Bx.new w #[.slice none 0 0, .slice none 0 0] 35).alloc (.cells #[.slice none 0 0, .slice none 0 0] 35))
  have Y := Lib.hid (Bx.new (w.alloc (.cells #[.slice none 0 0, .slice none 0 0] 35)) #[.slice none 0 0, .slice none 0 0] 35)
  rw [show (w.alloc (.cells #[.slice none 0 0, .slice none 0 0] 35)).heap.size = w.heap.size + 1 by simp] at Y
  have HS := Lib.hid (((Span.refl 0 0 w).alloc (.cells #[.slice none 0 0, .slice none 0 0] 35)).alloc (.cells #[.slice none 0 0, .slice none 0 0] 35))
  generalize (w.alloc (.cells #[.slice none 0 0, .slice none 0 0] 35)).alloc (.cells #[.slice none 0 0, .slice none 0 0] 35) = w0 at *
  have c0 := X.out.cells
  have d0 := Y.out.cells
  have e0 := Y.out.thaw
  have YS := Lib.hid (Y.out.set2 (.slice none 0 0) (.slice none 0 0))
  go_still_tail 7, (by kernel_rfl)
  still_call ((cloneC_nil _).mono (fun _ _ h => ⟨h.1, h.2.symm⟩))
  repeat still_step
  still_call ((cloneI_nil _).mono (fun _ _ h => ⟨h.1, h.2.symm⟩))
  repeat still_step
  refine wpStill_nil ?_
  go_wp2_with fail
  have d1 := YS.out.cells
  exact bodyPost_ret (v := .agg #[.slice none 0 0, .slice none 0 0]) (by simp [results, Try.results33, go_sem, d1]) rfl ⟨rfl, by first | exact ((HS.out.drew).set2 (by omega) _ _) | exact ((HS.out.drewN _).set2 (by omega) _ _)⟩

set_option maxRecDepth 100000 in
set_option maxHeartbeats 4000000 in
theorem copyModule_nil (k : Int) (t1 t2 s1 s2 l : Nat) (c f : Int) (w : World) : Calls Try.prog 26 #[.agg #[.int .i64 k, .complex .f32 t1 t2, .complex .f32 s1 s2, .float .f32 l, .slice none 0 0, .int .i64 0, .int .i64 0, .slice none 0 0, .slice none 0 0, .int .i64 c, .int .i64 f]] w fun e w' => e = .returned (.agg #[.int .i64 k, .complex .f32 t1 t2, .complex .f32 s1 s2, .float .f32 l, .slice none 0 0, .int .i64 0, .int .i64 0, .slice none 0 0, .slice none 0 0, .int .i64 c, .int .i64 f]) ∧ Span 0 0 w w' := by
  go_enter Try.func26, Try.ntmps26
  go_wp2_with fail
  have X := Lib.hid ((Bx.new w #[.int .i64 k, .complex .f32 t1 t2, .complex .f32 s1 s2, .float .f32 l, .slice none 0 0, .int .i64 0, .int .i64 0, .slice none 0 0, .slice none 0 0, .int .i64 c, .int .i64 f] 37).alloc (.cells #[.int .i64 0, .complex .f32 0 0, .complex .f32 0 0, .float .f32 0, .slice none 0 0, .int .i64 0, .int .i64 0, .slice none 0 0, .slice none 0 0, .int .i64 0, .int .i64 0] 37))
  have Y := Lib.hid (Bx.new (w.alloc (.cells #[.int .i64 k, .complex .f32 t1 t2, .complex .f32 s1 s2, .float .f32 l, .slice none 0 0, .int .i64 0, .int .i64 0, .slice none 0 0, .slice none 0 0, .int .i64 c, .int .i64 f] 37)) #[.int .i64 0, .complex .f32 0 0, .complex .f32 0 0, .float .f32 0, .slice none 0 0, .int .i64 0, .int .i64 0, .slice none 0 0, .slice none 0 0, .int .i64 0, .int .i64 0] 37)
  rw [show (w.alloc (.cells #[.int .i64 k, .complex .f32 t1 t2, .complex .f32 s1 s2, .float .f32 l, .slice none 0 0, .int .i64 0, .int .i64 0, .slice none 0 0, .slice none 0 0, .int .i64 c, .int .i64 f] 37)).heap.size = w.heap.size + 1 by simp] at Y
  have HS := Lib.hid (((Span.refl 0 0 w).alloc (.cells #[.int .i64 k, .complex .f32 t1 t2, .complex .f32 s1 s2, .float .f32 l, .slice none 0 0, .int .i64 0, .int .i64 0, .slice none 0 0, .slice none 0 0, .int .i64 c, .int .i64 f] 37)).alloc (.cells #[.int .i64 0, .complex .f32 0 0, .complex .f32 0 0, .float .f32 0, .slice none 0 0, .int .i64 0, .int .i64 0, .slice none 0 0, .slice none 0 0, .int .i64 0, .int .i64 0] 37))
  generalize (w.alloc (.cells #[.int .i64 k, .complex .f32 t1 t2, .complex .f32 s1 s2, .float .f32 l, .slice none 0 0, .int .i64 0, .int .i64 0, .slice none 0 0, .slice none 0 0, .int .i64 c, .int .i64 f] 37)).alloc (.cells #[.int .i64 0, .complex .f32 0 0, .complex .f32 0 0, .float .f32 0, .slice none 0 0, .int .i64 0, .int .i64 0, .slice none 0 0, .slice none 0 0, .int .i64 0, .int .i64 0] 37) = w0 at *
  have c0 := X.out.cells
  go_region_with (first
    | (go_at_call 32; go_loud ((refine (copyRing_nil _).mono ?_; rintro _ w1 ⟨rfl, s1'⟩; have X1 := Lib.hid ((X.out.drewN 1).keep s1'); have Y1 := Lib.hid ((Y.out.drewN 1).keep s1'); have HS1 := Lib.hid (HS.out.trans (Span.undrawn' (n := 1) s1')); have c1 := X1.out.cells; clear s1')))
    | (go_at_call 33; go_loud ((refine (copyTable_nil _).mono ?_; rintro _ w2 ⟨rfl, s2'⟩; have X2 := Lib.hid (X1.out.keep s2'); have Y2 := Lib.hid (Y1.out.keep s2'); have HS2 := Lib.hid (HS1.out.trans s2'); have c2 := X2.out.cells; have g2 := X2.out.thaw; clear s2'))))
  all_goals
    have X3 := (((((X2.out.set 4 (.slice none 0 0) (by simp)).set 5 (.int .i64 0) (by simp)).set 6 (.int .i64 0) (by simp)).set 7 (.slice none 0 0) (by simp)).set 8 (.slice none 0 0) (by simp))
    have X3 : Bx w.heap.size #[.int .i64 k, .complex .f32 t1 t2, .complex .f32 s1 s2, .float .f32 l, .slice none 0 0, .int .i64 0, .int .i64 0, .slice none 0 0, .slice none 0 0, .int .i64 c, .int .i64 f] (((((w2.setCell ⟨w.heap.size, 4, none⟩ (.slice none 0 0)).setCell ⟨w.heap.size, 5, none⟩ (.int .i64 0)).setCell ⟨w.heap.size, 6, none⟩ (.int .i64 0)).setCell ⟨w.heap.size, 7, none⟩ (.slice none 0 0)).setCell ⟨w.heap.size, 8, none⟩ (.slice none 0 0)) := by simpa using X3
    have Y3 := (((((Y2.out.other (a := ⟨w.heap.size, 4, none⟩) (by simp) (.slice none 0 0)).other (a := ⟨w.heap.size, 5, none⟩) (by simp) (.int .i64 0)).other (a := ⟨w.heap.size, 6, none⟩) (by simp) (.int .i64 0)).other (a := ⟨w.heap.size, 7, none⟩) (by simp) (.slice none 0 0)).other (a := ⟨w.heap.size, 8, none⟩) (by simp) (.slice none 0 0))
    have S3 := (((((HS2.out.setCell (p := ⟨w.heap.size, 4, none⟩) (.inr (Nat.le_refl _)) (.slice none 0 0)).setCell (p := ⟨w.heap.size, 5, none⟩) (.inr (Nat.le_refl _)) (.int .i64 0)).setCell (p := ⟨w.heap.size, 6, none⟩) (.inr (Nat.le_refl _)) (.int .i64 0)).setCell (p := ⟨w.heap.size, 7, none⟩) (.inr (Nat.le_refl _)) (.slice none 0 0)).setCell (p := ⟨w.heap.size, 8, none⟩) (.inr (Nat.le_refl _)) (.slice none 0 0))
    clear c2 g2
    generalize (((((w2.setCell ⟨w.heap.size, 4, none⟩ (.slice none 0 0)).setCell ⟨w.heap.size, 5, none⟩ (.int .i64 0)).setCell ⟨w.heap.size, 6, none⟩ (.int .i64 0)).setCell ⟨w.heap.size, 7, none⟩ (.slice none 0 0)).setCell ⟨w.heap.size, 8, none⟩ (.slice none 0 0)) = w5 at *
    have cx := X3.cells
    have cy := Y3.cells
    have fy := Y3.thaw
    have YS := Lib.hid (Y3.set11 (.int .i64 k) (.complex .f32 t1 t2) (.complex .f32 s1 s2) (.float .f32 l) (.slice none 0 0) (.int .i64 0) (.int .i64 0) (.slice none 0 0) (.slice none 0 0) (.int .i64 c) (.int .i64 f))
    have S4 := Lib.hid S3
    clear X3 Y3 S3
    go_wp2_with fail
    have d1 := YS.out.cells
    exact bodyPost_ret (v := .agg #[.int .i64 k, .complex .f32 t1 t2, .complex .f32 s1 s2, .float .f32 l, .slice none 0 0, .int .i64 0, .int .i64 0, .slice none 0 0, .slice none 0 0, .int .i64 c, .int .i64 f]) (by simp [results, Try.results26, go_sem, d1]) rfl ⟨rfl, S4.out.set11 (by omega) _ _ _ _ _ _ _ _ _ _ _⟩
end Go.Proofs.Ytghekafjccfjcaa
