/- Copies of modules without a ring and a table. -/
import Derived.Test.YtfafkdpefdpnkaaGreatJq26
import Derived.Test.YtfafkdpefdpnkaaGreatJq23
import Derived.Deep.RegionWith
import Derived.StillTailTactics
import Derived.Outline
namespace Go.Proofs.YtfafkdpefdpnkaaGreat
open Go.RowKit

set_option maxRecDepth 100000 in
theorem cloneC_nil (w : World) : Calls Tryz.prog 29 #[.slice none 0 0] w fun e w' => e = .returned (.slice none 0 0) ∧ w = w' := by
  have hq := Lib.run_eql_slice_nil (P := Tryz.prog) w 23 28 none 0 0 0 0 Tryz.underlying23
  go_enter Tryz.func29, Tryz.ntmps29
  go_wp2
  go_ret
  exact ⟨rfl, rfl⟩
set_option maxRecDepth 100000 in
theorem cloneI_nil (w : World) : Calls Tryz.prog 30 #[.slice none 0 0] w fun e w' => e = .returned (.slice none 0 0) ∧ w = w' := by
  have hq := Lib.run_eql_slice_nil (P := Tryz.prog) w 24 3 none 0 0 0 0 Tryz.underlying24
  go_enter Tryz.func30, Tryz.ntmps30
  go_wp2
  go_ret
  exact ⟨rfl, rfl⟩

set_option maxRecDepth 100000 in
set_option maxHeartbeats 4000000 in
theorem copyRing_nil (w : World) : Calls Tryz.prog 41 #[.agg #[.slice none 0 0, .int .i64 0, .int .i64 0]] w fun e w' => e = .returned (.agg #[.slice none 0 0, .int .i64 0, .int .i64 0]) ∧ Span 0 0 w w' := by
  go_enter Tryz.func41, Tryz.ntmps41
  go_wp2_with fail
  have X := Lib.hid ((Bx.new w #[.slice none 0 0, .int .i64 0, .int .i64 0] 31).alloc (.cells #[.slice none 0 0, .int .i64 0, .int .i64 0] 31))
  have Y := Lib.hid (Bx.new (w.alloc (.cells #[.slice none 0 0, .int .i64 0, .int .i64 0] 31)) #[.slice none 0 0, .int .i64 0, .int .i64 0] 31)
  rw [show (w.alloc (.cells #[.slice none 0 0, .int .i64 0, .int .i64 0] 31)).heap.size = w.heap.size + 1 by simp] at Y
  have HS := Lib.hid (((Span.refl 0 0 w).alloc (.cells #[.slice none 0 0, .int .i64 0, .int .i64 0] 31)).alloc (.cells #[.slice none 0 0, .int .i64 0, .int .i64 0] 31))
  generalize (w.alloc (.cells #[.slice none 0 0, .int .i64 0, .int .i64 0] 31)).alloc (.cells #[.slice none 0 0, .int .i64 0, .int .i64 0] 31) = w0 at *
  have c0 := X.out.cells
  have d0 := Y.out.cells
  have e0 := Y.out.thaw
  have YS := Lib.hid (Y.out.set3 (.slice none 0 0) (.int .i64 0) (.int .i64 0))
  go_still_tail 8, (by kernel_rfl)
  still_call ((cloneC_nil _).mono (fun _ _ h => ⟨h.1, h.2.symm⟩))
  repeat still_step
  refine wpStill_nil ?_
  go_wp2_with fail
  have d1 := YS.out.cells
  exact bodyPost_ret (v := .agg #[.slice none 0 0, .int .i64 0, .int .i64 0]) (by simp [results, Tryz.results41, go_sem, d1]) rfl ⟨rfl, by first | exact ((HS.out.drew).set3 (by omega) _ _ _) | exact ((HS.out.drewN _).set3 (by omega) _ _ _)⟩

set_option maxRecDepth 100000 in
set_option maxHeartbeats 4000000 in
theorem copyTable_nil (w : World) : Calls Tryz.prog 16 #[.agg #[.slice none 0 0, .slice none 0 0]] w fun e w' => e = .returned (.agg #[.slice none 0 0, .slice none 0 0]) ∧ Span 0 0 w w' := by
  go_enter Tryz.func16, Tryz.ntmps16
  go_wp2_with fail
  have X := Lib.hid ((Bx.new w #[.slice none 0 0, .slice none 0 0] 26).alloc (.cells #[.slice none 0 0, .slice none 0 0] 26))
  have Y := Lib.hid (Bx.new (w.alloc (.cells #[.slice none 0 0, .slice none 0 0] 26)) #[.slice none 0 0, .slice none 0 0] 26)
  rw [show (w.alloc (.cells #[.slice none 0 0, .slice none 0 0] 26)).heap.size = w.heap.size + 1 by simp] at Y
  have HS := Lib.hid (((Span.refl 0 0 w).alloc (.cells #[.slice none 0 0, .slice none 0 0] 26)).alloc (.cells #[.slice none 0 0, .slice none 0 0] 26))
  generalize (w.alloc (.cells #[.slice none 0 0, .slice none 0 0] 26)).alloc (.cells #[.slice none 0 0, .slice none 0 0] 26) = w0 at *
  have c0 := X.out.cells
  have d0 := Y.out.cells
  have e0 := Y.out.thaw
  have YS := Lib.hid (Y.out.set2 (.slice none 0 0) (.slice none 0 0))
  go_still_tail 7, (by kernel_rfl)
  still_call ((cloneC_nil _).mono (fun _ _ h => ⟨h.1, h.2.symm⟩))
  repeat still_step
  still_call ((cloneI_nil _).mono (fun _ _ h => ⟨h.1, h.2.symm⟩))
  repeat still_step
  refine wpStill_nil ?_
  go_wp2_with fail
  have d1 := YS.out.cells
  exact bodyPost_ret (v := .agg #[.slice none 0 0, .slice none 0 0]) (by simp [results, Tryz.results16, go_sem, d1]) rfl ⟨rfl, by first | exact ((HS.out.drew).set2 (by omega) _ _) | exact ((HS.out.drewN _).set2 (by omega) _ _)⟩

set_option maxRecDepth 100000 in
set_option maxHeartbeats 4000000 in
theorem copyModule_nil (k : Int) (t1 t2 s1 s2 l : Nat) (c f : Int) (w : World) : Calls Tryz.prog 32 #[.agg #[.int .i64 k, .complex .f32 t1 t2, .complex .f32 s1 s2, .float .f32 l, .slice none 0 0, .int .i64 0, .int .i64 0, .slice none 0 0, .slice none 0 0, .int .i64 c, .int .i64 f]] w fun e w' => e = .returned (.agg #[.int .i64 k, .complex .f32 t1 t2, .complex .f32 s1 s2, .float .f32 l, .slice none 0 0, .int .i64 0, .int .i64 0, .slice none 0 0, .slice none 0 0, .int .i64 c, .int .i64 f]) ∧ Span 0 0 w w' := by
  go_enter Tryz.func32, Tryz.ntmps32
  go_wp2_with fail
  have X := Lib.hid ((Bx.new w #[.int .i64 k, .complex .f32 t1 t2, .complex .f32 s1 s2, .float .f32 l, .slice none 0 0, .int .i64 0, .int .i64 0, .slice none 0 0, .slice none 0 0, .int .i64 c, .int .i64 f] 33).alloc (.cells #[.int .i64 0, .complex .f32 0 0, .complex .f32 0 0, .float .f32 0, .slice none 0 0, .int .i64 0, .int .i64 0, .slice none 0 0, .slice none 0 0, .int .i64 0, .int .i64 0] 33))
  have Y := Lib.hid (Bx.new (w.alloc (.cells #[.int .i64 k, .complex .f32 t1 t2, .complex .f32 s1 s2, .float .f32 l, .slice none 0 0, .int .i64 0, .int .i64 0, .slice none 0 0, .slice none 0 0, .int .i64 c, .int .i64 f] 33)) #[.int .i64 0, .complex .f32 0 0, .complex .f32 0 0, .float .f32 0, .slice none 0 0, .int .i64 0, .int .i64 0, .slice none 0 0, .slice none 0 0, .int .i64 0, .int .i64 0] 33)
  rw [show (w.alloc (.cells #[.int .i64 k, .complex .f32 t1 t2, .complex .f32 s1 s2, .float .f32 l, .slice none 0 0, .int .i64 0, .int .i64 0, .slice none 0 0, .slice none 0 0, .int .i64 c, .int .i64 f] 33)).heap.size = w.heap.size + 1 by simp] at Y
  have HS := Lib.hid (((Span.refl 0 0 w).alloc (.cells #[.int .i64 k, .complex .f32 t1 t2, .complex .f32 s1 s2, .float .f32 l, .slice none 0 0, .int .i64 0, .int .i64 0, .slice none 0 0, .slice none 0 0, .int .i64 c, .int .i64 f] 33)).alloc (.cells #[.int .i64 0, .complex .f32 0 0, .complex .f32 0 0, .float .f32 0, .slice none 0 0, .int .i64 0, .int .i64 0, .slice none 0 0, .slice none 0 0, .int .i64 0, .int .i64 0] 33))
  generalize (w.alloc (.cells #[.int .i64 k, .complex .f32 t1 t2, .complex .f32 s1 s2, .float .f32 l, .slice none 0 0, .int .i64 0, .int .i64 0, .slice none 0 0, .slice none 0 0, .int .i64 c, .int .i64 f] 33)).alloc (.cells #[.int .i64 0, .complex .f32 0 0, .complex .f32 0 0, .float .f32 0, .slice none 0 0, .int .i64 0, .int .i64 0, .slice none 0 0, .slice none 0 0, .int .i64 0, .int .i64 0] 33) = w0 at *
  have c0 := X.out.cells
  go_region_with (first
    | (go_at_call 41; go_loud ((refine (copyRing_nil _).mono ?_; rintro _ w1 ⟨rfl, s1'⟩; have X1 := Lib.hid ((X.out.drewN 1).keep s1'); have Y1 := Lib.hid ((Y.out.drewN 1).keep s1'); have HS1 := Lib.hid (HS.out.trans (Span.undrawn' (n := 1) s1')); have c1 := X1.out.cells; clear s1')))
    | (go_at_call 16; go_loud ((refine (copyTable_nil _).mono ?_; rintro _ w2 ⟨rfl, s2'⟩; have X2 := Lib.hid (X1.out.keep s2'); have Y2 := Lib.hid (Y1.out.keep s2'); have HS2 := Lib.hid (HS1.out.trans s2'); have c2 := X2.out.cells; have g2 := X2.out.thaw; clear s2'))))
  all_goals
    have X3 := (((((X2.out.set 4 (.slice none 0 0) (by simp)).set 5 (.int .i64 0) (by simp)).set 6 (.int .i64 0) (by simp)).set 7 (.slice none 0 0) (by simp)).set 8 (.slice none 0 0) (by simp))
    have X3 : Bx w.heap.size #[.int .i64 k, .complex .f32 t1 t2, .complex .f32 s1 s2, .float .f32 l, .slice none 0 0, .int .i64 0, .int .i64 0, .slice none 0 0, .slice none 0 0, .int .i64 c, .int .i64 f] (((((w2.setCell ⟨w.heap.size, 4, none⟩ (.slice none 0 0)).setCell ⟨w.heap.size, 5, none⟩ (.int .i64 0)).setCell ⟨w.heap.size, 6, none⟩ (.int .i64 0)).setCell ⟨w.heap.size, 7, none⟩ (.slice none 0 0)).setCell ⟨w.heap.size, 8, none⟩ (.slice none 0 0)) := by simpa using X3
    have Y3 := (((((Y2.out.other (a := ⟨w.heap.size, 4, none⟩) (by simp) (.slice none 0 0)).other (a := ⟨w.heap.size, 5, none⟩) (by simp) (.int .i64 0)).other (a := ⟨w.heap.size, 6, none⟩) (by simp) (.int .i64 0)).other (a := ⟨w.heap.size, 7, none⟩) (by simp) (.slice none 0 0)).other (a := ⟨w.heap.size, 8, none⟩) (by simp) (.slice none 0 0))
    have S3 := (((((HS2.out.setCell (p := ⟨w.heap.size, 4, none⟩) (.inr (Nat.le_refl _)) (.slice none 0 0)).setCell (p := ⟨w.heap.size, 5, none⟩) (.inr (Nat.le_refl _)) (.int .i64 0)).setCell (p := ⟨w.heap.size, 6, none⟩) (.inr (Nat.le_refl _)) (.int .i64 0)).setCell (p := ⟨w.heap.size, 7, none⟩) (.inr (Nat.le_refl _)) (.slice none 0 0)).setCell (p := ⟨w.heap.size, 8, none⟩) (.inr (Nat.le_refl _)) (.slice none 0 0))
    clear c2 g2
    generalize (((((w2.setCell ⟨w.heap.size, 4, none⟩ (.slice none 0 0)).setCell ⟨w.heap.size, 5, none⟩ (.int .i64 0)).setCell ⟨w.heap.size, 6, none⟩ (.int .i64 0)).setCell ⟨w.heap.size, 7, none⟩ (.slice none 0 0)).setCell ⟨w.heap.size, 8, none⟩ (.slice none 0 0)) = w5 at *
    have cx := X3.cells
    have cy := Y3.cells
    have fy := Y3.thaw
    have YS := Lib.hid (Y3.set11 (.int .i64 k) (.complex .f32 t1 t2) (.complex .f32 s1 s2) (.float .f32 l) (.slice none 0 0) (.int .i64 0) (.int .i64 0) (.slice none 0 0) (.slice none 0 0) (.int .i64 c) (.int .i64 f))
    have S4 := Lib.hid S3
    clear X3 Y3 S3
    go_wp2_with fail
    have d1 := YS.out.cells
    exact bodyPost_ret (v := .agg #[.int .i64 k, .complex .f32 t1 t2, .complex .f32 s1 s2, .float .f32 l, .slice none 0 0, .int .i64 0, .int .i64 0, .slice none 0 0, .slice none 0 0, .int .i64 c, .int .i64 f]) (by simp [results, Tryz.results32, go_sem, d1]) rfl ⟨rfl, S4.out.set11 (by omega) _ _ _ _ _ _ _ _ _ _ _⟩
end Go.Proofs.YtfafkdpefdpnkaaGreat
