/- Rings: the oldest sample is taken, if there is one. Modules of the kind delay: unit, valid, module; copies. Modules of the kind delay: copies, units of valid ones. Modules of the kind delay are stepped. Delays as units of a circuit. -/
import Derived.Test.YtkjlodoppmipfaaGreatJg30
import Derived.Outline
import Derived.Test.YtkjlodoppmipfaaGreatJg25
import Derived.Test.YtkjlodoppmipfaaGreatJg26
import Derived.Test.YtkjlodoppmipfaaGreatJg27
import Derived.BigQuiet
namespace Go.Proofs.YtkjlodoppmipfaaGreat
section
open Go.RowKit

/-- What is given when a sample was taken. -/
def TakenR (r : Rn) (w : World) (e : Ending) (w' : World) : Prop :=
  ∃ v b, e = .returned (.tuple #[.agg #[v, .int .i64 ((takeR r).2.1 : Int), .int .i64 ((takeR r).2.2 : Int)], .complex .f32 (itemR r.1 r.2.1 0).1 (itemR r.1 r.2.1 0).2, .bool true]) ∧ HasS cxV true b w.heap.size w'.heap.size w' v (takeR r).1 ∧ Span 0 0 w w'
end
section
open Go.RowKit

set_option maxRecDepth 100000 in
theorem unitOf_delay (A : Option Addr) (n p : Nat) (a : Int) (w : World) :
    Calls Tryz.prog 59 #[.agg #[.int .i64 4, .complex .f32 0 0, .complex .f32 0 0, .float .f32 0, .slice A n p, .int .i64 a, .int .i64 (n : Int), .slice none 0 0, .slice none 0 0, .int .i64 0, .int .i64 0]] w fun e w' => ∃ b, e = .returned (.iface 134 (.pointer (some ⟨b, 0, none⟩))) ∧ Bx b #[.slice A n p, .int .i64 a, .int .i64 (n : Int)] w' ∧ w.heap.size ≤ b ∧ Span 0 0 w w' := by
  go_enter Tryz.func59, Tryz.ntmps59
  go_wp2_with fail
  go_ret
  refine ⟨_, rfl, ?_, ?_, ((Span.refl _ _ _).alloc _).alloc _⟩
  · have := Bx.new (w.alloc (.cells #[.int .i64 4, .complex .f32 0 0, .complex .f32 0 0, .float .f32 0, .slice A n p, .int .i64 a, .int .i64 (n : Int), .slice none 0 0, .slice none 0 0, .int .i64 0, .int .i64 0] 32)) #[.slice A n p, .int .i64 a, .int .i64 (n : Int)] 136
    simpa using this
  · omega

theorem call_delay_isValid (v : Value) (w : World) : (method 314 134 v "loop.example/g03223/impl.isValid").run Tryz.prog w = .ok (156, v) w := by kernel_rfl
theorem call_delay_module (v : Value) (w : World) : (method 314 134 v "loop.example/g03223/impl.module").run Tryz.prog w = .ok (157, v) w := by kernel_rfl
theorem call_delay_step (v : Value) (w : World) : (method 314 134 v "loop.example/g03223/impl.step").run Tryz.prog w = .ok (159, v) w := by kernel_rfl

set_option maxRecDepth 100000 in
set_option maxHeartbeats 4000000 in
theorem delay_isValid (xs : List Cx) (a n p : Nat) (A : Option Addr) (_hn : n = xs.length) (hv : VR (xs, a, n)) (b : Nat) (o : Bool) (bs lo hi : Nat) (w : World) (hx : Bx b #[.slice A n p, .int .i64 (a : Int), .int .i64 (n : Int)] w) (hs : HasS cxV o bs lo hi w (.slice A n p) xs) :
    Calls Tryz.prog 156 #[.pointer (some ⟨b, 0, none⟩)] w (True0 w) := by
  have cx := hx.cells
  have HB := Lib.hid hx
  have IRX := Lib.hid (fun w (h : HasS cxV o bs lo hi w (.slice A n p) xs) => isRing_true xs a n hv o bs lo hi _ w h)
  have HS := Lib.hid hs
  clear hx hs hv _hn
  go_enter Tryz.func156, Tryz.ntmps156
  go_wp2_with fail
  go_region_with (first
    | (go_at_call 160; go_loud (refine (IRX.out _ (by first | exact HS.out | exact HS.out.drewN _)).mono ?_; rintro _ w1 ⟨rfl, s1⟩; have c1 := (by first | exact (HB.out.keep s1).cells | exact ((HB.out.drewN _).keep s1).cells); have S1 : Hid (Span 0 0 w w1) := (by first | exact s1 | exact s1.undrawn' | exact Span.undrawn' (n := 1) s1); clear s1)))
  all_goals go_wp2_with fail
  all_goals go_ret
  all_goals exact ⟨rfl, S1.out⟩

set_option maxRecDepth 100000 in
theorem delay_module (b : Nat) (A : Option Addr) (n p : Nat) (a : Int) (w : World) (hx : Bx b #[.slice A n p, .int .i64 a, .int .i64 (n : Int)] w) :
    Calls Tryz.prog 157 #[.pointer (some ⟨b, 0, none⟩)] w fun e w' => e = .returned (.agg #[.int .i64 4, .complex .f32 0 0, .complex .f32 0 0, .float .f32 0, .slice A n p, .int .i64 a, .int .i64 (n : Int), .slice none 0 0, .slice none 0 0, .int .i64 0, .int .i64 0]) ∧ Span 0 0 w w' := by
  have cx := hx.cells
  have ca := hx.cellsA
  clear hx
  go_enter Tryz.func157, Tryz.ntmps157
  go_wp2_with fail
  try go_region
  all_goals try go_wp2_with fail
  all_goals exact bodyPost_ret (v := .agg #[.int .i64 4, .complex .f32 0 0, .complex .f32 0 0, .float .f32 0, .slice A n p, .int .i64 a, .int .i64 (n : Int), .slice none 0 0, .slice none 0 0, .int .i64 0, .int .i64 0]) (by simp [results, Tryz.results157, go_sem]) rfl ⟨rfl, by first | exact (Span.refl _ _ _).alloc _ | exact ((Span.refl _ _ _).alloc _).drew⟩

theorem ReadM.delay {xs : List Cx} {A : Option Addr} {n p : Nat} (a : Int) {o : Bool} {bs lo hi : Nat} {w : World} (hs : HasS cxV o bs lo hi w (.slice A n p) xs) : ReadM w (.agg #[.int .i64 4, .complex .f32 0 0, .complex .f32 0 0, .float .f32 0, .slice A n p, .int .i64 a, .int .i64 (n : Int), .slice none 0 0, .slice none 0 0, .int .i64 0, .int .i64 0]) ⟨4, (0, 0), (0, 0), 0, ⟨xs, a, (n : Nat)⟩, 0, 0⟩ ([], []) :=
  ⟨_, _, _, bs, 0, 0, rfl, hs.bare.weak (Nat.zero_le _) (.inr (Nat.le_refl _)), HasS.empty _ _ _ _ _ _ _ _, HasS.empty _ _ _ _ _ _ _ _⟩

set_option maxRecDepth 100000 in
set_option maxHeartbeats 4000000 in
theorem isModule_delay (xs : List Cx) (a n p : Nat) (A : Option Addr) (hn : n = xs.length) (hv : VR (xs, a, n)) (o : Bool) (bs lo hi : Nat) (w : World) (hs : HasS cxV o bs lo hi w (.slice A n p) xs) : Calls Tryz.prog 53 #[.agg #[.int .i64 4, .complex .f32 0 0, .complex .f32 0 0, .float .f32 0, .slice A n p, .int .i64 (a : Int), .int .i64 (n : Int), .slice none 0 0, .slice none 0 0, .int .i64 0, .int .i64 0]] w (True0 w) := by
  have cm1 := call_delay_isValid
  have cm2 := call_delay_module
  have HI := Lib.hid (fun b w h k => delay_isValid xs a n p A hn hv b o bs lo hi w h k)
  have HL := Lib.hid (show xs.length ≤ 4194304 by have := hv.most; simp only at this; omega)
  have HG := Lib.hid hs
  clear hn hv hs
  go_enter Tryz.func53, Tryz.ntmps53
  go_wp2_with fail
  refine (unitOf_delay A n p _ _).mono ?_
  rintro _ w1 ⟨b, rfl, x1, _, s1'⟩
  have B := (Bx.new w #[.int .i64 4, .complex .f32 0 0, .complex .f32 0 0, .float .f32 0, .slice A n p, .int .i64 (a : Int), .int .i64 (n : Int), .slice none 0 0, .slice none 0 0, .int .i64 0, .int .i64 0] 32).keep s1'
  have HS := Lib.hid (((Span.refl 0 0 w).alloc (.cells #[.int .i64 4, .complex .f32 0 0, .complex .f32 0 0, .float .f32 0, .slice A n p, .int .i64 (a : Int), .int .i64 (n : Int), .slice none 0 0, .slice none 0 0, .int .i64 0, .int .i64 0] 32)).trans s1')
  have HG1 := Lib.hid (HG.out.span HS.out (.inl (Nat.le_refl _)))
  have X1 := Lib.hid x1
  have HB := Lib.hid B
  have c0 := B.cells
  clear s1' x1 B
  go_wp2_with fail
  go_region_with (first
    | (go_at_call 156; go_loud (refine (HI.out _ _ (X1.out.drewN _) (HG1.out.drewN _)).mono ?_; rintro _ wv ⟨rfl, sv'⟩; have HSv : Hid (Span 0 0 w1 wv) := (by first | exact sv' | exact sv'.undrawn' | exact Span.undrawn' (n := 1) sv'); have cv := (HB.out.keep HSv.out).cells; clear sv'))
    | (go_at_call 157; go_loud (refine (delay_module _ A n p _ _ (X1.out.keep HSv.out)).mono ?_; rintro _ w2 ⟨rfl, s2'⟩; have HS2 : Hid (Span 0 0 w1 w2) := (by first | exact HSv.out.trans s2' | exact HSv.out.trans s2'.undrawn' | exact HSv.out.trans (Span.undrawn' (n := 1) s2')); have c2 := (HB.out.keep HS2.out).cells; have HG2 := Lib.hid (HG1.out.span HS2.out (.inl (Nat.le_refl _))); clear s2'))
    | (go_at_call 64; go_loud (refine (sameModules_self ⟨4, (0, 0), (0, 0), 0, ⟨xs, (a : Int), (n : Nat)⟩, 0, 0⟩ ([], []) _ _ _ (ReadM.delay _ HG2.out) (ReadM.delay _ HG2.out) HL.out (by simp) (by simp)).mono ?_; rintro _ w3 ⟨rfl, s3'⟩; have HS3 : Hid (Span 0 0 w1 w3) := (by first | exact HS2.out.trans s3' | exact HS2.out.trans s3'.undrawn' | exact HS2.out.trans (Span.undrawn' (n := 1) s3')); clear s3')))
  all_goals go_wp2_with fail
  all_goals go_ret
  all_goals exact ⟨rfl, HS.out.trans HS3.out⟩
end
section
open Go.RowKit

/-- A copy of a delay. -/
def CopyD (xs : List Cx) (n : Nat) (a : Int) (w : World) (e : Ending) (w' : World) : Prop :=
  ∃ A p bs, e = .returned (.agg #[.int .i64 4, .complex .f32 0 0, .complex .f32 0 0, .float .f32 0, .slice A n p, .int .i64 a, .int .i64 (n : Int), .slice none 0 0, .slice none 0 0, .int .i64 0, .int .i64 0]) ∧ HasS cxV true bs w.heap.size w'.heap.size w' (.slice A n p) xs ∧ Span 0 0 w w'

set_option maxRecDepth 100000 in
set_option maxHeartbeats 8000000 in
theorem copyModule_delay (xs : List Cx) (n p : Nat) (a : Int) (A : Option Addr) (hn : n = xs.length) (hl : xs.length ≤ 4194304) (o : Bool) (bs lo hi : Nat) (w : World) (hs : HasS cxV o bs lo hi w (.slice A n p) xs) :
    Calls Tryz.prog 80 #[.agg #[.int .i64 4, .complex .f32 0 0, .complex .f32 0 0, .float .f32 0, .slice A n p, .int .i64 a, .int .i64 (n : Int), .slice none 0 0, .slice none 0 0, .int .i64 0, .int .i64 0]] w (CopyD xs n a w) := by
  have HG := Lib.hid hs
  have HN := Lib.hid hn
  have HL := Lib.hid hl
  clear hs hn hl
  go_enter Tryz.func80, Tryz.ntmps80
  go_wp2_with fail
  have X := Lib.hid ((Bx.new w #[.int .i64 4, .complex .f32 0 0, .complex .f32 0 0, .float .f32 0, .slice A n p, .int .i64 a, .int .i64 (n : Int), .slice none 0 0, .slice none 0 0, .int .i64 0, .int .i64 0] 32).alloc (.cells #[.int .i64 0, .complex .f32 0 0, .complex .f32 0 0, .float .f32 0, .slice none 0 0, .int .i64 0, .int .i64 0, .slice none 0 0, .slice none 0 0, .int .i64 0, .int .i64 0] 32))
  have Y := Lib.hid (Bx.new (w.alloc (.cells #[.int .i64 4, .complex .f32 0 0, .complex .f32 0 0, .float .f32 0, .slice A n p, .int .i64 a, .int .i64 (n : Int), .slice none 0 0, .slice none 0 0, .int .i64 0, .int .i64 0] 32)) #[.int .i64 0, .complex .f32 0 0, .complex .f32 0 0, .float .f32 0, .slice none 0 0, .int .i64 0, .int .i64 0, .slice none 0 0, .slice none 0 0, .int .i64 0, .int .i64 0] 32)
  rw [show (w.alloc (.cells #[.int .i64 4, .complex .f32 0 0, .complex .f32 0 0, .float .f32 0, .slice A n p, .int .i64 a, .int .i64 (n : Int), .slice none 0 0, .slice none 0 0, .int .i64 0, .int .i64 0] 32)).heap.size = w.heap.size + 1 by simp] at Y
  have HS := Lib.hid (((Span.refl 0 0 w).alloc (.cells #[.int .i64 4, .complex .f32 0 0, .complex .f32 0 0, .float .f32 0, .slice A n p, .int .i64 a, .int .i64 (n : Int), .slice none 0 0, .slice none 0 0, .int .i64 0, .int .i64 0] 32)).alloc (.cells #[.int .i64 0, .complex .f32 0 0, .complex .f32 0 0, .float .f32 0, .slice none 0 0, .int .i64 0, .int .i64 0, .slice none 0 0, .slice none 0 0, .int .i64 0, .int .i64 0] 32))
  have HW : Hid (((w.alloc (.cells #[.int .i64 4, .complex .f32 0 0, .complex .f32 0 0, .float .f32 0, .slice A n p, .int .i64 a, .int .i64 (n : Int), .slice none 0 0, .slice none 0 0, .int .i64 0, .int .i64 0] 32)).alloc (.cells #[.int .i64 0, .complex .f32 0 0, .complex .f32 0 0, .float .f32 0, .slice none 0 0, .int .i64 0, .int .i64 0, .slice none 0 0, .slice none 0 0, .int .i64 0, .int .i64 0] 32)).heap.size = w.heap.size + 2) := by unfold Hid; simp
  generalize (w.alloc (.cells #[.int .i64 4, .complex .f32 0 0, .complex .f32 0 0, .float .f32 0, .slice A n p, .int .i64 a, .int .i64 (n : Int), .slice none 0 0, .slice none 0 0, .int .i64 0, .int .i64 0] 32)).alloc (.cells #[.int .i64 0, .complex .f32 0 0, .complex .f32 0 0, .float .f32 0, .slice none 0 0, .int .i64 0, .int .i64 0, .slice none 0 0, .slice none 0 0, .int .i64 0, .int .i64 0] 32) = w0 at *
  have c0 := X.out.cells
  have HG0 := Lib.hid (HG.out.span HS.out (.inl (Nat.le_refl _)))
  go_region_with (first
    | (go_at_call 109; go_loud ((refine (copyRing_any xs _ _ o bs lo hi _ _ (HG0.out.drewN _) HL.out).mono ?_; rintro _ w1 ⟨v1, b1, rfl, h1, s1'⟩; obtain ⟨A1, q1, rfl, _⟩ := id h1; rw [← HN.out] at h1 ⊢; have SS1 : Hid (Span 0 0 w0 w1) := (by first | exact s1' | exact s1'.undrawn' | exact Span.undrawn' (n := 1) s1'); have H1 : Hid (HasS cxV true b1 w0.heap.size w1.heap.size w1 (.slice A1 n q1) xs) := h1; have X1 := Lib.hid (X.out.keep SS1.out); have Y1 := Lib.hid (Y.out.keep SS1.out); have c1 := X1.out.cells; clear s1' h1)))
    | (go_at_call 110; go_loud ((refine (copyTable_nil _).mono ?_; rintro _ w2 ⟨rfl, s2'⟩; have SS2 : Hid (Span 0 0 w1 w2) := (by first | exact s2' | exact s2'.undrawn' | exact Span.undrawn' (n := 1) s2'); have X2 := Lib.hid (X1.out.keep SS2.out); have Y2 := Lib.hid (Y1.out.keep SS2.out); have H2 := Lib.hid (H1.out.span SS2.out (.inl (Nat.le_refl _))); have c2 := X2.out.cells; have g2 := X2.out.thaw; clear s2'))))
  all_goals
    have X3 := (((((X2.out.set 4 (.slice A1 n q1) (by simp)).set 5 (.int .i64 a) (by simp)).set 6 (.int .i64 (n : Int)) (by simp)).set 7 (.slice none 0 0) (by simp)).set 8 (.slice none 0 0) (by simp))
    have X3 : Bx w.heap.size #[.int .i64 4, .complex .f32 0 0, .complex .f32 0 0, .float .f32 0, (.slice A1 n q1), .int .i64 a, .int .i64 (n : Int), .slice none 0 0, .slice none 0 0, .int .i64 0, .int .i64 0] (((((w2.setCell ⟨w.heap.size, 4, none⟩ (.slice A1 n q1)).setCell ⟨w.heap.size, 5, none⟩ (.int .i64 a)).setCell ⟨w.heap.size, 6, none⟩ (.int .i64 (n : Int))).setCell ⟨w.heap.size, 7, none⟩ (.slice none 0 0)).setCell ⟨w.heap.size, 8, none⟩ (.slice none 0 0)) := by simpa using X3
    have Y3 := (((((Y2.out.other (a := ⟨w.heap.size, 4, none⟩) (by simp) (.slice A1 n q1)).other (a := ⟨w.heap.size, 5, none⟩) (by simp) (.int .i64 a)).other (a := ⟨w.heap.size, 6, none⟩) (by simp) (.int .i64 (n : Int))).other (a := ⟨w.heap.size, 7, none⟩) (by simp) (.slice none 0 0)).other (a := ⟨w.heap.size, 8, none⟩) (by simp) (.slice none 0 0))
    have S3 := (((((((HS.out.trans SS1.out).trans SS2.out).setCell (p := ⟨w.heap.size, 4, none⟩) (.inr (Nat.le_refl _)) (.slice A1 n q1)).setCell (p := ⟨w.heap.size, 5, none⟩) (.inr (Nat.le_refl _)) (.int .i64 a)).setCell (p := ⟨w.heap.size, 6, none⟩) (.inr (Nat.le_refl _)) (.int .i64 (n : Int))).setCell (p := ⟨w.heap.size, 7, none⟩) (.inr (Nat.le_refl _)) (.slice none 0 0)).setCell (p := ⟨w.heap.size, 8, none⟩) (.inr (Nat.le_refl _)) (.slice none 0 0))
    have T3 := ((((((Span.refl w.heap.size (w.heap.size + 2) w2).setCell (p := ⟨w.heap.size, 4, none⟩) (.inl (by simp)) (.slice A1 n q1)).setCell (p := ⟨w.heap.size, 5, none⟩) (.inl (by simp)) (.int .i64 a)).setCell (p := ⟨w.heap.size, 6, none⟩) (.inl (by simp)) (.int .i64 (n : Int))).setCell (p := ⟨w.heap.size, 7, none⟩) (.inl (by simp)) (.slice none 0 0)).setCell (p := ⟨w.heap.size, 8, none⟩) (.inl (by simp)) (.slice none 0 0))
    have hw := HW.out
    have H3 := Lib.hid (H2.out.span T3 (by omega))
    have Z3 : Hid (w1.heap.size ≤ (((((w2.setCell ⟨w.heap.size, 4, none⟩ (.slice A1 n q1)).setCell ⟨w.heap.size, 5, none⟩ (.int .i64 a)).setCell ⟨w.heap.size, 6, none⟩ (.int .i64 (n : Int))).setCell ⟨w.heap.size, 7, none⟩ (.slice none 0 0)).setCell ⟨w.heap.size, 8, none⟩ (.slice none 0 0)).heap.size) := by have := SS2.out.size; unfold Hid; simpa [World.setCell] using this
    clear c2 g2 hw T3
    generalize (((((w2.setCell ⟨w.heap.size, 4, none⟩ (.slice A1 n q1)).setCell ⟨w.heap.size, 5, none⟩ (.int .i64 a)).setCell ⟨w.heap.size, 6, none⟩ (.int .i64 (n : Int))).setCell ⟨w.heap.size, 7, none⟩ (.slice none 0 0)).setCell ⟨w.heap.size, 8, none⟩ (.slice none 0 0)) = w5 at *
    have cx := X3.cells
    have cy := Y3.cells
    have fy := Y3.thaw
    have YS := Lib.hid (Y3.set11 (.int .i64 4) (.complex .f32 0 0) (.complex .f32 0 0) (.float .f32 0) (.slice A1 n q1) (.int .i64 a) (.int .i64 (n : Int)) (.slice none 0 0) (.slice none 0 0) (.int .i64 0) (.int .i64 0))
    have S4 := Lib.hid S3
    clear X3 Y3 S3
    go_wp2_with fail
    have d1 := YS.out.cells
    have hw := HW.out
    have T4 := (Span.refl (w.heap.size + 1) (w.heap.size + 2) w5).put11 (b := w.heap.size + 1) (by omega) (.int .i64 4) (.complex .f32 0 0) (.complex .f32 0 0) (.float .f32 0) (.slice A1 n q1) (.int .i64 a) (.int .i64 (n : Int)) (.slice none 0 0) (.slice none 0 0) (.int .i64 0) (.int .i64 0)
    refine bodyPost_ret (v := .agg #[.int .i64 4, .complex .f32 0 0, .complex .f32 0 0, .float .f32 0, (.slice A1 n q1), .int .i64 a, .int .i64 (n : Int), .slice none 0 0, .slice none 0 0, .int .i64 0, .int .i64 0]) (by simp [results, Tryz.results80, go_sem, d1]) rfl ⟨A1, q1, b1, rfl, ?_, S4.out.set11 (by omega) _ _ _ _ _ _ _ _ _ _ _⟩
    have z3 := Z3.out
    exact (H3.out.span T4 (by omega)).weak (by omega) (.inl (Nat.le_trans z3 T4.size))

/-- The unit of a valid delay. -/
def UnitD (xs : List Cx) (n : Nat) (a : Int) (w : World) (e : Ending) (w' : World) : Prop :=
  ∃ b A p bs, e = .returned (.iface 134 (.pointer (some ⟨b, 0, none⟩))) ∧ Bx b #[.slice A n p, .int .i64 a, .int .i64 (n : Int)] w' ∧ w.heap.size ≤ b ∧ HasS cxV true bs w.heap.size w'.heap.size w' (.slice A n p) xs ∧ Span 0 0 w w'
end
section
open Go.RowKit

theorem pushR_full_cnt {r : Rn} (hv : VR r) (z : Cx) (hc : r.2.2 = r.1.length) : (pushR r z).2.2 = r.2.2 := by
  have := hv.pos
  unfold pushR
  rw [if_pos hc, putR_cnt, takeR_cnt]
  omega

/-- What a step of a delay leaves. -/
def StepD (b n : Nat) (r : Rn) (z : Cx) (w : World) (e : Ending) (w' : World) : Prop :=
  ∃ A p bs, e = .returned (.complex .f32 (oldR r).1 (oldR r).2) ∧ Bx b #[.slice A n p, .int .i64 ((pushR r z).2.1 : Int), .int .i64 (n : Int)] w' ∧ HasS cxV true bs w.heap.size w'.heap.size w' (.slice A n p) (pushR r z).1 ∧ Span b (b + 1) w w'

set_option maxRecDepth 100000 in
set_option maxHeartbeats 4000000 in
theorem delay_step (b : Nat) (xs : List Cx) (a n p : Nat) (A : Option Addr) (hn : n = xs.length) (hv : VR (xs, a, n)) (z1 z2 : Nat) (o : Bool) (bs lo hi : Nat) (w : World) (hx : Bx b #[.slice A n p, .int .i64 (a : Int), .int .i64 (n : Int)] w) (hs : HasS cxV o bs lo hi w (.slice A n p) xs) :
    Calls Tryz.prog 159 #[.pointer (some ⟨b, 0, none⟩), .complex .f32 z1 z2] w (StepD b n (xs, a, n) (z1, z2) w) := by
  have cx := hx.cells
  have HX := Lib.hid hx
  have PU := pushRing_any (xs, a, n) hv (z1, z2) o bs lo hi _ w hs
  have hl : n = (pushR (xs, a, n) (z1, z2)).1.length := by rw [pushR_len]; exact hn
  have hC : (pushR (xs, a, n) (z1, z2)).2.2 = n := pushR_full_cnt hv (z1, z2) hn
  unfold StepD
  unfold PushedR at PU
  obtain ⟨⟨ys, a2, k2⟩, hR⟩ : ∃ t, t = pushR (xs, a, n) (z1, z2) := ⟨_, rfl⟩
  obtain ⟨⟨o1, o2⟩, hO⟩ : ∃ t, t = oldR (xs, a, n) := ⟨_, rfl⟩
  rw [← hR] at PU hl hC ⊢
  rw [← hO] at PU ⊢
  simp only at PU hl hC ⊢
  subst hC
  have HL := Lib.hid hl
  have HPU := Lib.hid PU
  clear hx hs hv hn hO hR PU hl
  go_enter Tryz.func159, Tryz.ntmps159
  go_wp2_with fail
  refine HPU.out.mono ?_
  rintro _ w1 ⟨v1, b1, rfl, h1, s1⟩
  obtain ⟨A1, q1, rfl, -, -⟩ := id h1
  rw [← HL.out] at h1 ⊢
  have H1 := Lib.hid h1
  have S1 := Lib.hid s1
  have hbs := HX.out.1
  have X1 := (HX.out.keep s1).alloc (.cells #[.slice A1 k2 q1, .int .i64 (a2 : Int), .int .i64 (k2 : Int)] 27)
  have c1 := X1.cells
  have f1 := X1.thaw
  have XS := Lib.hid (X1.set3 (.slice A1 k2 q1) (.int .i64 (a2 : Int)) (.int .i64 (k2 : Int)))
  have SS := Lib.hid ((((S1.out).wide (lo' := b) (hi' := b + 1) (fun _ _ h => by omega)).alloc (.cells #[.slice A1 k2 q1, .int .i64 (a2 : Int), .int .i64 (k2 : Int)] 27)).put3 (b := b) ⟨Nat.le_refl _, Nat.lt_succ_self _⟩ (.slice A1 k2 q1) (.int .i64 (a2 : Int)) (.int .i64 (k2 : Int)))
  have HH := Lib.hid (((H1.out.alloc (.cells #[.slice A1 k2 q1, .int .i64 (a2 : Int), .int .i64 (k2 : Int)] 27)).span ((Span.refl b (b + 1) _).put3 (b := b) ⟨Nat.le_refl _, Nat.lt_succ_self _⟩ (.slice A1 k2 q1) (.int .i64 (a2 : Int)) (.int .i64 (k2 : Int))) (.inr (.inr (.inl (by omega))))).weak (lo' := w.heap.size) (hi' := w1.heap.size + 1) (Nat.le_refl _) (.inl (Nat.le_succ _)))
  clear h1 s1 X1 hbs
  go_wp2_with fail
  go_ret
  exact ⟨A1, q1, b1, rfl, XS.out, by simpa [World.setCell] using HH.out, SS.out⟩
end
section
open Go.RowKit

theorem stepU_delay (xs : List Cx) (a : Nat) (hv : VR (xs, a, xs.length)) (z : Cx) : StepsU .delay (.ring xs a) z (.ring (pushR (xs, a, xs.length) z).1 (pushR (xs, a, xs.length) z).2.1) (oldR (xs, a, xs.length)) := fun X g f w hX h => by
  obtain ⟨h1, rfl, h0, A, p, s, hs, hb, hst⟩ := h
  have hl : (pushR (xs, a, xs.length) z).1.length = xs.length := pushR_len ..
  refine (delay_step g xs a xs.length p A rfl hv z.1 z.2 false s 0 _ w hb hst).mono ?_
  rintro e w' ⟨A', p', bs, rfl, hb', hs', sp⟩
  refine ⟨rfl, ⟨h1, rfl, by rw [hl]; exact h0, A', p', bs, fun hm => ?_, by rw [hl]; exact hb', ?_⟩, Keeps.of sp (fun k g1 g2 => List.mem_singleton.2 (by omega))⟩
  · obtain ⟨_, _, e2, _, hc⟩ := hs'
    obtain ⟨_, _, h3, _⟩ := hc (by rw [hl]; exact h0)
    have := hX bs hm
    omega
  · rw [hl]; exact hs'.bare.weak (Nat.zero_le _) (.inl (Nat.le_refl _))
theorem modU_delay (xs : List Cx) (a : Nat) (X : List Nat) (g : Nat) (f : List Nat) : ModU X (.delay, g) f (.ring xs a) (fun m => m.k = 4 ∧ m.sn = xs.length ∧ m.a = (a : Int) ∧ m.cnt = (xs.length : Int)) := fun w h => by
  obtain ⟨_, _, _, A, p, s, _, hb, _⟩ := h
  exact (delay_module g A xs.length p (a : Int) w hb).mono fun e w' ⟨h1, h2⟩ => ⟨⟨4, 0, 0, 0, 0, 0, A, xs.length, p, (a : Int), (xs.length : Int), none, 0, 0, none, 0, 0, 0, 0⟩, h1, ⟨rfl, rfl, rfl, rfl⟩, h2⟩
end
end Go.Proofs.YtkjlodoppmipfaaGreat
