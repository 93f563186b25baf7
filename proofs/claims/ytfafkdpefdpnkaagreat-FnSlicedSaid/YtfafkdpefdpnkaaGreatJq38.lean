/- Modules of the kind slicer: copies, units of valid ones. -/
import Derived.Test.YtfafkdpefdpnkaaGreatJq37
import Derived.Outline
namespace Go.Proofs.YtfafkdpefdpnkaaGreat
open Go.RowKit

/-- A copy of a slicer. -/
def CopyS (t : Tab) (n : Nat) (c : Int) (w : World) (e : Ending) (w' : World) : Prop :=
  ∃ A p B q, e = .returned (.agg #[.int .i64 6, .complex .f32 0 0, .complex .f32 0 0, .float .f32 0, .slice none 0 0, .int .i64 0, .int .i64 0, .slice A n p, .slice B n q, .int .i64 c, .int .i64 0]) ∧ HasTab true w.heap.size w'.heap.size w' (.agg #[.slice A n p, .slice B n q]) t ∧ Span 0 0 w w'

set_option maxRecDepth 100000 in
set_option maxHeartbeats 8000000 in
theorem copyModule_slicer (t : Tab) (n p q : Nat) (c : Int) (A B : Option Addr) (hn : n = t.1.length) (ht : t.2.length = t.1.length) (hl : t.1.length ≤ 4194304) (o : Bool) (lo hi : Nat) (w : World) (hs : HasTab o lo hi w (.agg #[.slice A n p, .slice B n q]) t) :
    Calls Tryz.prog 32 #[.agg #[.int .i64 6, .complex .f32 0 0, .complex .f32 0 0, .float .f32 0, .slice none 0 0, .int .i64 0, .int .i64 0, .slice A n p, .slice B n q, .int .i64 c, .int .i64 0]] w (CopyS t n c w) := by
  have HG := Lib.hid hs
  have HN := Lib.hid hn
  have HN2 := Lib.hid (hn.trans ht.symm)
  have HT := Lib.hid ht
  have HL := Lib.hid hl
  clear hs hn hl ht
  go_enter Tryz.func32, Tryz.ntmps32
  go_wp2_with fail
  have X := Lib.hid ((Bx.new w #[.int .i64 6, .complex .f32 0 0, .complex .f32 0 0, .float .f32 0, .slice none 0 0, .int .i64 0, .int .i64 0, .slice A n p, .slice B n q, .int .i64 c, .int .i64 0] 33).alloc (.cells #[.int .i64 0, .complex .f32 0 0, .complex .f32 0 0, .float .f32 0, .slice none 0 0, .int .i64 0, .int .i64 0, .slice none 0 0, .slice none 0 0, .int .i64 0, .int .i64 0] 33))
  have Y := Lib.hid (Bx.new (w.alloc (.cells #[.int .i64 6, .complex .f32 0 0, .complex .f32 0 0, .float .f32 0, .slice none 0 0, .int .i64 0, .int .i64 0, .slice A n p, .slice B n q, .int .i64 c, .int .i64 0] 33)) #[.int .i64 0, .complex .f32 0 0, .complex .f32 0 0, .float .f32 0, .slice none 0 0, .int .i64 0, .int .i64 0, .slice none 0 0, .slice none 0 0, .int .i64 0, .int .i64 0] 33)
  rw [show (w.alloc (.cells #[.int .i64 6, .complex .f32 0 0, .complex .f32 0 0, .float .f32 0, .slice none 0 0, .int .i64 0, .int .i64 0, .slice A n p, .slice B n q, .int .i64 c, .int .i64 0] 33)).heap.size = w.heap.size + 1 by simp] at Y
  have HS := Lib.hid (((Span.refl 0 0 w).alloc (.cells #[.int .i64 6, .complex .f32 0 0, .complex .f32 0 0, .float .f32 0, .slice none 0 0, .int .i64 0, .int .i64 0, .slice A n p, .slice B n q, .int .i64 c, .int .i64 0] 33)).alloc (.cells #[.int .i64 0, .complex .f32 0 0, .complex .f32 0 0, .float .f32 0, .slice none 0 0, .int .i64 0, .int .i64 0, .slice none 0 0, .slice none 0 0, .int .i64 0, .int .i64 0] 33))
  have HW : Hid (((w.alloc (.cells #[.int .i64 6, .complex .f32 0 0, .complex .f32 0 0, .float .f32 0, .slice none 0 0, .int .i64 0, .int .i64 0, .slice A n p, .slice B n q, .int .i64 c, .int .i64 0] 33)).alloc (.cells #[.int .i64 0, .complex .f32 0 0, .complex .f32 0 0, .float .f32 0, .slice none 0 0, .int .i64 0, .int .i64 0, .slice none 0 0, .slice none 0 0, .int .i64 0, .int .i64 0] 33)).heap.size = w.heap.size + 2) := by unfold Hid; simp
  generalize ((w.alloc (.cells #[.int .i64 6, .complex .f32 0 0, .complex .f32 0 0, .float .f32 0, .slice none 0 0, .int .i64 0, .int .i64 0, .slice A n p, .slice B n q, .int .i64 c, .int .i64 0] 33)).alloc (.cells #[.int .i64 0, .complex .f32 0 0, .complex .f32 0 0, .float .f32 0, .slice none 0 0, .int .i64 0, .int .i64 0, .slice none 0 0, .slice none 0 0, .int .i64 0, .int .i64 0] 33)) = w0 at *
  have c0 := X.out.cells
  have HG0 := Lib.hid (HG.out.span HS.out (.inl (Nat.le_refl _)))
  go_region_with (first
    | (go_at_call 41; go_loud ((refine (copyRing_nil _).mono ?_; rintro _ w1 ⟨rfl, s1'⟩; have SS1 : Hid (Span 0 0 w0 w1) := (by first | exact s1' | exact s1'.undrawn' | exact Span.undrawn' (n := 1) s1'); have X1 := Lib.hid (X.out.keep SS1.out); have Y1 := Lib.hid (Y.out.keep SS1.out); have G1 := Lib.hid (HG0.out.keepS SS1.out); have c1 := X1.out.cells; clear s1')))
    | (go_at_call 16; go_loud ((refine (copyTable_any t o lo hi _ _ (by first | exact G1.out | exact G1.out.drewS _) HT.out HL.out).mono ?_; rintro _ w2 ⟨v2, rfl, h2, s2'⟩; obtain ⟨A2, p2, B2, q2, rfl⟩ := h2.form; rw [← HN.out, ← HN2.out] at h2 ⊢; have SS2 : Hid (Span 0 0 w1 w2) := (by first | exact s2' | exact s2'.undrawn' | exact Span.undrawn' (n := 1) s2'); have X2 := Lib.hid (X1.out.keep SS2.out); have Y2 := Lib.hid (Y1.out.keep SS2.out); have H2 : Hid (HasTab true w1.heap.size w2.heap.size w2 (.agg #[.slice A2 n p2, .slice B2 n q2]) t) := h2; have c2 := X2.out.cells; have g2 := X2.out.thaw; clear s2' h2))))
  all_goals
    have X3 := (((((X2.out.set 4 (.slice none 0 0) (by simp)).set 5 (.int .i64 0) (by simp)).set 6 (.int .i64 0) (by simp)).set 7 (.slice A2 n p2) (by simp)).set 8 (.slice B2 n q2) (by simp))
    have X3 : Bx w.heap.size #[.int .i64 6, .complex .f32 0 0, .complex .f32 0 0, .float .f32 0, .slice none 0 0, .int .i64 0, .int .i64 0, .slice A2 n p2, .slice B2 n q2, .int .i64 c, .int .i64 0] (((((w2.setCell ⟨w.heap.size, 4, none⟩ (.slice none 0 0)).setCell ⟨w.heap.size, 5, none⟩ (.int .i64 0)).setCell ⟨w.heap.size, 6, none⟩ (.int .i64 0)).setCell ⟨w.heap.size, 7, none⟩ (.slice A2 n p2)).setCell ⟨w.heap.size, 8, none⟩ (.slice B2 n q2)) := by simpa using X3
    have Y3 := (((((Y2.out.other (a := ⟨w.heap.size, 4, none⟩) (by simp) (.slice none 0 0)).other (a := ⟨w.heap.size, 5, none⟩) (by simp) (.int .i64 0)).other (a := ⟨w.heap.size, 6, none⟩) (by simp) (.int .i64 0)).other (a := ⟨w.heap.size, 7, none⟩) (by simp) (.slice A2 n p2)).other (a := ⟨w.heap.size, 8, none⟩) (by simp) (.slice B2 n q2))
    have S3 := (((((((HS.out.trans SS1.out).trans SS2.out).setCell (p := ⟨w.heap.size, 4, none⟩) (.inr (Nat.le_refl _)) (.slice none 0 0)).setCell (p := ⟨w.heap.size, 5, none⟩) (.inr (Nat.le_refl _)) (.int .i64 0)).setCell (p := ⟨w.heap.size, 6, none⟩) (.inr (Nat.le_refl _)) (.int .i64 0)).setCell (p := ⟨w.heap.size, 7, none⟩) (.inr (Nat.le_refl _)) (.slice A2 n p2)).setCell (p := ⟨w.heap.size, 8, none⟩) (.inr (Nat.le_refl _)) (.slice B2 n q2))
    have T3 := ((((((Span.refl w.heap.size (w.heap.size + 2) w2).setCell (p := ⟨w.heap.size, 4, none⟩) (.inl (by simp)) (.slice none 0 0)).setCell (p := ⟨w.heap.size, 5, none⟩) (.inl (by simp)) (.int .i64 0)).setCell (p := ⟨w.heap.size, 6, none⟩) (.inl (by simp)) (.int .i64 0)).setCell (p := ⟨w.heap.size, 7, none⟩) (.inl (by simp)) (.slice A2 n p2)).setCell (p := ⟨w.heap.size, 8, none⟩) (.inl (by simp)) (.slice B2 n q2))
    have hw := HW.out
    have hw1 := SS1.out.size
    have hw2 := SS2.out.size
    have H3 := Lib.hid (H2.out.span T3 (by omega))
    have Z3 : Hid (w2.heap.size ≤ (((((w2.setCell ⟨w.heap.size, 4, none⟩ (.slice none 0 0)).setCell ⟨w.heap.size, 5, none⟩ (.int .i64 0)).setCell ⟨w.heap.size, 6, none⟩ (.int .i64 0)).setCell ⟨w.heap.size, 7, none⟩ (.slice A2 n p2)).setCell ⟨w.heap.size, 8, none⟩ (.slice B2 n q2)).heap.size) := by unfold Hid; simp [World.setCell]
    have ZW : Hid (w.heap.size + 2 ≤ w1.heap.size) := by unfold Hid; omega
    clear c2 g2 hw hw1 hw2 T3
    generalize (((((w2.setCell ⟨w.heap.size, 4, none⟩ (.slice none 0 0)).setCell ⟨w.heap.size, 5, none⟩ (.int .i64 0)).setCell ⟨w.heap.size, 6, none⟩ (.int .i64 0)).setCell ⟨w.heap.size, 7, none⟩ (.slice A2 n p2)).setCell ⟨w.heap.size, 8, none⟩ (.slice B2 n q2)) = w5 at *
    have cx := X3.cells
    have cy := Y3.cells
    have fy := Y3.thaw
    have YS := Lib.hid (Y3.set11 (.int .i64 6) (.complex .f32 0 0) (.complex .f32 0 0) (.float .f32 0) (.slice none 0 0) (.int .i64 0) (.int .i64 0) (.slice A2 n p2) (.slice B2 n q2) (.int .i64 c) (.int .i64 0))
    have S4 := Lib.hid S3
    clear X3 Y3 S3
    go_wp2_with fail
    have d1 := YS.out.cells
    have hw := ZW.out
    have T4 := (Span.refl (w.heap.size + 1) (w.heap.size + 2) w5).put11 (b := w.heap.size + 1) (by omega) (.int .i64 6) (.complex .f32 0 0) (.complex .f32 0 0) (.float .f32 0) (.slice none 0 0) (.int .i64 0) (.int .i64 0) (.slice A2 n p2) (.slice B2 n q2) (.int .i64 c) (.int .i64 0)
    refine bodyPost_ret (v := .agg #[.int .i64 6, .complex .f32 0 0, .complex .f32 0 0, .float .f32 0, .slice none 0 0, .int .i64 0, .int .i64 0, .slice A2 n p2, .slice B2 n q2, .int .i64 c, .int .i64 0]) (by simp [results, Tryz.results32, go_sem, d1]) rfl ⟨A2, p2, B2, q2, rfl, ?_, S4.out.set11 (by omega) _ _ _ _ _ _ _ _ _ _ _⟩
    have z3 := Z3.out
    exact (H3.out.span T4 (by omega)).weak (by omega) (.inl (Nat.le_trans z3 T4.size))

/-- The unit of a valid slicer; its table lies below it. -/
def UnitS (t : Tab) (n : Nat) (c : Int) (w : World) (e : Ending) (w' : World) : Prop :=
  ∃ b A p B q, e = .returned (.iface 92 (.pointer (some ⟨b, 0, none⟩))) ∧ Bx b #[.slice A n p, .slice B n q, .int .i64 c] w' ∧ w.heap.size ≤ b ∧ HasTab true w.heap.size b w' (.agg #[.slice A n p, .slice B n q]) t ∧ Span 0 0 w w'

set_option maxRecDepth 100000 in
set_option maxHeartbeats 4000000 in
theorem validUnit_slicer (t : Tab) (hv : Valid t) (A B : Option Addr) (n p q : Nat) (c : Int) (hn : n = t.1.length) (o : Bool) (lo hi : Nat) (w : World) (hs : HasTab o lo hi w (.agg #[.slice A n p, .slice B n q]) t) : Calls Tryz.prog 18 #[.agg #[.int .i64 6, .complex .f32 0 0, .complex .f32 0 0, .float .f32 0, .slice none 0 0, .int .i64 0, .int .i64 0, .slice A n p, .slice B n q, .int .i64 c, .int .i64 0]] w (UnitS t n c w) := by
  have HI := Lib.hid (fun w h => isModule_slicer t hv A B n p q c o lo hi w h)
  have HC := Lib.hid (fun w h => copyModule_slicer t n p q c A B hn hv.len (by have := hv.most; omega) o lo hi w h)
  have HG := Lib.hid hs
  clear hn hv hs
  go_enter Tryz.func18, Tryz.ntmps18
  go_wp2_with fail
  refine (HI.out _ (HG.out.allocS _)).mono ?_
  rintro _ w1 ⟨rfl, s1'⟩
  have B0 := (Bx.new w #[.int .i64 6, .complex .f32 0 0, .complex .f32 0 0, .float .f32 0, .slice none 0 0, .int .i64 0, .int .i64 0, .slice A n p, .slice B n q, .int .i64 c, .int .i64 0] 33).keep s1'
  have S1 := Lib.hid (((Span.refl 0 0 w).alloc (.cells #[.int .i64 6, .complex .f32 0 0, .complex .f32 0 0, .float .f32 0, .slice none 0 0, .int .i64 0, .int .i64 0, .slice A n p, .slice B n q, .int .i64 c, .int .i64 0] 33)).trans s1')
  have c1 := B0.cells
  clear s1' B0
  go_wp2_with fail
  refine (HC.out _ (HG.out.span S1.out (.inl (Nat.le_refl _)))).mono ?_
  rintro _ w2 ⟨A2, p2, B2, q2, rfl, h2, s2'⟩
  have S2 := Lib.hid (S1.out.trans s2')
  have H2 := Lib.hid h2
  have z1 := Lib.hid S1.out.size
  clear s2' h2
  go_wp2_with fail
  refine (unitOf_slicer A2 B2 n p2 q2 c _).mono ?_
  rintro _ w3 ⟨b, rfl, x3, h3, s3'⟩
  have X3 := Lib.hid x3
  have S3 := Lib.hid (S2.out.trans s3')
  have H3 := Lib.hid ((H2.out.span s3' (.inl (Nat.le_refl _))).weak z1.out (.inl h3))
  have z2 := S2.out.size
  have H4 := Lib.hid (show w.heap.size ≤ b by omega)
  clear x3 s3' h3 z2
  go_wp2_with fail
  go_ret
  exact ⟨b, A2, p2, B2, q2, rfl, X3.out, H4.out, H3.out, S3.out⟩
end Go.Proofs.YtfafkdpefdpnkaaGreat
