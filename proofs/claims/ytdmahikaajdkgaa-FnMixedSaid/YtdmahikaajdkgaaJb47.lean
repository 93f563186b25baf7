/- Modules of the kind delay: copies, units of valid ones. -/
import Derived.Test.YtdmahikaajdkgaaJb46
import Derived.Outline
namespace Go.Proofs.Ytdmahikaajdkgaa
open Go.RowKit

/-- A copy of a delay. -/
def CopyD (xs : List Cx) (n : Nat) (a : Int) (w : World) (e : Ending) (w' : World) : Prop :=
  ∃ A p bs, e = .returned (.agg #[.int .i64 4, .complex .f32 0 0, .complex .f32 0 0, .float .f32 0, .slice A n p, .int .i64 a, .int .i64 (n : Int), .slice none 0 0, .slice none 0 0, .int .i64 0, .int .i64 0]) ∧ HasS cxV true bs w.heap.size w'.heap.size w' (.slice A n p) xs ∧ Span 0 0 w w'

set_option maxRecDepth 100000 in
set_option maxHeartbeats 8000000 in
theorem copyModule_delay (xs : List Cx) (n p : Nat) (a : Int) (A : Option Addr) (hn : n = xs.length) (hl : xs.length ≤ 4194304) (o : Bool) (bs lo hi : Nat) (w : World) (hs : HasS cxV o bs lo hi w (.slice A n p) xs) :
    Calls Try.prog 72 #[.agg #[.int .i64 4, .complex .f32 0 0, .complex .f32 0 0, .float .f32 0, .slice A n p, .int .i64 a, .int .i64 (n : Int), .slice none 0 0, .slice none 0 0, .int .i64 0, .int .i64 0]] w (CopyD xs n a w) := by
  have HG := Lib.hid hs
  have HN := Lib.hid hn
  have HL := Lib.hid hl
  clear hs hn hl
  go_enter Try.func72, Try.ntmps72
  go_wp2_with fail
  have X := Lib.hid ((Bx.new w #[.int .i64 4, .complex .f32 0 0, .complex .f32 0 0, .float .f32 0, .slice A n p, .int .i64 a, .int .i64 (n : Int), .slice none 0 0, .slice none 0 0, .int .i64 0, .int .i64 0] 35).alloc (.cells #[.int .i64 0, .complex .f32 0 0, .complex .f32 0 0, .float .f32 0, .slice none 0 0, .int .i64 0, .int .i64 0, .slice none 0 0, .slice none 0 0, .int .i64 0, .int .i64 0] 35))
  have Y := Lib.hid (Bx.new (w.alloc (.cells #[.int .i64 4, .complex .f32 0 0, .complex .f32 0 0, .float .f32 0, .slice A n p, .int .i64 a, .int .i64 (n : Int), .slice none 0 0, .slice none 0 0, .int .i64 0, .int .i64 0] 35)) #[.int .i64 0, .complex .f32 0 0, .complex .f32 0 0, .float .f32 0, .slice none 0 0, .int .i64 0, .int .i64 0, .slice none 0 0, .slice none 0 0, .int .i64 0, .int .i64 0] 35)
  rw [show (w.alloc (.cells #[.int .i64 4, .complex .f32 0 0, .complex .f32 0 0, .float .f32 0, .slice A n p, .int .i64 a, .int .i64 (n : Int), .slice none 0 0, .slice none 0 0, .int .i64 0, .int .i64 0] 35)).heap.size = w.heap.size + 1 by simp] at Y
  have HS := Lib.hid (((Span.refl 0 0 w).alloc (.cells #[.int .i64 4, .complex .f32 0 0, .complex .f32 0 0, .float .f32 0, .slice A n p, .int .i64 a, .int .i64 (n : Int), .slice none 0 0, .slice none 0 0, .int .i64 0, .int .i64 0] 35)).alloc (.cells #[.int .i64 0, .complex .f32 0 0, .complex .f32 0 0, .float .f32 0, .slice none 0 0, .int .i64 0, .int .i64 0, .slice none 0 0, .slice none 0 0, .int .i64 0, .int .i64 0] 35))
  have HW : Hid (((w.alloc (.cells #[.int .i64 4, .complex .f32 0 0, .complex .f32 0 0, .float .f32 0, .slice A n p, .int .i64 a, .int .i64 (n : Int), .slice none 0 0, .slice none 0 0, .int .i64 0, .int .i64 0] 35)).alloc (.cells #[.int .i64 0, .complex .f32 0 0, .complex .f32 0 0, .float .f32 0, .slice none 0 0, .int .i64 0, .int .i64 0, .slice none 0 0, .slice none 0 0, .int .i64 0, .int .i64 0] 35)).heap.size = w.heap.size + 2) := by unfold Hid; simp
  generalize (w.alloc (.cells #[.int .i64 4, .complex .f32 0 0, .complex .f32 0 0, .float .f32 0, .slice A n p, .int .i64 a, .int .i64 (n : Int), .slice none 0 0, .slice none 0 0, .int .i64 0, .int .i64 0] 35)).alloc (.cells #[.int .i64 0, .complex .f32 0 0, .complex .f32 0 0, .float .f32 0, .slice none 0 0, .int .i64 0, .int .i64 0, .slice none 0 0, .slice none 0 0, .int .i64 0, .int .i64 0] 35) = w0 at *
  have c0 := X.out.cells
  have HG0 := Lib.hid (HG.out.span HS.out (.inl (Nat.le_refl _)))
  go_region_with (first
    | (go_at_call 54; go_loud ((refine (copyRing_any xs _ _ o bs lo hi _ _ (HG0.out.drewN _) HL.out).mono ?_; rintro _ w1 ⟨v1, b1, rfl, h1, s1'⟩; obtain ⟨A1, q1, rfl, _⟩ := id h1; rw [← HN.out] at h1 ⊢; have SS1 : Hid (Span 0 0 w0 w1) := (by first | exact s1' | exact s1'.undrawn' | exact Span.undrawn' (n := 1) s1'); have H1 : Hid (HasS cxV true b1 w0.heap.size w1.heap.size w1 (.slice A1 n q1) xs) := h1; have X1 := Lib.hid (X.out.keep SS1.out); have Y1 := Lib.hid (Y.out.keep SS1.out); have c1 := X1.out.cells; clear s1' h1)))
    | (go_at_call 97; go_loud ((refine (copyTable_nil _).mono ?_; rintro _ w2 ⟨rfl, s2'⟩; have SS2 : Hid (Span 0 0 w1 w2) := (by first | exact s2' | exact s2'.undrawn' | exact Span.undrawn' (n := 1) s2'); have X2 := Lib.hid (X1.out.keep SS2.out); have Y2 := Lib.hid (Y1.out.keep SS2.out); have H2 := Lib.hid (H1.out.span SS2.out (.inl (Nat.le_refl _))); have c2 := X2.out.cells; have g2 := X2.out.thaw; clear s2'))))
  all_goals
    have X3 := (((((X2.out.set 4 (.slice A1 n q1) (by simp)).set 5 (.int .i64 a) (by simp)).set 6 (.int .i64 (n : Int)) (by simp)).set 7 (.slice none 0 0) (by simp)).set 8 (.slice none 0 0) (by simp))
    have X3 : Bx w.heap.size #[.int .i64 4, .complex .f32 0 0, .complex .f32 0 0, .float .f32 0, (.slice A1 n q1), .int .i64 a, .int .i64 (n : Int), .slice none 0 0, .slice none 0 0, .int .i64 0, .int .i64 0] (((((w2.setCell ⟨w.heap.size, 4, none⟩ (.slice A1 n q1)).setCell ⟨w.heap.size, 5, none⟩ (.int .i64 a)).setCell ⟨w.heap.size, 6, none⟩ (.int .i64 (n : Int))).setCell ⟨w.heap.size, 7, none⟩ (.slice none 0 0)).setCell ⟨w.heap.size, 8, none⟩ (.slice none 0 0)) := by simpa using X3
    have Y3 := (((((Y2.out.other (a := ⟨w.heap.size, 4, none⟩) (by simp) (.slice A1 n q1)).other (a := ⟨w.heap.size, 5, none⟩) (by simp) (.int .i64 a)).other (a := ⟨w.heap.size, 6, none⟩) (by simp) (.int .i64 (n : Int))).other (a := ⟨w.heap.size, 7, none⟩) (by simp) (.slice none 0 0)).other (a := ⟨w.heap.size, 8, none⟩) (by simp) (.slice none 0 0))
    have S3 := (((((((HS.out.trans SS1.out).trans SS2.out).setCell (p := ⟨w.heap.size, 4, none⟩) (.inr (Nat.le_refl _)) (.slice A1 n q1)).setCell (p := ⟨w.heap.size, 5, none⟩) (.inr (Nat.le_refl _)) (.int .i64 a)).setCell (p := ⟨w.heap.size, 6, none⟩) (.inr (Nat.le_refl _)) (.int .i64 (n : Int))).setCell (p := ⟨w.heap.size, 7, none⟩) (.inr (Nat.le_refl _)) (.slice none 0 0)).setCell (p := ⟨w.heap.size, 8, none⟩) (.inr (Nat.le_refl _)) (.slice none 0 0))
    have T3 := ((((((Span.refl w.heap.size (w.heap.size + 2) w2).setCell (p := ⟨w.heap.size, 4, none⟩) (.inl (by simp)) (.slice A1 n q1)).setCell (p := ⟨w.heap.size, 5, none⟩) (.inl (by simp)) (.int .i64 a)).setCell (p := ⟨w.heap.size, 6, none⟩) (.inl (by simp)) (.int .i64 (n : Int))).setCell (p := ⟨w.heap.size, 7, none⟩) (.inl (by simp)) (.slice none 0 0)).setCell (p := ⟨w.heap.size, 8, none⟩) (.inl (by simp)) (.slice none 0 0))
    have hw := HW.out
    have H3 := Lib.hid (H2.out.span T3 (by omega))
    have Z3 : Hid (w1.heap.size ≤ (((((w2.setCell ⟨w.heap.size, 4, none⟩ (.slice A1 n q1)).setCell ⟨w.heap.size, 5, none⟩ (.int .i64 a)).setCell ⟨w.heap.size, 6, none⟩ (.int .i64 (n : Int))).setCell ⟨w.heap.size, 7, none⟩ (.slice none 0 0)).setCell ⟨w.heap.size, 8, none⟩ (.slice none 0 0)).heap.size) := by have := SS2.out.size; unfold Hid; simpa [World.setCell] using this
    clear c2 g2 hw T3
    generalize (((((w2.setCell ⟨w.heap.size, 4, none⟩ (.slice A1 n q1)).setCell ⟨w.heap.size, 5, none⟩ (.int .i64 a)).setCell ⟨w.heap.size, 6, none⟩ (.int .i64 (n : Int))).setCell ⟨w.heap.size, 7, none⟩ (.slice none 0 0)).setCell ⟨w.heap.size, 8, none⟩ (.slice none 0 0)) = w5 at *
    have cx := X3.cells
    have cy := Y3.cells
    have fy := Y3.thaw
    have YS := Lib.hid (Y3.set11 (.int .i64 4) (.complex .f32 0 0) (.complex .f32 0 0) (.float .f32 0) (.slice A1 n q1) (.int .i64 a) (.int .i64 (n : Int)) (.slice none 0 0) (.slice none 0 0) (.int .i64 0) (.int .i64 0))
    have S4 := Lib.hid S3
    clear X3 Y3 S3
    go_wp2_with fail
    have d1 := YS.out.cells
    have hw := HW.out
    have T4 := (Span.refl (w.heap.size + 1) (w.heap.size + 2) w5).put11 (b := w.heap.size + 1) (by omega) (.int .i64 4) (.complex .f32 0 0) (.complex .f32 0 0) (.float .f32 0) (.slice A1 n q1) (.int .i64 a) (.int .i64 (n : Int)) (.slice none 0 0) (.slice none 0 0) (.int .i64 0) (.int .i64 0)
    refine bodyPost_ret (v := .agg #[.int .i64 4, .complex .f32 0 0, .complex .f32 0 0, .float .f32 0, (.slice A1 n q1), .int .i64 a, .int .i64 (n : Int), .slice none 0 0, .slice none 0 0, .int .i64 0, .int .i64 0]) (by simp [results, Try.results72, go_sem, d1]) rfl ⟨A1, q1, b1, rfl, ?_, S4.out.set11 (by omega) _ _ _ _ _ _ _ _ _ _ _⟩
    have z3 := Z3.out
    exact (H3.out.span T4 (by omega)).weak (by omega) (.inl (Nat.le_trans z3 T4.size))

/-- The unit of a valid delay. -/
def UnitD (xs : List Cx) (n : Nat) (a : Int) (w : World) (e : Ending) (w' : World) : Prop :=
  ∃ b A p bs, e = .returned (.iface 159 (.pointer (some ⟨b, 0, none⟩))) ∧ Bx b #[.slice A n p, .int .i64 a, .int .i64 (n : Int)] w' ∧ w.heap.size ≤ b ∧ HasS cxV true bs w.heap.size w'.heap.size w' (.slice A n p) xs ∧ Span 0 0 w w'

set_option maxRecDepth 100000 in
set_option maxHeartbeats 4000000 in
theorem validUnit_delay (xs : List Cx) (a n p : Nat) (A : Option Addr) (hn : n = xs.length) (hv : VR (xs, a, n)) (o : Bool) (bs lo hi : Nat) (w : World) (hs : HasS cxV o bs lo hi w (.slice A n p) xs) : Calls Try.prog 44 #[.agg #[.int .i64 4, .complex .f32 0 0, .complex .f32 0 0, .float .f32 0, .slice A n p, .int .i64 (a : Int), .int .i64 (n : Int), .slice none 0 0, .slice none 0 0, .int .i64 0, .int .i64 0]] w (UnitD xs n (a : Int) w) := by
  have HI := Lib.hid (fun w h => isModule_delay xs a n p A hn hv o bs lo hi w h)
  have HC := Lib.hid (fun w h => copyModule_delay xs n p (a : Int) A hn (show xs.length ≤ 4194304 by have := hv.most; simp only at this; omega) o bs lo hi w h)
  have HG := Lib.hid hs
  clear hn hv hs
  go_enter Try.func44, Try.ntmps44
  go_wp2_with fail
  refine (HI.out _ (HG.out.alloc _)).mono ?_
  rintro _ w1 ⟨rfl, s1'⟩
  have B := (Bx.new w #[.int .i64 4, .complex .f32 0 0, .complex .f32 0 0, .float .f32 0, .slice A n p, .int .i64 (a : Int), .int .i64 (n : Int), .slice none 0 0, .slice none 0 0, .int .i64 0, .int .i64 0] 35).keep s1'
  have S1 := Lib.hid (((Span.refl 0 0 w).alloc (.cells #[.int .i64 4, .complex .f32 0 0, .complex .f32 0 0, .float .f32 0, .slice A n p, .int .i64 (a : Int), .int .i64 (n : Int), .slice none 0 0, .slice none 0 0, .int .i64 0, .int .i64 0] 35)).trans s1')
  have c1 := B.cells
  clear s1' B
  go_wp2_with fail
  refine (HC.out _ (HG.out.span S1.out (.inl (Nat.le_refl _)))).mono ?_
  rintro _ w2 ⟨A2, p2, b2, rfl, h2, s2'⟩
  have S2 := Lib.hid (S1.out.trans s2')
  have H2 := Lib.hid h2
  have z1 := Lib.hid S1.out.size
  clear s2' h2
  go_wp2_with fail
  refine (unitOf_delay A2 n p2 _ _).mono ?_
  rintro _ w3 ⟨b, rfl, x3, h3, s3'⟩
  have X3 := Lib.hid x3
  have S3 := Lib.hid (S2.out.trans s3')
  have H3 := Lib.hid ((H2.out.span s3' (.inl (Nat.le_refl _))).weak z1.out (.inl s3'.size))
  have z2 := S2.out.size
  have H4 := Lib.hid (show w.heap.size ≤ b by omega)
  clear x3 s3' h3 z2
  go_wp2_with fail
  go_ret
  exact ⟨b, A2, p2, b2, rfl, X3.out, H4.out, H3.out, S3.out⟩
end Go.Proofs.Ytdmahikaajdkgaa
