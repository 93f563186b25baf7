/- Slicers are made. -/
import Derived.Test.YtfafkdpefdpnkaaGreatJq38
import Derived.Outline
namespace Go.Proofs.YtfafkdpefdpnkaaGreat
open Go.RowKit

set_option maxRecDepth 100000 in
set_option maxHeartbeats 4000000 in
theorem onlyValid_slicer (t : Tab) (hv : Valid t) (A B : Option Addr) (n p q : Nat) (o : Bool) (lo hi : Nat) (w : World) (hs : HasTab o lo hi w (.agg #[.slice A n p, .slice B n q]) t) : Calls Tryz.prog 15 #[.agg #[.int .i64 6, .complex .f32 0 0, .complex .f32 0 0, .float .f32 0, .slice none 0 0, .int .i64 0, .int .i64 0, .slice A n p, .slice B n q, .int .i64 0, .int .i64 0]] w fun e w' => e = .returned (.tuple #[.agg #[.int .i64 6, .complex .f32 0 0, .complex .f32 0 0, .float .f32 0, .slice none 0 0, .int .i64 0, .int .i64 0, .slice A n p, .slice B n q, .int .i64 0, .int .i64 0], .bool true]) ∧ Span 0 0 w w' := by
  have HI := Lib.hid (fun w h => isModule_slicer t hv A B n p q 0 o lo hi w h)
  have HG := Lib.hid hs
  clear hv hs
  go_enter Tryz.func15, Tryz.ntmps15
  go_wp2_with fail
  refine (HI.out _ ((HG.out.allocS _).allocS _)).mono ?_
  rintro _ w1 ⟨rfl, s1⟩
  have X := ((Bx.new w #[.int .i64 6, .complex .f32 0 0, .complex .f32 0 0, .float .f32 0, .slice none 0 0, .int .i64 0, .int .i64 0, .slice A n p, .slice B n q, .int .i64 0, .int .i64 0] 33).alloc (.cells #[.int .i64 0, .complex .f32 0 0, .complex .f32 0 0, .float .f32 0, .slice none 0 0, .int .i64 0, .int .i64 0, .slice none 0 0, .slice none 0 0, .int .i64 0, .int .i64 0] 33)).keep s1
  have Y := (Bx.new (w.alloc (.cells #[.int .i64 6, .complex .f32 0 0, .complex .f32 0 0, .float .f32 0, .slice none 0 0, .int .i64 0, .int .i64 0, .slice A n p, .slice B n q, .int .i64 0, .int .i64 0] 33)) #[.int .i64 0, .complex .f32 0 0, .complex .f32 0 0, .float .f32 0, .slice none 0 0, .int .i64 0, .int .i64 0, .slice none 0 0, .slice none 0 0, .int .i64 0, .int .i64 0] 33).keep s1
  rw [show (w.alloc (.cells #[.int .i64 6, .complex .f32 0 0, .complex .f32 0 0, .float .f32 0, .slice none 0 0, .int .i64 0, .int .i64 0, .slice A n p, .slice B n q, .int .i64 0, .int .i64 0] 33)).heap.size = w.heap.size + 1 by simp] at Y
  have S1 := Lib.hid ((((Span.refl 0 0 w).alloc (.cells #[.int .i64 6, .complex .f32 0 0, .complex .f32 0 0, .float .f32 0, .slice none 0 0, .int .i64 0, .int .i64 0, .slice A n p, .slice B n q, .int .i64 0, .int .i64 0] 33)).alloc (.cells #[.int .i64 0, .complex .f32 0 0, .complex .f32 0 0, .float .f32 0, .slice none 0 0, .int .i64 0, .int .i64 0, .slice none 0 0, .slice none 0 0, .int .i64 0, .int .i64 0] 33)).trans s1)
  have cx := X.cells
  have cy := Y.cells
  have fy := Y.thaw
  have YS := Lib.hid (Y.set11 (.int .i64 6) (.complex .f32 0 0) (.complex .f32 0 0) (.float .f32 0) (.slice none 0 0) (.int .i64 0) (.int .i64 0) (.slice A n p) (.slice B n q) (.int .i64 0) (.int .i64 0))
  clear s1 X Y
  go_wp2_with fail
  have d1 := YS.out.cells
  exact bodyPost_ret (v := .tuple #[.agg #[.int .i64 6, .complex .f32 0 0, .complex .f32 0 0, .float .f32 0, .slice none 0 0, .int .i64 0, .int .i64 0, .slice A n p, .slice B n q, .int .i64 0, .int .i64 0], .bool true]) (by simp [results, Tryz.results15, go_sem, d1]) rfl ⟨rfl, S1.out.set11 (by omega) _ _ _ _ _ _ _ _ _ _ _⟩

/-- A new slicer, with its own table. -/
def NewS (t : Tab) (n : Nat) (w : World) (e : Ending) (w' : World) : Prop :=
  ∃ A p B q, e = .returned (.tuple #[.agg #[.int .i64 6, .complex .f32 0 0, .complex .f32 0 0, .float .f32 0, .slice none 0 0, .int .i64 0, .int .i64 0, .slice A n p, .slice B n q, .int .i64 0, .int .i64 0], .bool true]) ∧ HasTab true w.heap.size w'.heap.size w' (.agg #[.slice A n p, .slice B n q]) t ∧ Span 0 0 w w'

set_option maxRecDepth 100000 in
set_option maxHeartbeats 4000000 in
theorem newSlicer_any (t : Tab) (hv : Valid t) (A B : Option Addr) (n p q : Nat) (hn : n = t.1.length) (o : Bool) (lo hi : Nat) (w : World) (hs : HasTab o lo hi w (.agg #[.slice A n p, .slice B n q]) t) : Calls Tryz.prog 5 #[.agg #[.slice A n p, .slice B n q]] w (NewS t n w) := by
  have HC := Lib.hid (fun w h => copyTable_any t o lo hi (.agg #[.slice A n p, .slice B n q]) w h hv.len (by have := hv.most; omega))
  have HO := Lib.hid (fun A B p q lo hi w h => onlyValid_slicer t hv A B n p q true lo hi w h)
  have HN := Lib.hid hn
  have HN2 := Lib.hid (hn.trans hv.len.symm)
  have HG := Lib.hid hs
  clear hv hs hn
  go_enter Tryz.func5, Tryz.ntmps5
  go_wp2_with fail
  have W0 := Lib.hid (Bx.new (w.alloc (.cells #[.slice A n p, .slice B n q] 26)) #[.int .i64 0, .complex .f32 0 0, .complex .f32 0 0, .float .f32 0, .slice none 0 0, .int .i64 0, .int .i64 0, .slice none 0 0, .slice none 0 0, .int .i64 0, .int .i64 0] 33)
  rw [show (w.alloc (.cells #[.slice A n p, .slice B n q] 26)).heap.size = w.heap.size + 1 by simp] at W0
  have HS := Lib.hid (((Span.refl 0 0 w).alloc (.cells #[.slice A n p, .slice B n q] 26)).alloc (.cells #[.int .i64 0, .complex .f32 0 0, .complex .f32 0 0, .float .f32 0, .slice none 0 0, .int .i64 0, .int .i64 0, .slice none 0 0, .slice none 0 0, .int .i64 0, .int .i64 0] 33))
  refine (HC.out _ ((HG.out.allocS _).allocS _)).mono ?_
  rintro _ w1 ⟨v1, rfl, h1, s1⟩
  obtain ⟨A1, p1, B1, q1, rfl⟩ := h1.form
  rw [← HN.out, ← HN2.out] at h1 ⊢
  have W1 := Lib.hid (W0.out.keep s1)
  have S1 := Lib.hid (HS.out.trans s1)
  have H1 := Lib.hid h1
  clear h1 s1
  go_wp2_with fail
  refine (HO.out _ _ _ _ _ _ _ H1.out).mono ?_
  rintro _ w2 ⟨rfl, s2⟩
  have Y := W1.out.keep s2
  have S2 := Lib.hid (S1.out.trans s2)
  have z2 := s2.size
  have H2 := Lib.hid ((H1.out.keepS s2).weak (Nat.le_refl _) (hi' := w2.heap.size) (.inl z2))
  have cy := Y.cells
  have fy := Y.thaw
  have YS := Lib.hid (Y.set11 (.int .i64 6) (.complex .f32 0 0) (.complex .f32 0 0) (.float .f32 0) (.slice none 0 0) (.int .i64 0) (.int .i64 0) (.slice A1 n p1) (.slice B1 n q1) (.int .i64 0) (.int .i64 0))
  have HZ := Lib.hid (show w.heap.size + 2 ≤ w1.heap.size by have := W1.out.1; omega)
  clear s2 Y z2
  go_wp2_with fail
  have d1 := YS.out.cells
  have T4 := (Span.refl (w.heap.size + 1) (w.heap.size + 2) w2).put11 (b := w.heap.size + 1) (by omega) (.int .i64 6) (.complex .f32 0 0) (.complex .f32 0 0) (.float .f32 0) (.slice none 0 0) (.int .i64 0) (.int .i64 0) (.slice A1 n p1) (.slice B1 n q1) (.int .i64 0) (.int .i64 0)
  refine bodyPost_ret (v := .tuple #[.agg #[.int .i64 6, .complex .f32 0 0, .complex .f32 0 0, .float .f32 0, .slice none 0 0, .int .i64 0, .int .i64 0, .slice A1 n p1, .slice B1 n q1, .int .i64 0, .int .i64 0], .bool true]) (by simp [results, Tryz.results5, go_sem, d1]) rfl ⟨A1, p1, B1, q1, rfl, ?_, S2.out.set11 (by omega) _ _ _ _ _ _ _ _ _ _ _⟩
  have hz : w.heap.size + 2 ≤ ((w.alloc (.cells #[.slice A n p, .slice B n q] 26)).alloc (.cells #[.int .i64 0, .complex .f32 0 0, .complex .f32 0 0, .float .f32 0, .slice none 0 0, .int .i64 0, .int .i64 0, .slice none 0 0, .slice none 0 0, .int .i64 0, .int .i64 0] 33)).heap.size := by simp
  exact (H2.out.span T4 (.inr (.inr (by simp)))).weak (by omega) (.inl T4.size)
end Go.Proofs.YtfafkdpefdpnkaaGreat
