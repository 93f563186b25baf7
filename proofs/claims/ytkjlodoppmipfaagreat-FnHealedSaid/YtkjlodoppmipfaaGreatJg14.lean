/- Any module is copied, with its ring and its table. -/
import Derived.Test.YtkjlodoppmipfaaGreatJg11
import Derived.Test.YtkjlodoppmipfaaGreatJg13
import Derived.Deep.RegionWith
import Derived.Outline
namespace Go.Proofs.YtkjlodoppmipfaaGreat
open Go.RowKit

/-- A ring with a store of its own. -/
def GivesRgK (xs : List Cx) (i j : Int) (w : World) (e : Ending) (w' : World) : Prop :=
  ∃ v b, e = .returned (.agg #[v, .int .i64 i, .int .i64 j]) ∧ HasS cxV true b w.heap.size w'.heap.size w' v xs ∧ Span 0 0 w w'

set_option maxRecDepth 100000 in
set_option maxHeartbeats 4000000 in
theorem copyRing_anyK (xs : List Cx) (i j : Int) (o : Bool) (b lo hi : Nat) (v : Value) (w : World) (hx : HasS cxV o b lo hi w v xs) (hl : xs.length ≤ 4194304) :
    Calls Tryz.prog 109 #[.agg #[v, .int .i64 i, .int .i64 j]] w (GivesRgK xs i j w) := by
  have HX := Lib.hid hx
  obtain ⟨A, p, rfl, hp, hc⟩ := hx
  obtain ⟨n, hn⟩ : ∃ n, n = xs.length := ⟨_, rfl⟩
  have HN := Lib.hid hn
  have HL := Lib.hid hl
  rw [← hn] at HX hp hc ⊢
  clear hn hc hp hl
  go_enter Tryz.func109, Tryz.ntmps109
  go_wp2_with fail
  have X := Lib.hid ((Bx.new w #[.slice A n p, .int .i64 i, .int .i64 j] 27).alloc (.cells #[.slice none 0 0, .int .i64 0, .int .i64 0] 27))
  have Y := Lib.hid (Bx.new (w.alloc (.cells #[.slice A n p, .int .i64 i, .int .i64 j] 27)) #[.slice none 0 0, .int .i64 0, .int .i64 0] 27)
  rw [show (w.alloc (.cells #[.slice A n p, .int .i64 i, .int .i64 j] 27)).heap.size = w.heap.size + 1 by simp] at Y
  have HS := Lib.hid (((Span.refl 0 0 w).alloc (.cells #[.slice A n p, .int .i64 i, .int .i64 j] 27)).alloc (.cells #[.slice none 0 0, .int .i64 0, .int .i64 0] 27))
  have HW : Hid (((w.alloc (.cells #[.slice A n p, .int .i64 i, .int .i64 j] 27)).alloc (.cells #[.slice none 0 0, .int .i64 0, .int .i64 0] 27)).heap.size = w.heap.size + 2) := by unfold Hid; simp
  generalize (w.alloc (.cells #[.slice A n p, .int .i64 i, .int .i64 j] 27)).alloc (.cells #[.slice none 0 0, .int .i64 0, .int .i64 0] 27) = w0 at *
  have c0 := X.out.cells
  go_region_with (first
    | (go_at_call 23; go_loud ((refine (cloneC_any xs o b lo hi _ _ ((HX.out.span HS.out (.inl (Nat.le_refl _))).drewN _) HL.out).mono ?_; rintro _ w1 ⟨v1, c1, rfl, h1, s1⟩; obtain ⟨A1, q1, rfl, _⟩ := id h1; rw [← HN.out] at h1 ⊢; have X1 := Lib.hid ((X.out.drewN 1).keep s1); have Y1 := Lib.hid ((Y.out.drewN 1).keep s1); have S1 : Hid (Span 0 0 w w1) := (by first | exact HS.out.trans s1 | exact HS.out.trans s1.undrawn' | exact HS.out.trans (Span.undrawn' (n := 1) s1)); have H1 : Hid (HasS cxV true c1 w0.heap.size w1.heap.size w1 (.slice A1 n q1) xs) := h1; have Z1 : Hid (w0.heap.size ≤ w1.heap.size) := s1.size; have c1' := X1.out.cells; have e1' := Y1.out.cells; have f1' := Y1.out.thaw; clear h1 s1))))
  all_goals
    go_wp2_with fail
    have YS := Y1.out.set3 (.slice A1 n q1) (.int .i64 i) (.int .i64 j)
    have d1 := YS.cells
    have hw := HW.out
    have hz := Z1.out
    refine bodyPost_ret (v := .agg #[.slice A1 n q1, .int .i64 i, .int .i64 j]) (by simp [results, Tryz.results109, go_sem, d1]) rfl ⟨_, c1, rfl, ?_, S1.out.set3 (by omega) _ _ _⟩
    have P1 := (Span.refl (w.heap.size + 1) (w.heap.size + 2) w1).put3 (b := w.heap.size + 1) ⟨Nat.le_refl _, Nat.lt_succ_self _⟩ (.slice A1 n q1) (.int .i64 i) (.int .i64 j)
    have g := (H1.out.span P1 (by omega)).weak (lo' := w.heap.size) (hi' := w1.heap.size) (by omega) (.inl (Nat.le_refl _))
    simpa [World.setCell] using g


theorem HasTab.keepK {o : Bool} {lo hi : Nat} {w w' : World} {v : Value} {t : Tab} (h : HasTab o lo hi w v t) (s : Span 0 0 w w') : HasTab o lo hi w' v t := h.span s (.inl (Nat.le_refl _))

/-- What a module's slices hold: its ring's store, its table. -/
def Holds (o : Bool) (bs lo mid hi : Nat) (w : World) (m : Mw) (xs : List Cx) (t : Tab) : Prop :=
  HasS cxV o bs lo mid w (.slice m.S m.sn m.sp) xs ∧ HasTab o mid hi w (.agg #[.slice m.P m.pn m.pp, .slice m.L m.ln m.lp]) t
/-- A copy: the same numbers, and slices of its own that hold the same. -/
def CopyM (m : Mw) (xs : List Cx) (t : Tab) (w : World) (e : Ending) (w' : World) : Prop :=
  ∃ S p A q B r bs mid, e = .returned (.agg #[.int .i64 m.k, .complex .f32 m.t1 m.t2, .complex .f32 m.s1 m.s2, .float .f32 m.lv, .slice S m.sn p, .int .i64 m.a, .int .i64 m.cnt, .slice A m.pn q, .slice B m.ln r, .int .i64 m.c, .int .i64 m.f]) ∧ w.heap.size ≤ mid ∧ mid ≤ w'.heap.size ∧ Holds true bs w.heap.size mid w'.heap.size w' { m with S := S, sp := p, P := A, pp := q, L := B, lp := r } xs t ∧ Span 0 0 w w'

set_option maxRecDepth 100000 in
set_option maxHeartbeats 8000000 in
theorem copyModule_any (m : Mw) (xs : List Cx) (t : Tab) (hl : xs.length ≤ 4194304) (ht : t.2.length = t.1.length) (hm : t.1.length ≤ 4194304) (o : Bool) (bs lo mid hi : Nat) (w : World) (hh : Holds o bs lo mid hi w m xs t) :
    Calls Tryz.prog 80 #[.agg #[.int .i64 m.k, .complex .f32 m.t1 m.t2, .complex .f32 m.s1 m.s2, .float .f32 m.lv, .slice m.S m.sn m.sp, .int .i64 m.a, .int .i64 m.cnt, .slice m.P m.pn m.pp, .slice m.L m.ln m.lp, .int .i64 m.c, .int .i64 m.f]] w (CopyM m xs t w) := by
  obtain ⟨k, t1, t2, s1, s2, lv, S, sn, sp, a, cnt, P, pn, pp, L, ln, lp, c, f⟩ := m
  obtain ⟨hs, hx⟩ := hh
  simp only at hs hx ⊢
  have hn : sn = xs.length := by obtain ⟨_, _, e, _⟩ := hs; injection e
  obtain ⟨A', p', B', q', e'⟩ := hx.form
  have hp1 : pn = t.1.length := by injection e' with e'; injection e' with e'; injection e' with e' e2; injection e'
  have hp2 : ln = t.2.length := by injection e' with e'; injection e' with e'; injection e' with _ e'; injection e' with e' e2; injection e'
  have HG := Lib.hid hs
  have HX := Lib.hid hx
  have HN := Lib.hid hn
  have HP1 := Lib.hid hp1
  have HP2 := Lib.hid hp2
  have HL := Lib.hid hl
  have HT := Lib.hid ht
  have HM := Lib.hid hm
  clear hs hx hn hl ht hm hp1 hp2 e'
  go_enter Tryz.func80, Tryz.ntmps80
  go_wp2_with fail
  have X := Lib.hid ((Bx.new w #[.int .i64 k, .complex .f32 t1 t2, .complex .f32 s1 s2, .float .f32 lv, .slice S sn sp, .int .i64 a, .int .i64 cnt, .slice P pn pp, .slice L ln lp, .int .i64 c, .int .i64 f] 32).alloc (.cells #[.int .i64 0, .complex .f32 0 0, .complex .f32 0 0, .float .f32 0, .slice none 0 0, .int .i64 0, .int .i64 0, .slice none 0 0, .slice none 0 0, .int .i64 0, .int .i64 0] 32))
  have Y := Lib.hid (Bx.new (w.alloc (.cells #[.int .i64 k, .complex .f32 t1 t2, .complex .f32 s1 s2, .float .f32 lv, .slice S sn sp, .int .i64 a, .int .i64 cnt, .slice P pn pp, .slice L ln lp, .int .i64 c, .int .i64 f] 32)) #[.int .i64 0, .complex .f32 0 0, .complex .f32 0 0, .float .f32 0, .slice none 0 0, .int .i64 0, .int .i64 0, .slice none 0 0, .slice none 0 0, .int .i64 0, .int .i64 0] 32)
  rw [show (w.alloc (.cells #[.int .i64 k, .complex .f32 t1 t2, .complex .f32 s1 s2, .float .f32 lv, .slice S sn sp, .int .i64 a, .int .i64 cnt, .slice P pn pp, .slice L ln lp, .int .i64 c, .int .i64 f] 32)).heap.size = w.heap.size + 1 by simp] at Y
  have HS := Lib.hid (((Span.refl 0 0 w).alloc (.cells #[.int .i64 k, .complex .f32 t1 t2, .complex .f32 s1 s2, .float .f32 lv, .slice S sn sp, .int .i64 a, .int .i64 cnt, .slice P pn pp, .slice L ln lp, .int .i64 c, .int .i64 f] 32)).alloc (.cells #[.int .i64 0, .complex .f32 0 0, .complex .f32 0 0, .float .f32 0, .slice none 0 0, .int .i64 0, .int .i64 0, .slice none 0 0, .slice none 0 0, .int .i64 0, .int .i64 0] 32))
  have HW : Hid (((w.alloc (.cells #[.int .i64 k, .complex .f32 t1 t2, .complex .f32 s1 s2, .float .f32 lv, .slice S sn sp, .int .i64 a, .int .i64 cnt, .slice P pn pp, .slice L ln lp, .int .i64 c, .int .i64 f] 32)).alloc (.cells #[.int .i64 0, .complex .f32 0 0, .complex .f32 0 0, .float .f32 0, .slice none 0 0, .int .i64 0, .int .i64 0, .slice none 0 0, .slice none 0 0, .int .i64 0, .int .i64 0] 32)).heap.size = w.heap.size + 2) := by unfold Hid; simp
  generalize ((w.alloc (.cells #[.int .i64 k, .complex .f32 t1 t2, .complex .f32 s1 s2, .float .f32 lv, .slice S sn sp, .int .i64 a, .int .i64 cnt, .slice P pn pp, .slice L ln lp, .int .i64 c, .int .i64 f] 32)).alloc (.cells #[.int .i64 0, .complex .f32 0 0, .complex .f32 0 0, .float .f32 0, .slice none 0 0, .int .i64 0, .int .i64 0, .slice none 0 0, .slice none 0 0, .int .i64 0, .int .i64 0] 32)) = w0 at *
  have c0 := X.out.cells
  have HG0 := Lib.hid (HG.out.span HS.out (.inl (Nat.le_refl _)))
  have HX0 := Lib.hid (HX.out.keepK HS.out)
  go_region_with (first
    | (go_at_call 109; go_loud ((refine (copyRing_anyK xs _ _ o bs lo mid _ _ (HG0.out.drewN _) HL.out).mono ?_; rintro _ w1 ⟨v1, b1, rfl, h1, s1'⟩; obtain ⟨S1, p1, rfl, _⟩ := id h1; rw [← HN.out] at h1 ⊢; have SS1 : Hid (Span 0 0 w0 w1) := (by first | exact s1' | exact s1'.undrawn' | exact Span.undrawn' (n := 1) s1'); have H1 : Hid (HasS cxV true b1 w0.heap.size w1.heap.size w1 (.slice S1 sn p1) xs) := h1; have X1 := Lib.hid (X.out.keep SS1.out); have Y1 := Lib.hid (Y.out.keep SS1.out); have G1 := Lib.hid (HX0.out.keepK SS1.out); have c1 := X1.out.cells; clear s1' h1)))
    | (go_at_call 110; go_loud ((refine (copyTable_any t o mid hi _ _ (by first | exact G1.out | exact G1.out.keepK ((Span.refl 0 0 _).drewN _)) HT.out HM.out).mono ?_; rintro _ w2 ⟨v2, rfl, h2, s2'⟩; obtain ⟨A2, p2, B2, q2, rfl⟩ := h2.form; rw [← HP1.out, ← HP2.out] at h2 ⊢; have SS2 : Hid (Span 0 0 w1 w2) := (by first | exact s2' | exact s2'.undrawn' | exact Span.undrawn' (n := 1) s2'); have X2 := Lib.hid (X1.out.keep SS2.out); have Y2 := Lib.hid (Y1.out.keep SS2.out); have H2 : Hid (HasTab true w1.heap.size w2.heap.size w2 (.agg #[.slice A2 pn p2, .slice B2 ln q2]) t) := h2; have R2 := Lib.hid (H1.out.span SS2.out (.inl (Nat.le_refl _))); have c2 := X2.out.cells; have g2 := X2.out.thaw; clear s2' h2))))
  all_goals
    have X3 := (((((X2.out.set 4 (.slice S1 sn p1) (by simp)).set 5 (.int .i64 a) (by simp)).set 6 (.int .i64 cnt) (by simp)).set 7 (.slice A2 pn p2) (by simp)).set 8 (.slice B2 ln q2) (by simp))
    have X3 : Bx w.heap.size #[.int .i64 k, .complex .f32 t1 t2, .complex .f32 s1 s2, .float .f32 lv, .slice S1 sn p1, .int .i64 a, .int .i64 cnt, .slice A2 pn p2, .slice B2 ln q2, .int .i64 c, .int .i64 f] (((((w2.setCell ⟨w.heap.size, 4, none⟩ (.slice S1 sn p1)).setCell ⟨w.heap.size, 5, none⟩ (.int .i64 a)).setCell ⟨w.heap.size, 6, none⟩ (.int .i64 cnt)).setCell ⟨w.heap.size, 7, none⟩ (.slice A2 pn p2)).setCell ⟨w.heap.size, 8, none⟩ (.slice B2 ln q2)) := by simpa using X3
    have Y3 := (((((Y2.out.other (a := ⟨w.heap.size, 4, none⟩) (by simp) (.slice S1 sn p1)).other (a := ⟨w.heap.size, 5, none⟩) (by simp) (.int .i64 a)).other (a := ⟨w.heap.size, 6, none⟩) (by simp) (.int .i64 cnt)).other (a := ⟨w.heap.size, 7, none⟩) (by simp) (.slice A2 pn p2)).other (a := ⟨w.heap.size, 8, none⟩) (by simp) (.slice B2 ln q2))
    have S3 := (((((((HS.out.trans SS1.out).trans SS2.out).setCell (p := ⟨w.heap.size, 4, none⟩) (.inr (Nat.le_refl _)) (.slice S1 sn p1)).setCell (p := ⟨w.heap.size, 5, none⟩) (.inr (Nat.le_refl _)) (.int .i64 a)).setCell (p := ⟨w.heap.size, 6, none⟩) (.inr (Nat.le_refl _)) (.int .i64 cnt)).setCell (p := ⟨w.heap.size, 7, none⟩) (.inr (Nat.le_refl _)) (.slice A2 pn p2)).setCell (p := ⟨w.heap.size, 8, none⟩) (.inr (Nat.le_refl _)) (.slice B2 ln q2))
    have T3 := ((((((Span.refl w.heap.size (w.heap.size + 2) w2).setCell (p := ⟨w.heap.size, 4, none⟩) (.inl (by simp)) (.slice S1 sn p1)).setCell (p := ⟨w.heap.size, 5, none⟩) (.inl (by simp)) (.int .i64 a)).setCell (p := ⟨w.heap.size, 6, none⟩) (.inl (by simp)) (.int .i64 cnt)).setCell (p := ⟨w.heap.size, 7, none⟩) (.inl (by simp)) (.slice A2 pn p2)).setCell (p := ⟨w.heap.size, 8, none⟩) (.inl (by simp)) (.slice B2 ln q2))
    have hw := HW.out
    have hw1 := SS1.out.size
    have hw2 := SS2.out.size
    have H3 := Lib.hid (H2.out.span T3 (by omega))
    have R3 := Lib.hid (R2.out.span T3 (by omega))
    have Z3 : Hid (w2.heap.size ≤ (((((w2.setCell ⟨w.heap.size, 4, none⟩ (.slice S1 sn p1)).setCell ⟨w.heap.size, 5, none⟩ (.int .i64 a)).setCell ⟨w.heap.size, 6, none⟩ (.int .i64 cnt)).setCell ⟨w.heap.size, 7, none⟩ (.slice A2 pn p2)).setCell ⟨w.heap.size, 8, none⟩ (.slice B2 ln q2)).heap.size) := by unfold Hid; simp [World.setCell]
    have ZW : Hid (w.heap.size + 2 ≤ w0.heap.size ∧ w0.heap.size ≤ w1.heap.size ∧ w1.heap.size ≤ w2.heap.size) := by unfold Hid; omega
    clear c2 g2 hw hw1 hw2 T3
    generalize (((((w2.setCell ⟨w.heap.size, 4, none⟩ (.slice S1 sn p1)).setCell ⟨w.heap.size, 5, none⟩ (.int .i64 a)).setCell ⟨w.heap.size, 6, none⟩ (.int .i64 cnt)).setCell ⟨w.heap.size, 7, none⟩ (.slice A2 pn p2)).setCell ⟨w.heap.size, 8, none⟩ (.slice B2 ln q2)) = w5 at *
    have cx := X3.cells
    have cy := Y3.cells
    have fy := Y3.thaw
    have YS := Lib.hid (Y3.set11 (.int .i64 k) (.complex .f32 t1 t2) (.complex .f32 s1 s2) (.float .f32 lv) (.slice S1 sn p1) (.int .i64 a) (.int .i64 cnt) (.slice A2 pn p2) (.slice B2 ln q2) (.int .i64 c) (.int .i64 f))
    have S4 := Lib.hid S3
    clear X3 Y3 S3
    go_wp2_with fail
    have d1 := YS.out.cells
    have hw := ZW.out
    have T4 := (Span.refl (w.heap.size + 1) (w.heap.size + 2) w5).put11 (b := w.heap.size + 1) (by omega) (.int .i64 k) (.complex .f32 t1 t2) (.complex .f32 s1 s2) (.float .f32 lv) (.slice S1 sn p1) (.int .i64 a) (.int .i64 cnt) (.slice A2 pn p2) (.slice B2 ln q2) (.int .i64 c) (.int .i64 f)
    have z3 := Z3.out
    have z4 := T4.size
    refine bodyPost_ret (v := .agg #[.int .i64 k, .complex .f32 t1 t2, .complex .f32 s1 s2, .float .f32 lv, .slice S1 sn p1, .int .i64 a, .int .i64 cnt, .slice A2 pn p2, .slice B2 ln q2, .int .i64 c, .int .i64 f]) (by simp [results, Tryz.results80, go_sem, d1]) rfl ⟨S1, p1, A2, p2, B2, q2, b1, w1.heap.size, rfl, by omega, by omega, ⟨?_, ?_⟩, S4.out.set11 (by omega) _ _ _ _ _ _ _ _ _ _ _⟩
    · exact (R3.out.span T4 (by omega)).weak (by omega) (.inl (Nat.le_refl _))
    · exact (H3.out.span T4 (by omega)).weak (by omega) (.inl (Nat.le_trans z3 T4.size))
end Go.Proofs.YtkjlodoppmipfaaGreat
