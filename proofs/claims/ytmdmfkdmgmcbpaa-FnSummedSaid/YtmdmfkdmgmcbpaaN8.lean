/- Tables that are turned. -/
import Derived.Test.YtmdmfkdmgmcbpaaN7
namespace Go.Proofs.Ytmdmfkdmgmcbpaa
open Go.RowKit

theorem box_stored {b : Nat} {u v u' v' : Value} {w : World} (h : Box b u v w) :
    ((w.setCell ⟨b, 0, none⟩ u').setCell ⟨b, 1, none⟩ v').cell? ⟨b, 0, none⟩ = some u' ∧ ((w.setCell ⟨b, 0, none⟩ u').setCell ⟨b, 1, none⟩ v').cell? ⟨b, 1, none⟩ = some v' :=
  ⟨(World.cell?_setCell_other _ ⟨b, 1, none⟩ ⟨b, 0, none⟩ _ (by simp)).trans (World.cell?_setCell_same w ⟨b, 0, none⟩ _ h.2.1),
    World.cell?_setCell_same _ ⟨b, 1, none⟩ _ ((World.cell?_setCell_other _ ⟨b, 0, none⟩ ⟨b, 1, none⟩ _ (by simp)).trans h.2.2.1)⟩

set_option maxRecDepth 100000 in
set_option maxHeartbeats 2000000 in
theorem onlyValid_true (t : Tab) (o : Bool) (lo hi : Nat) (v : Value) (w : World) (hx : HasTab o lo hi w v t) (ht : Valid t) :
    Calls Try.prog 61 #[v] w fun e w' => e = .returned (.tuple #[v, .bool true]) ∧ Span 0 0 w w' := by
  obtain ⟨AP, cP, AL, cL, rfl⟩ := hx.form
  obtain ⟨lp, hlp⟩ : ∃ n, n = t.1.length := ⟨_, rfl⟩
  obtain ⟨ll, hll⟩ : ∃ n, n = t.2.length := ⟨_, rfl⟩
  rw [← hlp, ← hll] at hx ⊢
  have HX := Lib.hid hx
  have HT := Lib.hid ht
  clear hx ht hlp hll
  have X0 := Lib.hid ((Box.new w (.slice AP lp cP) (.slice AL ll cL) 42).alloc (.cells #[.slice none 0 0, .slice none 0 0] 42))
  have X1 := Lib.hid (Box.new (w.alloc (.cells #[.slice AP lp cP, .slice AL ll cL] 42)) (.slice none 0 0) (.slice none 0 0) 42)
  rw [show (w.alloc (.cells #[.slice AP lp cP, .slice AL ll cL] 42)).heap.size = w.heap.size + 1 by simp] at X1
  have HS := Lib.hid ((((Span.refl 0 0 w).alloc (.cells #[.slice AP lp cP, .slice AL ll cL] 42))).alloc (.cells #[.slice none 0 0, .slice none 0 0] 42))
  go_enter Try.func61, Try.ntmps61
  go_wp2_with fail
  refine (impl_isTable_true t o lo hi _ _ (HX.out.span HS.out (.inl (Nat.le_refl _))) HT.out).mono ?_
  rintro _ w1 ⟨rfl, s1⟩
  obtain ⟨_, x0, x1, _, _⟩ := X0.out.span s1 (.inl (Nat.le_refl _))
  have X2 := X1.out.span s1 (.inl (Nat.le_refl _))
  obtain ⟨hr, r0, r1, r2, r3⟩ := id X2
  have HB := Lib.hid (box_stored (u' := .slice AP lp cP) (v' := .slice AL ll cL) X2)
  have S1 := Lib.hid (s1.after HS.out)
  clear s1 X2 hr
  go_wp2_with fail
  exact bodyPost_ret (v := .tuple #[.agg #[.slice AP lp cP, .slice AL ll cL], .bool true]) (by simp [results, Try.results61, go_sem, HB.out.1, HB.out.2]) rfl ⟨rfl, (S1.out.setCell (.inr (by simp)) _).setCell (.inr (by simp)) _⟩

theorem impl_equalPoints (a b : Cx) (w : World) : Calls Try.prog 38 #[.complex .f32 a.1 a.2, .complex .f32 b.1 b.2] w fun e w' => e = .returned (.bool (eqC a b)) ∧ w = w' := by
  obtain ⟨a1, a2⟩ := a
  obtain ⟨b1, b2⟩ := b
  simp only
  go_enter Try.func38, Try.ntmps38
  go_wp2
  go_ret
  exact ⟨rfl, rfl⟩

/-- All points have products. -/
def Turned (Q : List Cx) (z : Cx) (R : List Cx) : Prop := R.length = Q.length ∧ ∀ (j : Nat) (p : Cx), Q[j]? = some p → ∃ r, mulS p z = some r ∧ R[j]? = some r

/-- Points in the course of being turned: the first k are new. -/
structure Turning (Q R : List Cx) (L : List Int) (c1 off c2 lo hi : Nat) (vL : Value) (G F : Nat) (u v u' v' : Value) (w : World) (k : Nat) (wr : World) : Prop where
  new : ∀ (j : Nat) (p : Cx), R[j]? = some p → j < k → wr.cell? ⟨c1, off + j, none⟩ = some (.complex .f32 p.1 p.2)
  old : ∀ (j : Nat) (p : Cx), Q[j]? = some p → k ≤ j → wr.cell? ⟨c1, off + j, none⟩ = some (.complex .f32 p.1 p.2)
  free : ∀ j, j < Q.length → wr.frozen? ⟨c1, off + j, none⟩ = false
  labels : HasS intV true c2 lo hi wr vL L
  g : Box G u v wr
  f : Box F u' v' wr
  s : Span 0 0 w wr
  size : hi ≤ wr.heap.size

theorem Turning.step {Q R : List Cx} {L : List Int} {c1 off c2 lo hi : Nat} {vL : Value} {G F : Nat} {u v u' v' : Value} {w : World} {k : Nat} {wr : World} (h : Turning Q R L c1 off c2 lo hi vL G F u v u' v' w k wr)
    (hc : c1 ≠ c2) (h1 : lo ≤ c1) (h2 : c1 < hi) (hG : G < lo ∨ hi ≤ G) (hF : F < lo ∨ hi ≤ F) (hw : w.heap.size ≤ lo) {p r : Cx} (hp : Q[k]? = some p) (hr : R[k]? = some r) (hl : R.length = Q.length) :
    Turning Q R L c1 off c2 lo hi vL G F u v u' v' w (k + 1) (wr.setCell ⟨c1, off + k, none⟩ (.complex .f32 r.1 r.2)) := by
  have sp : Span c1 (c1 + 1) wr (wr.setCell ⟨c1, off + k, none⟩ (.complex .f32 r.1 r.2)) := (Span.refl c1 (c1 + 1) wr).setCell (p := ⟨c1, off + k, none⟩) (.inl ⟨Nat.le_refl _, Nat.lt_succ_self _⟩) _
  have hk := h.old k p hp (Nat.le_refl _)
  refine ⟨fun j q hq hj => ?_, fun j q hq hj => ?_, fun j hj => by rw [World.frozen?_setCell]; exact h.free j hj, h.labels.span sp (by omega), h.g.span sp (by omega), h.f.span sp (by omega), h.s.setCell (.inr (by simp only; omega)) _, by simpa [World.setCell] using h.size⟩
  · by_cases e : j = k
    · subst e
      rw [hr] at hq; cases hq
      exact World.cell?_setCell_same wr ⟨c1, off + j, none⟩ _ hk
    · exact (World.cell?_setCell_other wr ⟨c1, off + k, none⟩ ⟨c1, off + j, none⟩ _ (by intro e; injection e; omega)).trans (h.new j q hq (by omega))
  · exact (World.cell?_setCell_other wr ⟨c1, off + k, none⟩ ⟨c1, off + j, none⟩ _ (by intro e; injection e; omega)).trans (h.old j q hq (by omega))

theorem Turning.drewN {Q R : List Cx} {L : List Int} {c1 off c2 lo hi : Nat} {vL : Value} {G F : Nat} {u v u' v' : Value} {w : World} {k : Nat} {wr : World} (h : Turning Q R L c1 off c2 lo hi vL G F u v u' v' w k wr) (n : Nat) :
    Turning Q R L c1 off c2 lo hi vL G F u v u' v' w k (wr.drewN n) := ⟨h.new, h.old, h.free, h.labels, h.g, h.f, h.s.drewN n, h.size⟩

set_option maxRecDepth 100000 in
set_option maxHeartbeats 4000000 in
theorem turnTable_any (t : Tab) (z : Cx) (R : List Cx) (o : Bool) (lo hi : Nat) (v : Value) (w : World) (hx : HasTab o lo hi w v t) (ht : Valid t) (hR : Turned t.1 z R) (hV : Valid (R, t.2)) (hp : 0 < t.1.length) :
    Calls Try.prog 36 #[v, .complex .f32 z.1 z.2] w (GivesTab (some (R, t.2)) w) := by
  obtain ⟨AP, cP, AL, cL, rfl⟩ := hx.form
  obtain ⟨lp, hlp⟩ : ∃ n, n = t.1.length := ⟨_, rfl⟩
  have hll : lp = t.2.length := by rw [ht.len]; exact hlp
  rw [← hll, ← hlp] at hx
  rw [← hll, ← hlp]
  rw [← hlp] at hp
  have hmo : lp ≤ 64 := by rw [hlp]; exact ht.most
  have HX := Lib.hid hx
  have HT := Lib.hid ht
  have HLP := Lib.hid hlp
  have HLL := Lib.hid hll
  clear hx ht hlp hll
  have X0 := Lib.hid ((Box.new w (.slice AP lp cP) (.slice AL lp cL) 42).alloc (.cells #[.slice none 0 0, .slice none 0 0] 42))
  have X1 := Lib.hid (Box.new (w.alloc (.cells #[.slice AP lp cP, .slice AL lp cL] 42)) (.slice none 0 0) (.slice none 0 0) 42)
  rw [show (w.alloc (.cells #[.slice AP lp cP, .slice AL lp cL] 42)).heap.size = w.heap.size + 1 by simp] at X1
  have HS := Lib.hid ((((Span.refl 0 0 w).alloc (.cells #[.slice AP lp cP, .slice AL lp cL] 42))).alloc (.cells #[.slice none 0 0, .slice none 0 0] 42))
  go_enter Try.func36, Try.ntmps36
  go_wp2_with fail
  refine (impl_isTable_true t o lo hi _ _ (HX.out.span HS.out (.inl (Nat.le_refl _))) HT.out).mono ?_
  rintro _ w1 ⟨rfl, s1⟩
  have Y0 := X0.out.span s1 (.inl (Nat.le_refl _))
  have Y1 := Lib.hid (X1.out.span s1 (.inl (Nat.le_refl _)))
  have S1 := Lib.hid (s1.after HS.out)
  obtain ⟨_, x0, x1, _, _⟩ := Y0
  clear s1
  go_wp2_with fail
  refine (copyTable_any t o lo hi _ _ (HX.out.span S1.out (.inl (Nat.le_refl _))) HT.out.len (by rw [← HLP.out]; omega)).mono ?_
  rintro _ w2 ⟨v2, rfl, h2, s2⟩
  obtain ⟨c1, c2, vP, vL, rfl, hne, g1, g2⟩ := h2
  obtain ⟨A1, q1, rfl, hq1, hc1⟩ := g1
  obtain ⟨off, rfl, hlo, hhi, hlt, hcell, hfr⟩ := hc1 (by rw [← HLP.out]; exact hp)
  rw [← HLP.out] at hq1 ⊢
  have G2 := Lib.hid g2
  obtain ⟨A2, q2, rfl, _, _⟩ := g2
  rw [← HLL.out] at G2 ⊢
  have Y1' := Y1.out.span s2 (.inl (Nat.le_refl _))
  have hz1 : w.heap.size + 1 < w1.heap.size := Y1.out.1
  have hz2 : w1.heap.size ≤ w2.heap.size := s2.size
  have S2 := Lib.hid (s2.after S1.out)
  have TT : Hid (Turning t.1 R t.2 c1 off c2 w1.heap.size w2.heap.size (.slice A2 lp q2) w2.heap.size (w.heap.size + 1) (.slice (some ⟨c1, off, none⟩) lp q1) (.slice A2 lp q2) (.slice none 0 0) (.slice none 0 0) w 0
      (w2.alloc (.cells #[.slice (some ⟨c1, off, none⟩) lp q1, .slice A2 lp q2] 42))) := by
    have sp := (Span.refl 0 0 w2).alloc (.cells #[.slice (some ⟨c1, off, none⟩) lp q1, .slice A2 lp q2] 42)
    refine ⟨fun j p _ hj => absurd hj (by omega), fun j p hj _ => ((sp.cells (Nat.le_refl _)).1 c1 _ hlt).trans (hcell j p hj), fun j hj => ((sp.cells (Nat.le_refl _)).2 c1 _ hlt).trans (hfr rfl j hj), G2.out.span sp (.inl (Nat.le_refl _)), Box.new w2 _ _ _, Y1'.span sp (.inl (Nat.le_refl _)), S2.out.alloc _, sp.size⟩
  clear hcell hfr hc1 Y1' s2
  go_wp2_with fail
  go_loopw [18] (fun c wr => ∃ k : Nat, k ≤ lp ∧ c = .int .i64 k ∧ Turning t.1 R t.2 c1 off c2 w1.heap.size w2.heap.size (.slice A2 lp q2) w2.heap.size (w.heap.size + 1) (.slice (some ⟨c1, off, none⟩) lp q1) (.slice A2 lp q2) (.slice none 0 0) (.slice none 0 0) w k wr) (fun c _ => lp - (intOf c).toNat)
  case atStart => exact ⟨0, Nat.zero_le _, rfl, TT.out⟩
  case round =>
    clear TT
    obtain ⟨k, hk, rfl, hT⟩ := hrel
    by_cases hlt2 : k < lp
    · obtain ⟨p, hpk⟩ := getElem?_some (xs := t.1) (j := k) (by rw [← HLP.out]; exact hlt2)
      obtain ⟨r, hm, hr⟩ := hR.2 k p hpk
      have hck := hT.old k p hpk (Nat.le_refl _)
      have hfk := hT.free k (by rw [← HLP.out]; exact hlt2)
      obtain ⟨_, y0, y1, _, _⟩ := hT.g
      have HT2 := Lib.hid (hT.step hne hlo hhi (.inr (Nat.le_refl _)) (.inl (by omega)) (by omega) hpk hr hR.1)
      have HM := Lib.hid hm
      have i0 : (0 : Int) ≤ (k : Int) := by omega
      have i1 : (k : Int) < (lp : Int) := by omega
      clear hT hpk hm hr
      go_wp2_with fail
      go_region_with (go_at_call 37; go_loud ((refine (impl_multiply_some p z r HM.out _).mono ?_; rintro _ _ ⟨rfl, rfl⟩)))
      all_goals
        go_wp2_with fail
        go_roundw
        case rel => exact ⟨k + 1, by omega, by go_num, HT2.out.drewN 1⟩
        case measure => simp [intOf]; omega
    · have hke : lp = k := by omega
      have HTR := Lib.hid hT
      obtain ⟨_, y0, y1, _, _⟩ := hT.g
      have HK := Lib.hid hke
      clear hT hke
      go_wp2_with fail
      have hRl : R.length = lp := by rw [hR.1, ← HLP.out]
      have hTab : HasTab true w1.heap.size w2.heap.size wr (.agg #[.slice (some ⟨c1, off, none⟩) lp q1, .slice A2 lp q2]) (R, t.2) := by
        refine ⟨c1, c2, _, _, rfl, hne, ⟨_, q1, by rw [hRl], by rw [hRl]; exact hq1, fun _ => ⟨off, rfl, hlo, hhi, Nat.lt_of_lt_of_le hhi HTR.out.size, fun j q hj => HTR.out.new j q hj (by have h1 : j < R.length := (List.getElem?_eq_some_iff.1 hj).1; rw [hRl, HK.out] at h1; exact h1), fun _ j hj => HTR.out.free j (by rw [← hR.1]; exact hj)⟩⟩, HTR.out.labels⟩
      refine (onlyValid_true (R, t.2) true _ _ _ _ hTab hV).mono ?_
      rintro _ w3 ⟨rfl, s3⟩
      have F3 := HTR.out.f.span s3 (.inl (Nat.le_refl _))
      have HT3 := Lib.hid (hTab.span s3 (.inl (Nat.le_refl _)))
      obtain ⟨hfl, f0, f1, f2, f3⟩ := id F3
      have HB := Lib.hid (box_stored (u' := .slice (some ⟨c1, off, none⟩) lp q1) (v' := .slice A2 lp q2) F3)
      have S3 := Lib.hid (s3.after HTR.out.s)
      have hz3 : w2.heap.size ≤ w3.heap.size := Nat.le_trans HTR.out.size s3.size
      clear s3 F3 hTab hfl hRl y0 y1
      go_wp2_with fail
      have t3 := HT3.out.span ((Span.refl (w.heap.size + 1) (w.heap.size + 2) w3).setCell (p := ⟨w.heap.size + 1, 0, none⟩) (.inl ⟨Nat.le_refl _, Nat.lt_succ_self _⟩) (.slice (some ⟨c1, off, none⟩) lp q1)) (by omega)
      have t4 := t3.span ((Span.refl (w.heap.size + 1) (w.heap.size + 2) _).setCell (p := ⟨w.heap.size + 1, 1, none⟩) (.inl ⟨Nat.le_refl _, Nat.lt_succ_self _⟩) (.slice A2 lp q2)) (by omega)
      exact bodyPost_ret (v := .tuple #[.agg #[.slice (some ⟨c1, off, none⟩) lp q1, .slice A2 lp q2], .bool true]) (by simp [results, Try.results36, go_sem, HB.out.1, HB.out.2]) rfl ⟨⟨_, rfl, t4.weak (by omega) (.inl (by simp [World.setCell]; omega))⟩, (S3.out.setCell (.inr (by simp)) _).setCell (.inr (by simp)) _⟩

end Go.Proofs.Ytmdmfkdmgmcbpaa
