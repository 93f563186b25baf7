/- A copy of a table; tables that are turned. -/
import Derived.Test.YtghekafjccfjcaaJq25
namespace Go.Proofs.Ytghekafjccfjcaa
open Go.RowKit

def GivesT (t : Tab) (w : World) (e : Ending) (w' : World) : Prop :=
  ∃ v, e = .returned v ∧ HasTab true w.heap.size w'.heap.size w' v t ∧ Span 0 0 w w'

theorem HasS.apart {α β : Type} {val : α → Value} {val' : β → Value} {o o' : Bool} {b b' lo mid hi : Nat} {w : World} {v v' : Value} {xs : List α} {ys : List β} (h : HasS val o b lo mid w v xs) (h' : HasS val' o' b' mid hi w v' ys) (hl : 0 < xs.length) (hl' : 0 < ys.length) : b ≠ b' := by
  obtain ⟨A, c, rfl, _, hc⟩ := h
  obtain ⟨A', c', rfl, _, hc'⟩ := h'
  obtain ⟨_, _, _, h1, _⟩ := hc hl
  obtain ⟨_, _, h2, _⟩ := hc' hl'
  omega

theorem HasS.setCell {α : Type} {val : α → Value} {own : Bool} {b lo hi b0 o0 : Nat} {w : World} {v : Value} {xs : List α} (h : HasS val own b lo hi w v xs) (hd : b0 < lo) (u : Value) : HasS val own b lo hi (w.setCell ⟨b0, o0, none⟩ u) v xs :=
  h.span ((Span.refl b0 (b0 + 1) w).setCell (.inl ⟨Nat.le_refl _, Nat.lt_succ_self _⟩) u) (by omega)

theorem tab_of {own : Bool} {b1 b2 lo mid hi : Nat} {w : World} {vP vL : Value} {t : Tab} (h1 : HasS cxV own b1 lo mid w vP t.1) (h2 : HasS intV own b2 mid hi w vL t.2) (hl : lo ≤ mid) (hm : mid ≤ hi) : HasTab own lo hi w (.agg #[vP, vL]) t := by
  obtain ⟨P, L⟩ := t
  by_cases hP : 0 < P.length
  · by_cases hL : 0 < L.length
    · exact ⟨b1, b2, vP, vL, rfl, h1.apart h2 hP hL, h1.weak (Nat.le_refl _) (.inl hm), h2.weak hl (.inl (Nat.le_refl _))⟩
    · have e : L = [] := by cases L with | nil => rfl | cons a l => simp at hL
      subst e
      obtain ⟨A, c, rfl, _⟩ := h2
      exact ⟨b1, b1 + 1, vP, _, rfl, by omega, h1.weak (Nat.le_refl _) (.inl hm), HasS.empty _ _ _ _ _ _ _ _⟩
  · have e : P = [] := by cases P with | nil => rfl | cons a l => simp at hP
    subst e
    obtain ⟨A, c, rfl, _⟩ := h1
    exact ⟨b2 + 1, b2, _, vL, rfl, by omega, HasS.empty _ _ _ _ _ _ _ _, h2.weak hl (.inl (Nat.le_refl _))⟩

/-- A box of two cells that may be written. -/
def Box (b : Nat) (u v : Value) (w : World) : Prop := b < w.heap.size ∧ w.cell? ⟨b, 0, none⟩ = some u ∧ w.cell? ⟨b, 1, none⟩ = some v ∧ w.frozen? ⟨b, 0, none⟩ = false ∧ w.frozen? ⟨b, 1, none⟩ = false
theorem Box.new (w : World) (u v : Value) (t : TypeId) : Box w.heap.size u v (w.alloc (.cells #[u, v] t)) :=
  ⟨by simp, (box2_new w u v t).1, (box2_new w u v t).2, by rw [World.frozen?_alloc_new], by rw [World.frozen?_alloc_new]⟩
theorem Box.span {b : Nat} {u v : Value} {w w' : World} {lo hi : Nat} (h : Box b u v w) (hs : Span lo hi w w') (hd : hi ≤ lo ∨ b < lo ∨ hi ≤ b) : Box b u v w' := by
  obtain ⟨h0, h1, h2, h3, h4⟩ := h
  have e := hs.block b h0 (by omega)
  exact ⟨Nat.lt_of_lt_of_le h0 hs.size, (World.cell?_of_block (w := w) (a := ⟨b, 0, none⟩) e).trans h1, (World.cell?_of_block (w := w) (a := ⟨b, 1, none⟩) e).trans h2,
    (World.frozen?_of_block (w := w) (a := ⟨b, 0, none⟩) e).trans h3, (World.frozen?_of_block (w := w) (a := ⟨b, 1, none⟩) e).trans h4⟩
theorem Box.alloc {b : Nat} {u v : Value} {w : World} (h : Box b u v w) (o : Obj) : Box b u v (w.alloc o) := h.span ((Span.refl 0 0 w).alloc o) (.inl (Nat.le_refl _))
theorem Box.drewN {b : Nat} {u v : Value} {w : World} (h : Box b u v w) (n : Nat) : Box b u v (w.drewN n) := h

set_option maxRecDepth 100000 in
set_option maxHeartbeats 2000000 in
theorem copyTable_any (t : Tab) (o : Bool) (lo hi : Nat) (v : Value) (w : World) (hx : HasTab o lo hi w v t) (ht : t.2.length = t.1.length) (hm : t.1.length ≤ 4194304) :
    Calls Try.prog 33 #[v] w (GivesT t w) := by
  obtain ⟨b1, b2, vP, vL, rfl, hne, g1, g2⟩ := hx
  have G1 := Lib.hid g1
  have G2 := Lib.hid g2
  obtain ⟨AP, cP, rfl, _, _⟩ := g1
  obtain ⟨AL, cL, rfl, _, _⟩ := g2
  have HT := Lib.hid ht
  have HM := Lib.hid hm
  obtain ⟨lp, hlp⟩ : ∃ n, n = t.1.length := ⟨_, rfl⟩
  obtain ⟨ll, hll⟩ : ∃ n, n = t.2.length := ⟨_, rfl⟩
  have HLP := Lib.hid hlp
  have HLL := Lib.hid hll
  rw [← hlp] at G1 ⊢
  rw [← hll] at G2 ⊢
  clear ht hm hlp hll
  go_enter Try.func33, Try.ntmps33
  go_wp2_with fail
  have X0 := Lib.hid ((Box.new w (.slice AP lp cP) (.slice AL ll cL) 35).alloc (.cells #[.slice none 0 0, .slice none 0 0] 35))
  have X1 := Lib.hid (Box.new (w.alloc (.cells #[.slice AP lp cP, .slice AL ll cL] 35)) (.slice none 0 0) (.slice none 0 0) 35)
  have HS := Lib.hid ((((Span.refl 0 0 w).alloc (.cells #[.slice AP lp cP, .slice AL ll cL] 35))).alloc (.cells #[.slice none 0 0, .slice none 0 0] 35))
  rw [show (w.alloc (.cells #[.slice AP lp cP, .slice AL ll cL] 35)).heap.size = w.heap.size + 1 by simp] at X1
  generalize (w.alloc (.cells #[.slice AP lp cP, .slice AL ll cL] 35)).alloc (.cells #[.slice none 0 0, .slice none 0 0] 35) = w0 at *
  obtain ⟨hz, x0, x1, _, _⟩ := X0.out
  have HZ := Lib.hid hz
  clear hz
  go_region_with (first
    | (go_at_call 35; go_loud ((refine (cloneC_any t.1 o b1 lo hi _ _ ((G1.out.span HS.out (.inl (Nat.le_refl _))).drewN _) HM.out).mono ?_; rintro _ w1 ⟨v1, c1, rfl, h1, s1⟩; obtain ⟨A1, q1, rfl, _⟩ := id h1; rw [← HLP.out] at h1 ⊢; have X01 := (X0.out.drewN 1).span s1 (.inl (Nat.le_refl _)); have X11 := Lib.hid ((X1.out.drewN 1).span s1 (.inl (Nat.le_refl _))); have S1 := Lib.hid (s1.after (HS.out.drewN 1)); have H1 := Lib.hid h1; have Z1 : Hid (w0.heap.size ≤ w1.heap.size) := s1.size; obtain ⟨_, z0, z1, _, _⟩ := X01; clear h1 s1)))
    | (go_at_call 36; go_loud ((refine (cloneI_any t.2 o b2 lo hi _ _ ((G2.out.span S1.out (.inl (Nat.le_refl _)))) (by rw [HT.out]; exact HM.out)).mono ?_; rintro _ w2 ⟨v2, c2, rfl, h2, s2⟩; obtain ⟨A2, q2, rfl, _⟩ := id h2; rw [← HLL.out] at h2 ⊢; have X12 := X11.out.span s2 (.inl (Nat.le_refl _)); have S2 := Lib.hid (s2.after S1.out); have H12 := Lib.hid (H1.out.span s2 (.inl (Nat.le_refl _))); have H2 := Lib.hid h2; have Z2 : Hid (w1.heap.size ≤ w2.heap.size) := s2.size; obtain ⟨_, r0, r1, r2, r3⟩ := X12; clear h2 s2))))
  all_goals
    go_wp2_with fail
    have e0 : ((w2.setCell ⟨w.heap.size + 1, 0, none⟩ (.slice A1 lp q1)).setCell ⟨w.heap.size + 1, 1, none⟩ (.slice A2 ll q2)).cell? ⟨w.heap.size + 1, 0, none⟩ = some (.slice A1 lp q1) :=
      (World.cell?_setCell_other _ ⟨w.heap.size + 1, 1, none⟩ ⟨w.heap.size + 1, 0, none⟩ _ (by simp)).trans (World.cell?_setCell_same w2 ⟨w.heap.size + 1, 0, none⟩ _ r0)
    have e1 : ((w2.setCell ⟨w.heap.size + 1, 0, none⟩ (.slice A1 lp q1)).setCell ⟨w.heap.size + 1, 1, none⟩ (.slice A2 ll q2)).cell? ⟨w.heap.size + 1, 1, none⟩ = some (.slice A2 ll q2) :=
      World.cell?_setCell_same _ ⟨w.heap.size + 1, 1, none⟩ _ ((World.cell?_setCell_other _ ⟨w.heap.size + 1, 0, none⟩ ⟨w.heap.size + 1, 1, none⟩ _ (by simp)).trans r1)
    have z1 := X1.out.1
    have z2 := S1.out.size
    have z3 := S2.out.size
    have z4 : w0.heap.size ≤ w1.heap.size := Z1.out
    have z5 : w1.heap.size ≤ w2.heap.size := Z2.out
    refine bodyPost_ret (v := .agg #[.slice A1 lp q1, .slice A2 ll q2]) (by simp [results, Try.results33, go_sem, e0, e1]) rfl ⟨_, rfl, ?_, ?_⟩
    · have g1 : HasS cxV true c1 w0.heap.size w1.heap.size w2 (.slice A1 lp q1) t.1 := H12.out
      have g2 : HasS intV true c2 w1.heap.size w2.heap.size w2 (.slice A2 ll q2) t.2 := H2.out
      have h1 := (g1.setCell (b0 := w.heap.size + 1) (o0 := 0) (by omega) (.slice A1 lp q1)).setCell (b0 := w.heap.size + 1) (o0 := 1) (by omega) (.slice A2 ll q2)
      have h2 := (g2.setCell (b0 := w.heap.size + 1) (o0 := 0) (by omega) (.slice A1 lp q1)).setCell (b0 := w.heap.size + 1) (o0 := 1) (by omega) (.slice A2 ll q2)
      exact (tab_of h1 h2 (by omega) (by omega)).weak (by omega) (.inl (by simp [World.setCell]))
    · exact (S2.out.setCell (.inr (by simp)) _).setCell (.inr (by simp)) _
end Go.Proofs.Ytghekafjccfjcaa
