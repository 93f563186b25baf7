import Derived.Test.YthcccliiokckjaaQ0
import Derived.Outline
namespace Go.Proofs.Ythcccliiokckjaa
open Go.RowKit

set_option maxRecDepth 100000 in
set_option maxHeartbeats 1000000 in
theorem law_newPool (n : Int) (_h1 : -9223372036854775808 ≤ n) (_h2 : n ≤ 9223372036854775807) (w : World) : Calls Try.prog 9 #[.int .i64 n] w (Says w) := by
  have l1 := poolO_len n
  obtain ⟨o, ho⟩ : ∃ o, o = poolO n := ⟨_, rfl⟩
  have HO := Lib.hid ho
  rw [← ho] at l1
  clear ho
  obtain ⟨tP, ht⟩ : ∃ t, t = o.getD [] := ⟨_, rfl⟩
  have HT := Lib.hid ht
  rw [← ht] at l1
  clear ht _h1 _h2
  go_enter Try.func9, Try.ntmps9
  go_wp2_with fail
  refine (spec_newPool n _).mono ?_
  rintro _ w1 h
  obtain ⟨v1, rfl, x1, s1⟩ := h
  rw [← HO.out, ← HT.out] at x1
  rw [← HO.out]
  have z1 := s1.size
  obtain ⟨A1, c1, rfl⟩ := x1.form
  simp only
  go_wp2_with fail
  have y1 := box2_new w1 (.slice A1 tP.length c1) (.slice none 0 0) 43
  have x1 := x1.span ((Span.refl 0 0 _).alloc (.cells #[.slice A1 tP.length c1, .slice none 0 0] 43)) (.inl (Nat.le_refl _))
  have s1 := s1.alloc (.cells #[.slice A1 tP.length c1, .slice none 0 0] 43)
  obtain ⟨b1, hb1⟩ : ∃ b, b = w1.heap.size := ⟨_, rfl⟩
  have e1 : b1 < (w1.alloc (.cells #[.slice A1 tP.length c1, .slice none 0 0] 43)).heap.size := by simp [hb1]
  rw [← hb1] at y1 x1 z1 ⊢
  generalize w1.alloc (.cells #[.slice A1 tP.length c1, .slice none 0 0] 43) = w1 at *
  clear hb1
  refine (impl_newPool n _).mono ?_
  rintro _ w2 h
  obtain ⟨v2, rfl, x2, s2⟩ := h
  rw [← HO.out, ← HT.out] at x2
  rw [← HO.out]
  have z2 := s2.size
  have y1 := s2.box2 e1 (.inl (Nat.le_refl _)) y1
  have x1 := x1.span s2 (.inl (Nat.le_refl _))
  obtain ⟨A2, c2, rfl⟩ := x2.form
  simp only
  obtain ⟨y12, y13⟩ := box2_alloc y1 (by omega)
  go_wp2_with fail
  clear y12 y13
  have y2 := box2_new w2 (.slice A2 tP.length c2) (.slice none 0 0) 43
  have t2 := (Span.refl 0 0 w2).alloc (.cells #[.slice A2 tP.length c2, .slice none 0 0] 43)
  have x1 := x1.span t2 (.inl (Nat.le_refl _))
  have x2 := x2.span t2 (.inl (Nat.le_refl _))
  have y1 := t2.box2 (by omega) (.inl (Nat.le_refl _)) y1
  have s2 := s2.trans t2
  obtain ⟨b2, hb2⟩ : ∃ b, b = w2.heap.size := ⟨_, rfl⟩
  have e2 : b2 < (w2.alloc (.cells #[.slice A2 tP.length c2, .slice none 0 0] 43)).heap.size := by simp [hb2]
  rw [← hb2] at y2 x2 z2 ⊢
  clear t2
  generalize w2.alloc (.cells #[.slice A2 tP.length c2, .slice none 0 0] 43) = w2 at *
  clear hb2
  refine (eqPool0_true _ _ _ _ _ _ _ _ _ _ x2 x1 (by omega)).mono ?_
  rintro _ w3 ⟨rfl, s3⟩
  have z3 := s3.size
  have y1 := s3.box2 (by omega) (.inl (Nat.le_refl _)) y1
  have y2 := s3.box2 (by omega) (.inl (Nat.le_refl _)) y2
  have x1 := x1.span s3 (.inl (Nat.le_refl _))
  have x2 := x2.span s3 (.inl (Nat.le_refl _))
  obtain ⟨y10, y11⟩ := y1
  obtain ⟨y20, y21⟩ := y2
  go_wp2_with fail
  have y1 := And.intro y10 y11
  have y2 := And.intro y20 y21
  clear y10 y11 y20 y21
  refine (markPool0_any tP _ _ 1 _ _ x2 (by omega) (by omega) (by omega)).mono ?_
  rintro _ w4 ⟨rfl, x2, s4⟩
  have z4 := s4.size
  have y1 := s4.box2 (by omega) (by omega) y1
  have y2 := s4.box2 (by omega) (by omega) y2
  have x1 := x1.span s4 (by omega)
  obtain ⟨y10, y11⟩ := y1
  obtain ⟨y20, y21⟩ := y2
  go_wp2_with fail
  have y1 := And.intro y10 y11
  have y2 := And.intro y20 y21
  clear y10 y11 y20 y21
  refine (heldPool0_any tP.length _ _ _ 1 _ _ x2 (by omega) (by omega)).mono ?_
  rintro _ w5 ⟨rfl, s5⟩
  have z5 := s5.size
  have y1 := s5.box2 (by omega) (.inl (Nat.le_refl _)) y1
  have y2 := s5.box2 (by omega) (.inl (Nat.le_refl _)) y2
  have x1 := x1.span s5 (.inl (Nat.le_refl _))
  have x2 := x2.span s5 (.inl (Nat.le_refl _))
  simp only
  obtain ⟨y10, y11⟩ := y1
  obtain ⟨y20, y21⟩ := y2
  go_wp2_with fail
  have y1 := And.intro y10 y11
  have y2 := And.intro y20 y21
  clear y10 y11 y20 y21
  refine (impl_newPool n _).mono ?_
  rintro _ w6 h
  obtain ⟨v3, rfl, x3, s6⟩ := h
  rw [← HO.out, ← HT.out] at x3
  rw [← HO.out]
  have z6 := s6.size
  have y1 := s6.box2 (by omega) (.inl (Nat.le_refl _)) y1
  have y2 := s6.box2 (by omega) (.inl (Nat.le_refl _)) y2
  have x1 := x1.span s6 (.inl (Nat.le_refl _))
  have x2 := x2.span s6 (.inl (Nat.le_refl _))
  obtain ⟨A3, c3, rfl⟩ := x3.form
  simp only
  obtain ⟨y12, y13⟩ := box2_alloc y1 (by omega)
  go_wp2_with fail
  clear y12 y13
  have y3 := box2_new w6 (.slice A3 tP.length c3) (.slice none 0 0) 43
  have t2 := (Span.refl 0 0 w6).alloc (.cells #[.slice A3 tP.length c3, .slice none 0 0] 43)
  have x1 := x1.span t2 (.inl (Nat.le_refl _))
  have x2 := x2.span t2 (.inl (Nat.le_refl _))
  have x3 := x3.span t2 (.inl (Nat.le_refl _))
  have y1 := t2.box2 (by omega) (.inl (Nat.le_refl _)) y1
  have y2 := t2.box2 (by omega) (.inl (Nat.le_refl _)) y2
  have s6 := s6.trans t2
  obtain ⟨b3, hb3⟩ : ∃ b, b = w6.heap.size := ⟨_, rfl⟩
  have e3 : b3 < (w6.alloc (.cells #[.slice A3 tP.length c3, .slice none 0 0] 43)).heap.size := by simp [hb3]
  rw [← hb3] at y3 x3 z6 ⊢
  clear t2
  generalize w6.alloc (.cells #[.slice A3 tP.length c3, .slice none 0 0] 43) = w6 at *
  clear hb3
  obtain ⟨y30, y31⟩ := y3
  refine (eqPool0_true _ _ _ _ _ _ _ _ _ _ x3 x1 (by omega)).mono ?_
  rintro _ w7 ⟨rfl, s7⟩
  have z7 := s7.size
  have y1 := s7.box2 (by omega) (.inl (Nat.le_refl _)) y1
  have y2 := s7.box2 (by omega) (.inl (Nat.le_refl _)) y2
  have y3 := s7.box2 (by omega) (.inl (Nat.le_refl _)) (And.intro y30 y31)
  have x2 := x2.span s7 (.inl (Nat.le_refl _))
  clear y30 y31
  obtain ⟨y30, y31⟩ := y3
  obtain ⟨y10, y11⟩ := y1
  obtain ⟨y20, y21⟩ := y2
  go_wp2_with fail
  have y1 := And.intro y10 y11
  have y2 := And.intro y20 y21
  clear y10 y11 y20 y21
  refine (heldPool0_any tP.length _ _ _ 1 _ _ x2 (by omega) (by omega)).mono ?_
  rintro _ w8 ⟨rfl, s8⟩
  have z8 := s8.size
  simp only
  clear y1 y2 y30 y31
  go_wp2_with fail
  go_ret
  refine ⟨rfl, ?_⟩
  have q1 := s1.to_below (.inl (Nat.le_refl _))
  have q2 := s2.below q1 (.inl (Nat.le_refl _)) (by omega)
  have q3 := s3.below q2 (.inl (Nat.le_refl _)) (by omega)
  have q4 := s4.below q3 (.inr (by omega)) (by omega)
  have q5 := s5.below q4 (.inl (Nat.le_refl _)) (by omega)
  have q6 := s6.below q5 (.inl (Nat.le_refl _)) (by omega)
  have q7 := s7.below q6 (.inl (Nat.le_refl _)) (by omega)
  exact s8.below q7 (.inl (Nat.le_refl _)) (by omega)

end Go.Proofs.Ythcccliiokckjaa
