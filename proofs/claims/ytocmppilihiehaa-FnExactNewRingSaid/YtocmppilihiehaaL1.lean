/- The law FnExactNewRing: the call. -/
import Derived.Test.YtocmppilihiehaaR3
import Derived.Outline
namespace Go.Proofs.Ytocmppilihiehaa
open Go.RowKit

set_option maxRecDepth 100000 in
set_option maxHeartbeats 4000000 in
theorem law_newRing (n : Int) (_h1 : -9223372036854775808 ≤ n) (_h2 : n ≤ 9223372036854775807) (w : World) : Calls Try.prog 7 #[.int .i64 n] w (Says w) := by
  have l1 := ringO_len n
  obtain ⟨o, ho⟩ : ∃ o, o = ringO n := ⟨_, rfl⟩
  have HO := Lib.hid ho
  rw [← ho] at l1
  clear ho
  obtain ⟨tP, ht⟩ : ∃ t, t = o.getD zeroRing := ⟨_, rfl⟩
  have HT := Lib.hid ht
  rw [← ht] at l1
  clear ht _h1 _h2
  go_enter Try.func7, Try.ntmps7
  go_wp2_with fail
  refine (spec_newRing n _).mono ?_
  rintro _ w1 h
  obtain ⟨v1, rfl, x1, s1⟩ := h
  rw [← HO.out, ← HT.out] at x1
  rw [← HO.out]
  have z1 := s1.size
  obtain ⟨A1, c1, rfl⟩ := x1.form
  simp only
  go_wp2_with fail
  have y1 := box3_new w1 (.slice A1 tP.store.length c1) (.int .i64 tP.at_) (.int .i64 tP.cnt) 25
  have t2 := (Span.refl 0 0 w1).alloc (.cells #[.slice A1 tP.store.length c1, .int .i64 tP.at_, .int .i64 tP.cnt] 25)
  have x1 := x1.span t2 (.inl (Nat.le_refl _))
  have s1 := s1.trans t2
  obtain ⟨b1, hb1⟩ : ∃ b, b = w1.heap.size := ⟨_, rfl⟩
  have e1 : b1 < (w1.alloc (.cells #[.slice A1 tP.store.length c1, .int .i64 tP.at_, .int .i64 tP.cnt] 25)).heap.size := by simp [hb1]
  rw [← hb1] at y1 x1 z1 ⊢
  clear t2
  generalize w1.alloc (.cells #[.slice A1 tP.store.length c1, .int .i64 tP.at_, .int .i64 tP.cnt] 25) = w1 at *
  clear hb1
  refine (impl_newRing n _).mono ?_
  rintro _ w2 h
  obtain ⟨v2, rfl, x2, s2⟩ := h
  rw [← HO.out, ← HT.out] at x2
  rw [← HO.out]
  have z2 := s2.size
  have y1 := box3_span y1 s2 (by omega) (.inl (Nat.le_refl _))
  have x1 := x1.span s2 (.inl (Nat.le_refl _))
  obtain ⟨A2, c2, rfl⟩ := x2.form
  simp only
  obtain ⟨q0, q1, q2⟩ := box3_alloc y1 (by omega)
  go_wp2_with fail
  clear q0 q1 q2
  have y2 := box3_new w2 (.slice A2 tP.store.length c2) (.int .i64 tP.at_) (.int .i64 tP.cnt) 25
  have t2 := (Span.refl 0 0 w2).alloc (.cells #[.slice A2 tP.store.length c2, .int .i64 tP.at_, .int .i64 tP.cnt] 25)
  have x1 := x1.span t2 (.inl (Nat.le_refl _))
  have x2 := x2.span t2 (.inl (Nat.le_refl _))
  have y1 := box3_span y1 t2 (by omega) (.inl (Nat.le_refl _))
  have s2 := s2.trans t2
  obtain ⟨b2, hb2⟩ : ∃ b, b = w2.heap.size := ⟨_, rfl⟩
  have e2 : b2 < (w2.alloc (.cells #[.slice A2 tP.store.length c2, .int .i64 tP.at_, .int .i64 tP.cnt] 25)).heap.size := by simp [hb2]
  rw [← hb2] at y2 x2 z2 ⊢
  clear t2
  generalize w2.alloc (.cells #[.slice A2 tP.store.length c2, .int .i64 tP.at_, .int .i64 tP.cnt] 25) = w2 at *
  clear hb2
  refine (eqRing_true _ _ _ _ _ _ _ _ _ _ _ x2 x1 (SameR.refl _) (by omega)).mono ?_
  rintro _ w3 ⟨rfl, s3⟩
  have z3 := s3.size
  have y1 := box3_span y1 s3 (by omega) (.inl (Nat.le_refl _))
  have x1 := x1.span s3 (.inl (Nat.le_refl _))
  have y2 := box3_span y2 s3 (by omega) (.inl (Nat.le_refl _))
  have x2 := x2.span s3 (.inl (Nat.le_refl _))
  obtain ⟨y1_0, y1_1, y1_2⟩ := y1
  obtain ⟨y2_0, y2_1, y2_2⟩ := y2
  go_wp2_with fail
  have y1 := box3_mk y1_0 y1_1 y1_2
  clear y1_0 y1_1 y1_2
  have y2 := box3_mk y2_0 y2_1 y2_2
  clear y2_0 y2_1 y2_2
  refine (markRing_any tP _ _ 1 _ _ x2 (by omega) (by omega) (by omega)).mono ?_
  rintro _ w4 ⟨rfl, x2, s4⟩
  have z4 := s4.size
  have y1 := box3_span y1 s4 (by omega) (by omega)
  have y2 := box3_span y2 s4 (by omega) (by omega)
  have x1 := x1.span s4 (by omega)
  obtain ⟨y1_0, y1_1, y1_2⟩ := y1
  obtain ⟨y2_0, y2_1, y2_2⟩ := y2
  go_wp2_with fail
  have y1 := box3_mk y1_0 y1_1 y1_2
  clear y1_0 y1_1 y1_2
  have y2 := box3_mk y2_0 y2_1 y2_2
  clear y2_0 y2_1 y2_2
  refine (heldRing_any tP.store.length _ _ _ _ 1 _ _ x2 rfl (by omega) (by omega)).mono ?_
  rintro _ w5 ⟨rfl, s5⟩
  have z5 := s5.size
  have y1 := box3_span y1 s5 (by omega) (.inl (Nat.le_refl _))
  have x1 := x1.span s5 (.inl (Nat.le_refl _))
  have y2 := box3_span y2 s5 (by omega) (.inl (Nat.le_refl _))
  have x2 := x2.span s5 (.inl (Nat.le_refl _))
  simp only
  obtain ⟨y1_0, y1_1, y1_2⟩ := y1
  obtain ⟨y2_0, y2_1, y2_2⟩ := y2
  go_wp2_with fail
  have y1 := box3_mk y1_0 y1_1 y1_2
  clear y1_0 y1_1 y1_2
  have y2 := box3_mk y2_0 y2_1 y2_2
  clear y2_0 y2_1 y2_2
  refine (impl_newRing n _).mono ?_
  rintro _ w6 h
  obtain ⟨v3, rfl, x3, s6⟩ := h
  rw [← HO.out, ← HT.out] at x3
  rw [← HO.out]
  have z6 := s6.size
  have y1 := box3_span y1 s6 (by omega) (.inl (Nat.le_refl _))
  have x1 := x1.span s6 (.inl (Nat.le_refl _))
  have y2 := box3_span y2 s6 (by omega) (.inl (Nat.le_refl _))
  have x2 := x2.span s6 (.inl (Nat.le_refl _))
  obtain ⟨A3, c3, rfl⟩ := x3.form
  simp only
  obtain ⟨q0, q1, q2⟩ := box3_alloc y1 (by omega)
  go_wp2_with fail
  clear q0 q1 q2
  have y3 := box3_new w6 (.slice A3 tP.store.length c3) (.int .i64 tP.at_) (.int .i64 tP.cnt) 25
  have t2 := (Span.refl 0 0 w6).alloc (.cells #[.slice A3 tP.store.length c3, .int .i64 tP.at_, .int .i64 tP.cnt] 25)
  have x1 := x1.span t2 (.inl (Nat.le_refl _))
  have x2 := x2.span t2 (.inl (Nat.le_refl _))
  have x3 := x3.span t2 (.inl (Nat.le_refl _))
  have y1 := box3_span y1 t2 (by omega) (.inl (Nat.le_refl _))
  have y2 := box3_span y2 t2 (by omega) (.inl (Nat.le_refl _))
  have s6 := s6.trans t2
  obtain ⟨b3, hb3⟩ : ∃ b, b = w6.heap.size := ⟨_, rfl⟩
  have e3 : b3 < (w6.alloc (.cells #[.slice A3 tP.store.length c3, .int .i64 tP.at_, .int .i64 tP.cnt] 25)).heap.size := by simp [hb3]
  rw [← hb3] at y3 x3 z6 ⊢
  clear t2
  generalize w6.alloc (.cells #[.slice A3 tP.store.length c3, .int .i64 tP.at_, .int .i64 tP.cnt] 25) = w6 at *
  clear hb3
  refine (eqRing_true _ _ _ _ _ _ _ _ _ _ _ x3 x1 (SameR.refl _) (by omega)).mono ?_
  rintro _ w7 ⟨rfl, s7⟩
  have z7 := s7.size
  have y1 := box3_span y1 s7 (by omega) (.inl (Nat.le_refl _))
  have y2 := box3_span y2 s7 (by omega) (.inl (Nat.le_refl _))
  have y3 := box3_span y3 s7 (by omega) (.inl (Nat.le_refl _))
  have x2 := x2.span s7 (.inl (Nat.le_refl _))
  obtain ⟨y1_0, y1_1, y1_2⟩ := y1
  obtain ⟨y2_0, y2_1, y2_2⟩ := y2
  obtain ⟨y3_0, y3_1, y3_2⟩ := y3
  go_wp2_with fail
  have y1 := box3_mk y1_0 y1_1 y1_2
  clear y1_0 y1_1 y1_2
  have y2 := box3_mk y2_0 y2_1 y2_2
  clear y2_0 y2_1 y2_2
  have y3 := box3_mk y3_0 y3_1 y3_2
  clear y3_0 y3_1 y3_2
  refine (heldRing_any tP.store.length _ _ _ _ 1 _ _ x2 rfl (by omega) (by omega)).mono ?_
  rintro _ w8 ⟨rfl, s8⟩
  have z8 := s8.size
  simp only
  clear y1 y2 y3
  go_wp2_with fail
  go_ret
  refine ⟨rfl, ?_⟩
  have q1 := s1.to_below (.inl (Nat.le_refl _))
  have q2 := s2.below q1 (.inl (Nat.le_refl _)) (by omega)
  have q3 := s3.below q2 (.inl (Nat.le_refl _)) (by omega)
  have q4 := s4.below q3 (.inr (by omega)) (by omega)
  have q5 := s5.below q4 (.inl (Nat.le_refl _)) (by omega)
  have q6 := s6.below q5 (.inl (Nat.le_refl _)) (by omega)
  have q7 := s7.below q6 (.inl (Nat.le_refl _)) (by omega)
  exact s8.below q7 (.inl (Nat.le_refl _)) (by omega)

end Go.Proofs.Ytocmppilihiehaa
