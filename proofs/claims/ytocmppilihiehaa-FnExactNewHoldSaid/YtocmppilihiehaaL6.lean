/- The law FnExactNewHold: the call. -/
import Derived.Test.YtocmppilihiehaaY6
import Derived.Outline
namespace Go.Proofs.Ytocmppilihiehaa
open Go.RowKit

set_option maxRecDepth 100000 in
set_option maxHeartbeats 4000000 in
theorem law_newHold (n : Int) (_h1 : -9223372036854775808 ≤ n) (_h2 : n ≤ 9223372036854775807) (w : World) : Calls Try.prog 12 #[.int .i64 n] w (Says w) := by
  have l1 := holdO_len n
  obtain ⟨o, ho⟩ : ∃ o, o = holdO n := ⟨_, rfl⟩
  have HO := Lib.hid ho
  rw [← ho] at l1
  clear ho
  obtain ⟨tP, ht⟩ : ∃ t, t = o.getD zeroModule := ⟨_, rfl⟩
  have HT := Lib.hid ht
  rw [← ht] at l1
  clear ht _h1 _h2
  go_enter Try.func12, Try.ntmps12
  go_wp2_with fail
  refine (spec_newHold n _).mono ?_
  rintro _ w1 h
  obtain ⟨v1, rfl, x1, s1⟩ := h
  rw [← HO.out, ← HT.out] at x1
  rw [← HO.out]
  have z1 := s1.size
  obtain ⟨A1, c1, rfl⟩ := x1.form
  simp only
  go_wp2_with fail
  have y1 := box11_new w1 (.int .i64 tP.kind) (.complex .f32 tP.turn.1 tP.turn.2) (.complex .f32 tP.state.1 tP.state.2) (.float .f32 tP.level) (.slice A1 tP.ring.store.length c1) (.int .i64 tP.ring.at_) (.int .i64 tP.ring.cnt) (.slice none 0 0) (.slice none 0 0) (.int .i64 tP.count) (.int .i64 tP.left) 44
  have t2 := (Span.refl 0 0 w1).alloc (.cells #[.int .i64 tP.kind, .complex .f32 tP.turn.1 tP.turn.2, .complex .f32 tP.state.1 tP.state.2, .float .f32 tP.level, .slice A1 tP.ring.store.length c1, .int .i64 tP.ring.at_, .int .i64 tP.ring.cnt, .slice none 0 0, .slice none 0 0, .int .i64 tP.count, .int .i64 tP.left] 44)
  have x1 := x1.span t2 (.inl (Nat.le_refl _))
  have s1 := s1.trans t2
  obtain ⟨b1, hb1⟩ : ∃ b, b = w1.heap.size := ⟨_, rfl⟩
  have e1 : b1 < (w1.alloc (.cells #[.int .i64 tP.kind, .complex .f32 tP.turn.1 tP.turn.2, .complex .f32 tP.state.1 tP.state.2, .float .f32 tP.level, .slice A1 tP.ring.store.length c1, .int .i64 tP.ring.at_, .int .i64 tP.ring.cnt, .slice none 0 0, .slice none 0 0, .int .i64 tP.count, .int .i64 tP.left] 44)).heap.size := by simp [hb1]
  rw [← hb1] at y1 x1 z1 ⊢
  clear t2
  generalize w1.alloc (.cells #[.int .i64 tP.kind, .complex .f32 tP.turn.1 tP.turn.2, .complex .f32 tP.state.1 tP.state.2, .float .f32 tP.level, .slice A1 tP.ring.store.length c1, .int .i64 tP.ring.at_, .int .i64 tP.ring.cnt, .slice none 0 0, .slice none 0 0, .int .i64 tP.count, .int .i64 tP.left] 44) = w1 at *
  clear hb1
  refine (impl_newHold n _).mono ?_
  rintro _ w2 h
  obtain ⟨v2, rfl, x2, s2⟩ := h
  rw [← HO.out, ← HT.out] at x2
  rw [← HO.out]
  have z2 := s2.size
  have y1 := box11_span y1 s2 (by omega) (.inl (Nat.le_refl _))
  have x1 := x1.span s2 (.inl (Nat.le_refl _))
  obtain ⟨A2, c2, rfl⟩ := x2.form
  simp only
  obtain ⟨q0, q1, q2, q3, q4, q5, q6, q7, q8, q9, q10⟩ := box11_alloc y1 (by omega)
  go_wp2_with fail
  clear q0 q1 q2 q3 q4 q5 q6 q7 q8 q9 q10
  have y2 := box11_new w2 (.int .i64 tP.kind) (.complex .f32 tP.turn.1 tP.turn.2) (.complex .f32 tP.state.1 tP.state.2) (.float .f32 tP.level) (.slice A2 tP.ring.store.length c2) (.int .i64 tP.ring.at_) (.int .i64 tP.ring.cnt) (.slice none 0 0) (.slice none 0 0) (.int .i64 tP.count) (.int .i64 tP.left) 44
  have t2 := (Span.refl 0 0 w2).alloc (.cells #[.int .i64 tP.kind, .complex .f32 tP.turn.1 tP.turn.2, .complex .f32 tP.state.1 tP.state.2, .float .f32 tP.level, .slice A2 tP.ring.store.length c2, .int .i64 tP.ring.at_, .int .i64 tP.ring.cnt, .slice none 0 0, .slice none 0 0, .int .i64 tP.count, .int .i64 tP.left] 44)
  have x1 := x1.span t2 (.inl (Nat.le_refl _))
  have x2 := x2.span t2 (.inl (Nat.le_refl _))
  have y1 := box11_span y1 t2 (by omega) (.inl (Nat.le_refl _))
  have s2 := s2.trans t2
  obtain ⟨b2, hb2⟩ : ∃ b, b = w2.heap.size := ⟨_, rfl⟩
  have e2 : b2 < (w2.alloc (.cells #[.int .i64 tP.kind, .complex .f32 tP.turn.1 tP.turn.2, .complex .f32 tP.state.1 tP.state.2, .float .f32 tP.level, .slice A2 tP.ring.store.length c2, .int .i64 tP.ring.at_, .int .i64 tP.ring.cnt, .slice none 0 0, .slice none 0 0, .int .i64 tP.count, .int .i64 tP.left] 44)).heap.size := by simp [hb2]
  rw [← hb2] at y2 x2 z2 ⊢
  clear t2
  generalize w2.alloc (.cells #[.int .i64 tP.kind, .complex .f32 tP.turn.1 tP.turn.2, .complex .f32 tP.state.1 tP.state.2, .float .f32 tP.level, .slice A2 tP.ring.store.length c2, .int .i64 tP.ring.at_, .int .i64 tP.ring.cnt, .slice none 0 0, .slice none 0 0, .int .i64 tP.count, .int .i64 tP.left] 44) = w2 at *
  clear hb2
  refine (eqModule_true _ _ _ _ _ _ _ _ _ _ _ x2 x1 (SameM0.refl _) (by omega)).mono ?_
  rintro _ w3 ⟨rfl, s3⟩
  have z3 := s3.size
  have y1 := box11_span y1 s3 (by omega) (.inl (Nat.le_refl _))
  have x1 := x1.span s3 (.inl (Nat.le_refl _))
  have y2 := box11_span y2 s3 (by omega) (.inl (Nat.le_refl _))
  have x2 := x2.span s3 (.inl (Nat.le_refl _))
  obtain ⟨y1_0, y1_1, y1_2, y1_3, y1_4, y1_5, y1_6, y1_7, y1_8, y1_9, y1_10⟩ := y1
  obtain ⟨y2_0, y2_1, y2_2, y2_3, y2_4, y2_5, y2_6, y2_7, y2_8, y2_9, y2_10⟩ := y2
  go_wp2_with fail
  have y1 := box11_mk y1_0 y1_1 y1_2 y1_3 y1_4 y1_5 y1_6 y1_7 y1_8 y1_9 y1_10
  clear y1_0 y1_1 y1_2 y1_3 y1_4 y1_5 y1_6 y1_7 y1_8 y1_9 y1_10
  have y2 := box11_mk y2_0 y2_1 y2_2 y2_3 y2_4 y2_5 y2_6 y2_7 y2_8 y2_9 y2_10
  clear y2_0 y2_1 y2_2 y2_3 y2_4 y2_5 y2_6 y2_7 y2_8 y2_9 y2_10
  refine (markModule_any tP _ _ 1 _ _ x2 (by omega) (by omega) (by omega)).mono ?_
  rintro _ w4 ⟨rfl, x2, s4⟩
  have z4 := s4.size
  have y1 := box11_span y1 s4 (by omega) (by omega)
  have y2 := box11_span y2 s4 (by omega) (by omega)
  have x1 := x1.span s4 (by omega)
  obtain ⟨y1_0, y1_1, y1_2, y1_3, y1_4, y1_5, y1_6, y1_7, y1_8, y1_9, y1_10⟩ := y1
  obtain ⟨y2_0, y2_1, y2_2, y2_3, y2_4, y2_5, y2_6, y2_7, y2_8, y2_9, y2_10⟩ := y2
  go_wp2_with fail
  have y1 := box11_mk y1_0 y1_1 y1_2 y1_3 y1_4 y1_5 y1_6 y1_7 y1_8 y1_9 y1_10
  clear y1_0 y1_1 y1_2 y1_3 y1_4 y1_5 y1_6 y1_7 y1_8 y1_9 y1_10
  have y2 := box11_mk y2_0 y2_1 y2_2 y2_3 y2_4 y2_5 y2_6 y2_7 y2_8 y2_9 y2_10
  clear y2_0 y2_1 y2_2 y2_3 y2_4 y2_5 y2_6 y2_7 y2_8 y2_9 y2_10
  refine (heldModule_any tP.ring.store.length _ _ _ _ 1 _ _ x2 rfl (by omega) (by omega)).mono ?_
  rintro _ w5 ⟨rfl, s5⟩
  have z5 := s5.size
  have y1 := box11_span y1 s5 (by omega) (.inl (Nat.le_refl _))
  have x1 := x1.span s5 (.inl (Nat.le_refl _))
  have y2 := box11_span y2 s5 (by omega) (.inl (Nat.le_refl _))
  have x2 := x2.span s5 (.inl (Nat.le_refl _))
  simp only
  obtain ⟨y1_0, y1_1, y1_2, y1_3, y1_4, y1_5, y1_6, y1_7, y1_8, y1_9, y1_10⟩ := y1
  obtain ⟨y2_0, y2_1, y2_2, y2_3, y2_4, y2_5, y2_6, y2_7, y2_8, y2_9, y2_10⟩ := y2
  go_wp2_with fail
  have y1 := box11_mk y1_0 y1_1 y1_2 y1_3 y1_4 y1_5 y1_6 y1_7 y1_8 y1_9 y1_10
  clear y1_0 y1_1 y1_2 y1_3 y1_4 y1_5 y1_6 y1_7 y1_8 y1_9 y1_10
  have y2 := box11_mk y2_0 y2_1 y2_2 y2_3 y2_4 y2_5 y2_6 y2_7 y2_8 y2_9 y2_10
  clear y2_0 y2_1 y2_2 y2_3 y2_4 y2_5 y2_6 y2_7 y2_8 y2_9 y2_10
  refine (impl_newHold n _).mono ?_
  rintro _ w6 h
  obtain ⟨v3, rfl, x3, s6⟩ := h
  rw [← HO.out, ← HT.out] at x3
  rw [← HO.out]
  have z6 := s6.size
  have y1 := box11_span y1 s6 (by omega) (.inl (Nat.le_refl _))
  have x1 := x1.span s6 (.inl (Nat.le_refl _))
  have y2 := box11_span y2 s6 (by omega) (.inl (Nat.le_refl _))
  have x2 := x2.span s6 (.inl (Nat.le_refl _))
  obtain ⟨A3, c3, rfl⟩ := x3.form
  simp only
  obtain ⟨q0, q1, q2, q3, q4, q5, q6, q7, q8, q9, q10⟩ := box11_alloc y1 (by omega)
  go_wp2_with fail
  clear q0 q1 q2 q3 q4 q5 q6 q7 q8 q9 q10
  have y3 := box11_new w6 (.int .i64 tP.kind) (.complex .f32 tP.turn.1 tP.turn.2) (.complex .f32 tP.state.1 tP.state.2) (.float .f32 tP.level) (.slice A3 tP.ring.store.length c3) (.int .i64 tP.ring.at_) (.int .i64 tP.ring.cnt) (.slice none 0 0) (.slice none 0 0) (.int .i64 tP.count) (.int .i64 tP.left) 44
  have t2 := (Span.refl 0 0 w6).alloc (.cells #[.int .i64 tP.kind, .complex .f32 tP.turn.1 tP.turn.2, .complex .f32 tP.state.1 tP.state.2, .float .f32 tP.level, .slice A3 tP.ring.store.length c3, .int .i64 tP.ring.at_, .int .i64 tP.ring.cnt, .slice none 0 0, .slice none 0 0, .int .i64 tP.count, .int .i64 tP.left] 44)
  have x1 := x1.span t2 (.inl (Nat.le_refl _))
  have x2 := x2.span t2 (.inl (Nat.le_refl _))
  have x3 := x3.span t2 (.inl (Nat.le_refl _))
  have y1 := box11_span y1 t2 (by omega) (.inl (Nat.le_refl _))
  have y2 := box11_span y2 t2 (by omega) (.inl (Nat.le_refl _))
  have s6 := s6.trans t2
  obtain ⟨b3, hb3⟩ : ∃ b, b = w6.heap.size := ⟨_, rfl⟩
  have e3 : b3 < (w6.alloc (.cells #[.int .i64 tP.kind, .complex .f32 tP.turn.1 tP.turn.2, .complex .f32 tP.state.1 tP.state.2, .float .f32 tP.level, .slice A3 tP.ring.store.length c3, .int .i64 tP.ring.at_, .int .i64 tP.ring.cnt, .slice none 0 0, .slice none 0 0, .int .i64 tP.count, .int .i64 tP.left] 44)).heap.size := by simp [hb3]
  rw [← hb3] at y3 x3 z6 ⊢
  clear t2
  generalize w6.alloc (.cells #[.int .i64 tP.kind, .complex .f32 tP.turn.1 tP.turn.2, .complex .f32 tP.state.1 tP.state.2, .float .f32 tP.level, .slice A3 tP.ring.store.length c3, .int .i64 tP.ring.at_, .int .i64 tP.ring.cnt, .slice none 0 0, .slice none 0 0, .int .i64 tP.count, .int .i64 tP.left] 44) = w6 at *
  clear hb3
  refine (eqModule_true _ _ _ _ _ _ _ _ _ _ _ x3 x1 (SameM0.refl _) (by omega)).mono ?_
  rintro _ w7 ⟨rfl, s7⟩
  have z7 := s7.size
  have y1 := box11_span y1 s7 (by omega) (.inl (Nat.le_refl _))
  have y2 := box11_span y2 s7 (by omega) (.inl (Nat.le_refl _))
  have y3 := box11_span y3 s7 (by omega) (.inl (Nat.le_refl _))
  have x2 := x2.span s7 (.inl (Nat.le_refl _))
  obtain ⟨y1_0, y1_1, y1_2, y1_3, y1_4, y1_5, y1_6, y1_7, y1_8, y1_9, y1_10⟩ := y1
  obtain ⟨y2_0, y2_1, y2_2, y2_3, y2_4, y2_5, y2_6, y2_7, y2_8, y2_9, y2_10⟩ := y2
  obtain ⟨y3_0, y3_1, y3_2, y3_3, y3_4, y3_5, y3_6, y3_7, y3_8, y3_9, y3_10⟩ := y3
  go_wp2_with fail
  have y1 := box11_mk y1_0 y1_1 y1_2 y1_3 y1_4 y1_5 y1_6 y1_7 y1_8 y1_9 y1_10
  clear y1_0 y1_1 y1_2 y1_3 y1_4 y1_5 y1_6 y1_7 y1_8 y1_9 y1_10
  have y2 := box11_mk y2_0 y2_1 y2_2 y2_3 y2_4 y2_5 y2_6 y2_7 y2_8 y2_9 y2_10
  clear y2_0 y2_1 y2_2 y2_3 y2_4 y2_5 y2_6 y2_7 y2_8 y2_9 y2_10
  have y3 := box11_mk y3_0 y3_1 y3_2 y3_3 y3_4 y3_5 y3_6 y3_7 y3_8 y3_9 y3_10
  clear y3_0 y3_1 y3_2 y3_3 y3_4 y3_5 y3_6 y3_7 y3_8 y3_9 y3_10
  refine (heldModule_any tP.ring.store.length _ _ _ _ 1 _ _ x2 rfl (by omega) (by omega)).mono ?_
  rintro _ w8 ⟨rfl, s8⟩
  have z8 := s8.size
  simp only
  clear y1 y2 y3
  go_wp2_with fail
  go_ret
  refine ⟨rfl, ?_⟩
  have q1 := s1.to_below (.inl (Nat.le_refl _))
  have q2 := s2.below q1 (.inl (Nat.le_refl _)) (by omega)
  have q3 := s3.below q2 (.inl (Nat.le_refl _)) (by omega)
  have q4 := s4.below q3 (.inr (by omega)) (by omega)
  have q5 := s5.below q4 (.inl (Nat.le_refl _)) (by omega)
  have q6 := s6.below q5 (.inl (Nat.le_refl _)) (by omega)
  have q7 := s7.below q6 (.inl (Nat.le_refl _)) (by omega)
  exact s8.below q7 (.inl (Nat.le_refl _)) (by omega)

end Go.Proofs.Ytocmppilihiehaa
