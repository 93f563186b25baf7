/- The model's rings: a sample is put. -/
import Derived.Test.YtfafkdpefdpnkaaJq20
import Derived.Deep.DeepCutAuto
import Derived.Outline
namespace Go.Proofs.Ytfafkdpefdpnkaa
open Go.RowKit

set_option maxRecDepth 100000 in
set_option maxHeartbeats 8000000 in
theorem l4Push_full (r : Rn) (hv : VR r) (z : Cx) (hc : r.2.2 = r.1.length) (o : Bool) (b lo hi : Nat) (v : Value) (w : World) (hx : HasS cxV o b lo hi w v r.1) :
    Calls Try.prog 64 #[.agg #[v, .int .i64 (r.2.1 : Int), .int .i64 (r.2.2 : Int)], .complex .f32 z.1 z.2] w (PushedL r z w) := by
  obtain ⟨xs, a, k⟩ := r
  obtain ⟨z1, z2⟩ := z
  have HV := Lib.hid hv
  have HX := Lib.hid hx
  have h1 := hv.pos
  have h2 := hv.most
  have h3 := hv.at_
  have h4 := hv.cnt
  simp only at hc h1 h2 h3 h4 hx HX ⊢
  obtain ⟨A, p, rfl, -, -⟩ := hx
  obtain ⟨⟨xs3, a3, k3⟩, hT⟩ : ∃ t, t = takeR (xs, a, k) := ⟨_, rfl⟩
  obtain ⟨⟨o1, o2⟩, hO⟩ : ∃ t, t = itemR xs a 0 := ⟨_, rfl⟩
  have TK := fun o b lo hi v w h => l4Take_any (xs, a, k) hv (show 0 < k by omega) o b lo hi v w h
  unfold TakenL at TK
  simp only [← hT, ← hO] at TK
  have hv3 : VR (xs3, a3, k3) := by rw [hT]; exact hv.take (show 0 < k by omega)
  have hl3 : xs3.length = xs.length := by have := takeR_len (xs, a, k); rw [← hT] at this; exact this
  have hk3 : k3 = k - 1 := by have := takeR_cnt (xs, a, k); rw [← hT] at this; exact this
  have HPO := Lib.hid (show pushR (xs, a, k) (z1, z2) = putR (xs3, a3, k3) (z1, z2) by rw [hT]; exact if_pos hc)
  have HOL := Lib.hid (show oldR (xs, a, k) = (o1, o2) by rw [hO]; exact if_pos hc)
  have LCP := Lib.hid (fun w h => l4Copy_any xs (a : Int) (k : Int) o b lo hi (.slice A xs.length p) w h (by omega))
  obtain ⟨n, hn⟩ : ∃ n, n = xs.length := ⟨_, rfl⟩
  have HN := Lib.hid hn
  rw [← hn] at LCP
  rw [← hn] at hl3 hc h1 h2 h3 h4 HX ⊢
  have HN3 := Lib.hid hl3.symm
  have H3 := Lib.hid (show k3 < n ∧ a3 < n from ⟨by omega, by have := hv3.at_; simp only at this; omega⟩)
  have hkn : k = n := hc
  subst hkn
  have HB := Lib.hid (show 1 ≤ k ∧ k ≤ 16 ∧ a < k from ⟨h1, h2, h3⟩)
  have HTK := Lib.hid TK
  clear hn hv h1 h2 h3 h4 hc hl3 hk3 hv3 hT hO TK
  have S0 := Lib.hid ((Span.refl 0 0 w).alloc (.cells #[.slice A k p, .int .i64 (a : Int), .int .i64 (k : Int)] 52))
  have YA := Lib.hid (Bx.new (w.alloc (.cells #[.slice A k p, .int .i64 (a : Int), .int .i64 (k : Int)] 52)) #[.slice none 0 0, .int .i64 0, .int .i64 0] 52)
  rw [show (w.alloc (.cells #[.slice A k p, .int .i64 (a : Int), .int .i64 (k : Int)] 52)).heap.size = w.heap.size + 1 by simp] at YA
  have S1 := Lib.hid (S0.out.alloc (.cells #[.slice none 0 0, .int .i64 0, .int .i64 0] 52))
  unfold PushedL
  rw [HPO.out, HOL.out]
  go_enter Try.func64, Try.ntmps64
  go_wp2_with fail
  refine (LCP.out _ (HX.out.span S1.out (.inl (Nat.le_refl _)))).mono ?_
  rintro _ w2 ⟨v2, b2, rfl, h2, s2⟩
  obtain ⟨A2, p2, rfl, -, -⟩ := id h2
  obtain ⟨off2, rfl, g1, g2, g3⟩ := h2.addrT (by have := HN.out; have := HB.out; omega)
  rw [← HN.out] at h2 ⊢
  have Z1 : Hid (w.heap.size + 2 ≤ b2 ∧ b2 < w2.heap.size) := by unfold Hid; simp at g1; omega
  have H2 := Lib.hid (h2.alloc (.cells #[(.slice (some ⟨b2, off2, none⟩) k p2), .int .i64 (a : Int), .int .i64 (k : Int)] 52))
  have Y2 := Lib.hid ((YA.out.keep s2).alloc (.cells #[(.slice (some ⟨b2, off2, none⟩) k p2), .int .i64 (a : Int), .int .i64 (k : Int)] 52))
  have S2 := Lib.hid ((S1.out.trans s2).alloc (.cells #[(.slice (some ⟨b2, off2, none⟩) k p2), .int .i64 (a : Int), .int .i64 (k : Int)] 52))
  have PX := Lib.hid (Bx.new w2 #[(.slice (some ⟨b2, off2, none⟩) k p2), .int .i64 (a : Int), .int .i64 (k : Int)] 52)
  have HH2 : Hid (w2.heap.size + 1 ≤ (w2.alloc (.cells #[(.slice (some ⟨b2, off2, none⟩) k p2), .int .i64 (a : Int), .int .i64 (k : Int)] 52)).heap.size) := by unfold Hid; simp
  obtain ⟨pb, hpb⟩ : ∃ t, t = w2.heap.size := ⟨_, rfl⟩
  clear h2 s2 g1 g2 g3
  go_wp2_with fail
  rw [← hpb] at PX Z1 HH2 H2 ⊢
  clear hpb
  generalize w2.alloc (.cells #[(.slice (some ⟨b2, off2, none⟩) k p2), .int .i64 (a : Int), .int .i64 (k : Int)] 52) = w3 at *
  refine (HTK.out true b2 _ _ _ _ H2.out).mono ?_
  rintro _ w5 ⟨v4, b4, rfl, h4, s4⟩
  obtain ⟨A4, p4, rfl, -, -⟩ := id h4
  obtain ⟨off4, rfl, g1, g2, g3⟩ := h4.addrT (by rw [← HN3.out]; have := HB.out; omega)
  rw [← HN3.out] at h4 ⊢
  have HG := Lib.hid (show w.heap.size + 2 ≤ pb ∧ pb < b4 from by have := Z1.out; have := HH2.out; omega)
  have PX5 := PX.out.keep s4
  have px := PX5.cells
  have pf := PX5.thaw
  have PX4 := Lib.hid (PX5.set3 (.slice (some ⟨b4, off4, none⟩) k p4) (.int .i64 (a3 : Int)) (.int .i64 (k3 : Int)))
  have H4 := Lib.hid (h4.weak (lo' := w.heap.size) (hi' := w5.heap.size) (by have := Z1.out; have := HH2.out; omega) (.inl (Nat.le_refl _)))
  have Y5 := Lib.hid (Y2.out.keep s4)
  have S5 := Lib.hid (S2.out.trans s4)
  clear h4 s4 g1 g2 g3 PX5
  go_wp2_with fail
  have hbb := HG.out
  have T4 := (Span.refl pb (pb + 1) w5).put3 (b := pb) ⟨Nat.le_refl _, Nat.lt_succ_self _⟩ (.slice (some ⟨b4, off4, none⟩) k p4) (.int .i64 (a3 : Int)) (.int .i64 (k3 : Int))
  have Y4 := Lib.hid (Y5.out.span T4 (by omega))
  have S4 := Lib.hid (S5.out.set3 (b := pb) (by omega) (.slice (some ⟨b4, off4, none⟩) k p4) (.int .i64 (a3 : Int)) (.int .i64 (k3 : Int)))
  have HS4 := Lib.hid (H4.out.span T4 (by omega))
  clear px pf hbb T4 Y5 S5 H4 H2 PX Y2 S2
  generalize ((w5.setCell ⟨pb, 0, none⟩ (.slice (some ⟨b4, off4, none⟩) k p4)).setCell ⟨pb, 1, none⟩ (.int .i64 (a3 : Int))).setCell ⟨pb, 2, none⟩ (.int .i64 (k3 : Int)) = w4 at *
  obtain ⟨q, hqe⟩ : ∃ q, q = (a3 + k3) % k := ⟨_, rfl⟩
  have hq : q < k := by rw [hqe]; exact Nat.mod_lt _ (by have := HB.out; omega)
  have HQ := Lib.hid (show q < k ∧ q = (a3 + k3) % k from ⟨hq, hqe⟩)
  have i2 : ((a3 : Int) + (k3 : Int)).tmod (k : Int) = (q : Int) := by rw [← Int.natCast_add, ← Int.ofNat_tmod, hqe]
  have j0 : (0 : Int) ≤ (q : Int) := by omega
  have j1 : (q : Int) < (k : Int) := by omega
  have j2 : ¬ ((k : Int) = 0) := by have := HB.out; omega
  have j3 : ¬ (k = 0) := by have := HB.out; omega
  have j4 : (k : Int) ≤ 16 := by have := HB.out; omega
  have i5 : (0 : Int) ≤ (k3 : Int) := by omega
  have i3 : (k3 : Int) ≤ 16 := by have := H3.out; have := HB.out; omega
  have i4 : (a3 : Int) ≤ 16 := by have := H3.out; have := HB.out; omega
  have i6 : (0 : Int) ≤ (a3 : Int) := by omega
  obtain ⟨⟨u, hu⟩, hfz⟩ := HS4.out.cellT (show q < xs3.length by rw [← HN3.out]; exact hq)
  have p4c := PX4.out.cells
  have p4f := PX4.out.thaw
  have y4c := Y4.out.cells
  have y4f := Y4.out.thaw
  have hbb := HG.out
  have n1 : ¬ b4 = pb := by omega
  have n2 : ¬ pb = b4 := by omega
  have n3 : ¬ b4 = w.heap.size + 1 := by omega
  have n4 : ¬ w.heap.size + 1 = b4 := by omega
  have n5 : ¬ pb = w.heap.size + 1 := by omega
  have n6 : ¬ w.heap.size + 1 = pb := by omega
  clear hq hqe hbb
  go_region
  all_goals
    go_wp2_with fail
    have hbb := HG.out
    have H5 := HS4.out.put q (z1, z2) (by rw [← HN3.out]; exact HQ.out.1)
    have Y5 := (((Y4.out.other (a := ⟨b4, off4 + q, none⟩) n3 (.complex .f32 z1 z2)).other (a := ⟨pb, 2, none⟩) n5 (.int .i64 ((k3 : Int) + 1)))).set3 (.slice (some ⟨b4, off4, none⟩) k p4) (.int .i64 (a3 : Int)) (.int .i64 ((k3 : Int) + 1))
    have Q1 := (((S4.out.setCell (p := ⟨b4, off4 + q, none⟩) (.inr (by simp only; omega)) (.complex .f32 z1 z2)).setCell (p := ⟨pb, 2, none⟩) (.inr (by simp only; omega)) (.int .i64 ((k3 : Int) + 1)))).set3 (b := w.heap.size + 1) (by omega) (.slice (some ⟨b4, off4, none⟩) k p4) (.int .i64 (a3 : Int)) (.int .i64 ((k3 : Int) + 1))
    have T1 := ((Span.refl pb (pb + 1) (w4.setCell ⟨b4, off4 + q, none⟩ (.complex .f32 z1 z2))).setCell (p := ⟨pb, 2, none⟩) (.inl ⟨Nat.le_refl _, Nat.lt_succ_self _⟩) (.int .i64 ((k3 : Int) + 1)))
    have T2 := (Span.refl (w.heap.size + 1) (w.heap.size + 2) ((w4.setCell ⟨b4, off4 + q, none⟩ (.complex .f32 z1 z2)).setCell ⟨pb, 2, none⟩ (.int .i64 ((k3 : Int) + 1)))).put3 (b := w.heap.size + 1) (by omega) (.slice (some ⟨b4, off4, none⟩) k p4) (.int .i64 (a3 : Int)) (.int .i64 ((k3 : Int) + 1))
    have H6 := ((show HasS cxV true b4 _ _ (w4.setCell ⟨b4, off4 + q, none⟩ (.complex .f32 z1 z2)) (.slice (some ⟨b4, off4, none⟩) k p4) (xs3.set q (z1, z2)) from H5).span T1 (by omega)).span T2 (by omega)
    have d1 := Y5.cells
    have e9 : putR (xs3, a3, k3) (z1, z2) = (xs3.set q (z1, z2), a3, k3 + 1) := by unfold putR; simp only; rw [← HN3.out, ← HQ.out.2]
    have FIN : ∀ W', (W' = ((((w4.setCell ⟨b4, off4 + q, none⟩ (.complex .f32 z1 z2)).setCell ⟨pb, 2, none⟩ (.int .i64 ((k3 : Int) + 1))).setCell ⟨w.heap.size + 1, 0, none⟩ (.slice (some ⟨b4, off4, none⟩) k p4)).setCell ⟨w.heap.size + 1, 1, none⟩ (.int .i64 (a3 : Int))).setCell ⟨w.heap.size + 1, 2, none⟩ (.int .i64 ((k3 : Int) + 1)) ∨ ∃ m, W' = (((((w4.setCell ⟨b4, off4 + q, none⟩ (.complex .f32 z1 z2)).setCell ⟨pb, 2, none⟩ (.int .i64 ((k3 : Int) + 1))).setCell ⟨w.heap.size + 1, 0, none⟩ (.slice (some ⟨b4, off4, none⟩) k p4)).setCell ⟨w.heap.size + 1, 1, none⟩ (.int .i64 (a3 : Int))).setCell ⟨w.heap.size + 1, 2, none⟩ (.int .i64 ((k3 : Int) + 1))).drewN m) → ∃ v b, Ending.returned (.tuple #[.agg #[(.slice (some ⟨b4, off4, none⟩) k p4), .int .i64 (a3 : Int), .int .i64 ((k3 : Int) + 1)], .complex .f32 o1 o2]) = .returned (.tuple #[.agg #[v, .int .i64 ((putR (xs3, a3, k3) (z1, z2)).2.1 : Int), .int .i64 ((putR (xs3, a3, k3) (z1, z2)).2.2 : Int)], .complex .f32 o1 o2]) ∧ HasS cxV true b w.heap.size W'.heap.size W' v (putR (xs3, a3, k3) (z1, z2)).1 ∧ Span 0 0 w W' := by
      intro W' hW'
      rw [e9]
      rcases hW' with rfl | ⟨m, rfl⟩
      · exact ⟨_, b4, rfl, H6.weak (by omega) (.inr (by simp [World.setCell])), Q1⟩
      · exact ⟨_, b4, rfl, (H6.weak (by omega) (.inr (by simp [World.setCell]))).drewN m, Q1.drewN m⟩
    exact bodyPost_ret (v := .tuple #[.agg #[(.slice (some ⟨b4, off4, none⟩) k p4), .int .i64 (a3 : Int), .int .i64 ((k3 : Int) + 1)], .complex .f32 o1 o2]) (by simp [results, Try.results64, go_sem, d1, cxV]) rfl (FIN _ (by first | exact .inl rfl | exact .inr ⟨_, rfl⟩ | exact .inr ⟨1, rfl⟩))

set_option maxRecDepth 100000 in
set_option maxHeartbeats 8000000 in
theorem l4Push_room (r : Rn) (hv : VR r) (z : Cx) (hc : ¬ r.2.2 = r.1.length) (o : Bool) (b lo hi : Nat) (v : Value) (w : World) (hx : HasS cxV o b lo hi w v r.1) :
    Calls Try.prog 64 #[.agg #[v, .int .i64 (r.2.1 : Int), .int .i64 (r.2.2 : Int)], .complex .f32 z.1 z.2] w (PushedL r z w) := by
  obtain ⟨xs, a, k⟩ := r
  obtain ⟨z1, z2⟩ := z
  have HV := Lib.hid hv
  have HX := Lib.hid hx
  have h1 := hv.pos
  have h2 := hv.most
  have h3 := hv.at_
  have h4 := hv.cnt
  simp only at hc h1 h2 h3 h4 hx HX ⊢
  obtain ⟨A, p, rfl, -, -⟩ := hx
  have HPO := Lib.hid (show pushR (xs, a, k) (z1, z2) = putR (xs, a, k) (z1, z2) from if_neg hc)
  have HOL := Lib.hid (show oldR (xs, a, k) = (0, 0) from if_neg hc)
  have LCP := Lib.hid (fun w h => l4Copy_any xs (a : Int) (k : Int) o b lo hi (.slice A xs.length p) w h (by omega))
  obtain ⟨n, hn⟩ : ∃ n, n = xs.length := ⟨_, rfl⟩
  have HN := Lib.hid hn
  rw [← hn] at LCP
  rw [← hn] at hc h1 h2 h3 h4 HX ⊢
  have hkn : ¬ k = n := hc
  obtain ⟨xs3, hxs3⟩ : ∃ t, t = xs := ⟨_, rfl⟩
  obtain ⟨a3, ha3⟩ : ∃ t, t = a := ⟨_, rfl⟩
  obtain ⟨k3, hk3⟩ : ∃ t, t = k := ⟨_, rfl⟩
  subst hxs3 ha3 hk3
  have HN3 := HN
  have H3 := Lib.hid (show k3 < n ∧ a3 < n from ⟨by omega, h3⟩)
  have HB := Lib.hid (show 1 ≤ n ∧ n ≤ 16 ∧ a3 < n from ⟨h1, h2, h3⟩)
  clear hn hv h1 h2 h3 h4 hc
  have S0 := Lib.hid ((Span.refl 0 0 w).alloc (.cells #[.slice A n p, .int .i64 (a3 : Int), .int .i64 (k3 : Int)] 52))
  have YA := Lib.hid (Bx.new (w.alloc (.cells #[.slice A n p, .int .i64 (a3 : Int), .int .i64 (k3 : Int)] 52)) #[.slice none 0 0, .int .i64 0, .int .i64 0] 52)
  rw [show (w.alloc (.cells #[.slice A n p, .int .i64 (a3 : Int), .int .i64 (k3 : Int)] 52)).heap.size = w.heap.size + 1 by simp] at YA
  have S1 := Lib.hid (S0.out.alloc (.cells #[.slice none 0 0, .int .i64 0, .int .i64 0] 52))
  unfold PushedL
  rw [HPO.out, HOL.out]
  go_enter Try.func64, Try.ntmps64
  go_wp2_with fail
  refine (LCP.out _ (HX.out.span S1.out (.inl (Nat.le_refl _)))).mono ?_
  rintro _ w2 ⟨v2, b2, rfl, h2, s2⟩
  obtain ⟨A2, p2, rfl, -, -⟩ := id h2
  obtain ⟨off2, rfl, g1, g2, g3⟩ := h2.addrT (by have := HN.out; have := HB.out; omega)
  rw [← HN.out] at h2 ⊢
  have Z1 : Hid (w.heap.size + 2 ≤ b2 ∧ b2 < w2.heap.size) := by unfold Hid; simp at g1; omega
  have H2 := Lib.hid (h2.alloc (.cells #[(.slice (some ⟨b2, off2, none⟩) n p2), .int .i64 (a3 : Int), .int .i64 (k3 : Int)] 52))
  have Y2 := Lib.hid ((YA.out.keep s2).alloc (.cells #[(.slice (some ⟨b2, off2, none⟩) n p2), .int .i64 (a3 : Int), .int .i64 (k3 : Int)] 52))
  have S2 := Lib.hid ((S1.out.trans s2).alloc (.cells #[(.slice (some ⟨b2, off2, none⟩) n p2), .int .i64 (a3 : Int), .int .i64 (k3 : Int)] 52))
  have PX := Lib.hid (Bx.new w2 #[(.slice (some ⟨b2, off2, none⟩) n p2), .int .i64 (a3 : Int), .int .i64 (k3 : Int)] 52)
  have HH2 : Hid (w2.heap.size + 1 ≤ (w2.alloc (.cells #[(.slice (some ⟨b2, off2, none⟩) n p2), .int .i64 (a3 : Int), .int .i64 (k3 : Int)] 52)).heap.size) := by unfold Hid; simp
  obtain ⟨pb, hpb⟩ : ∃ t, t = w2.heap.size := ⟨_, rfl⟩
  clear h2 s2 g1 g2 g3
  go_wp2_with fail
  rw [← hpb] at PX Z1 HH2 H2 ⊢
  clear hpb
  generalize w2.alloc (.cells #[(.slice (some ⟨b2, off2, none⟩) n p2), .int .i64 (a3 : Int), .int .i64 (k3 : Int)] 52) = w4 at *
  obtain ⟨b4, hb4⟩ : ∃ t, t = b2 := ⟨_, rfl⟩
  obtain ⟨off4, hoff4⟩ : ∃ t, t = off2 := ⟨_, rfl⟩
  obtain ⟨p4, hp4⟩ : ∃ t, t = p2 := ⟨_, rfl⟩
  subst hb4 hoff4 hp4
  have HG := Lib.hid (show w.heap.size + 2 ≤ b4 ∧ b4 < pb from Z1.out)
  have HS4 := Lib.hid (H2.out.weak (lo' := w.heap.size) (hi' := pb) (by simp <;> omega) (.inl (Nat.le_refl _)))
  have PX4 := PX
  have Y4 := Y2
  have S4 := S2
  clear PX Y2 S2 H2
  obtain ⟨q, hqe⟩ : ∃ q, q = (a3 + k3) % n := ⟨_, rfl⟩
  have hq : q < n := by rw [hqe]; exact Nat.mod_lt _ (by have := HB.out; omega)
  have HQ := Lib.hid (show q < n ∧ q = (a3 + k3) % n from ⟨hq, hqe⟩)
  have i2 : ((a3 : Int) + (k3 : Int)).tmod (n : Int) = (q : Int) := by rw [← Int.natCast_add, ← Int.ofNat_tmod, hqe]
  have j0 : (0 : Int) ≤ (q : Int) := by omega
  have j1 : (q : Int) < (n : Int) := by omega
  have j2 : ¬ ((n : Int) = 0) := by have := HB.out; omega
  have j3 : ¬ (n = 0) := by have := HB.out; omega
  have j4 : (n : Int) ≤ 16 := by have := HB.out; omega
  have i5 : (0 : Int) ≤ (k3 : Int) := by omega
  have i3 : (k3 : Int) ≤ 16 := by have := H3.out; have := HB.out; omega
  have i4 : (a3 : Int) ≤ 16 := by have := H3.out; have := HB.out; omega
  have i6 : (0 : Int) ≤ (a3 : Int) := by omega
  obtain ⟨⟨u, hu⟩, hfz⟩ := HS4.out.cellT (show q < xs3.length by rw [← HN3.out]; exact hq)
  have p4c := PX4.out.cells
  have p4f := PX4.out.thaw
  have y4c := Y4.out.cells
  have y4f := Y4.out.thaw
  have hbb := HG.out
  have n1 : ¬ b4 = pb := by omega
  have n2 : ¬ pb = b4 := by omega
  have n3 : ¬ b4 = w.heap.size + 1 := by omega
  have n4 : ¬ w.heap.size + 1 = b4 := by omega
  have n5 : ¬ pb = w.heap.size + 1 := by omega
  have n6 : ¬ w.heap.size + 1 = pb := by omega
  clear hq hqe hbb
  go_region
  all_goals
    go_wp2_with fail
    have hbb := HG.out
    have H5 := HS4.out.put q (z1, z2) (by rw [← HN3.out]; exact HQ.out.1)
    have Y5 := (((Y4.out.other (a := ⟨b4, off4 + q, none⟩) n3 (.complex .f32 z1 z2)).other (a := ⟨pb, 2, none⟩) n5 (.int .i64 ((k3 : Int) + 1)))).set3 (.slice (some ⟨b4, off4, none⟩) n p4) (.int .i64 (a3 : Int)) (.int .i64 ((k3 : Int) + 1))
    have Q1 := (((S4.out.setCell (p := ⟨b4, off4 + q, none⟩) (.inr (by simp only; omega)) (.complex .f32 z1 z2)).setCell (p := ⟨pb, 2, none⟩) (.inr (by simp only; omega)) (.int .i64 ((k3 : Int) + 1)))).set3 (b := w.heap.size + 1) (by omega) (.slice (some ⟨b4, off4, none⟩) n p4) (.int .i64 (a3 : Int)) (.int .i64 ((k3 : Int) + 1))
    have T1 := ((Span.refl pb (pb + 1) (w4.setCell ⟨b4, off4 + q, none⟩ (.complex .f32 z1 z2))).setCell (p := ⟨pb, 2, none⟩) (.inl ⟨Nat.le_refl _, Nat.lt_succ_self _⟩) (.int .i64 ((k3 : Int) + 1)))
    have T2 := (Span.refl (w.heap.size + 1) (w.heap.size + 2) ((w4.setCell ⟨b4, off4 + q, none⟩ (.complex .f32 z1 z2)).setCell ⟨pb, 2, none⟩ (.int .i64 ((k3 : Int) + 1)))).put3 (b := w.heap.size + 1) (by omega) (.slice (some ⟨b4, off4, none⟩) n p4) (.int .i64 (a3 : Int)) (.int .i64 ((k3 : Int) + 1))
    have H6 := ((show HasS cxV true b4 _ _ (w4.setCell ⟨b4, off4 + q, none⟩ (.complex .f32 z1 z2)) (.slice (some ⟨b4, off4, none⟩) n p4) (xs3.set q (z1, z2)) from H5).span T1 (by omega)).span T2 (by omega)
    have d1 := Y5.cells
    have e9 : putR (xs3, a3, k3) (z1, z2) = (xs3.set q (z1, z2), a3, k3 + 1) := by unfold putR; simp only; rw [← HN3.out, ← HQ.out.2]
    have FIN : ∀ W', (W' = ((((w4.setCell ⟨b4, off4 + q, none⟩ (.complex .f32 z1 z2)).setCell ⟨pb, 2, none⟩ (.int .i64 ((k3 : Int) + 1))).setCell ⟨w.heap.size + 1, 0, none⟩ (.slice (some ⟨b4, off4, none⟩) n p4)).setCell ⟨w.heap.size + 1, 1, none⟩ (.int .i64 (a3 : Int))).setCell ⟨w.heap.size + 1, 2, none⟩ (.int .i64 ((k3 : Int) + 1)) ∨ ∃ m, W' = (((((w4.setCell ⟨b4, off4 + q, none⟩ (.complex .f32 z1 z2)).setCell ⟨pb, 2, none⟩ (.int .i64 ((k3 : Int) + 1))).setCell ⟨w.heap.size + 1, 0, none⟩ (.slice (some ⟨b4, off4, none⟩) n p4)).setCell ⟨w.heap.size + 1, 1, none⟩ (.int .i64 (a3 : Int))).setCell ⟨w.heap.size + 1, 2, none⟩ (.int .i64 ((k3 : Int) + 1))).drewN m) → ∃ v b, Ending.returned (.tuple #[.agg #[(.slice (some ⟨b4, off4, none⟩) n p4), .int .i64 (a3 : Int), .int .i64 ((k3 : Int) + 1)], .complex .f32 0 0]) = .returned (.tuple #[.agg #[v, .int .i64 ((putR (xs3, a3, k3) (z1, z2)).2.1 : Int), .int .i64 ((putR (xs3, a3, k3) (z1, z2)).2.2 : Int)], .complex .f32 0 0]) ∧ HasS cxV true b w.heap.size W'.heap.size W' v (putR (xs3, a3, k3) (z1, z2)).1 ∧ Span 0 0 w W' := by
      intro W' hW'
      rw [e9]
      rcases hW' with rfl | ⟨m, rfl⟩
      · exact ⟨_, b4, rfl, H6.weak (by omega) (.inr (by simp [World.setCell])), Q1⟩
      · exact ⟨_, b4, rfl, (H6.weak (by omega) (.inr (by simp [World.setCell]))).drewN m, Q1.drewN m⟩
    exact bodyPost_ret (v := .tuple #[.agg #[(.slice (some ⟨b4, off4, none⟩) n p4), .int .i64 (a3 : Int), .int .i64 ((k3 : Int) + 1)], .complex .f32 0 0]) (by simp [results, Try.results64, go_sem, d1, cxV]) rfl (FIN _ (by first | exact .inl rfl | exact .inr ⟨_, rfl⟩ | exact .inr ⟨1, rfl⟩))

theorem l4Push_any (r : Rn) (hv : VR r) (z : Cx) (o : Bool) (b lo hi : Nat) (v : Value) (w : World) (hx : HasS cxV o b lo hi w v r.1) :
    Calls Try.prog 64 #[.agg #[v, .int .i64 (r.2.1 : Int), .int .i64 (r.2.2 : Int)], .complex .f32 z.1 z.2] w (PushedL r z w) := by
  by_cases hc : r.2.2 = r.1.length
  · exact l4Push_full r hv z hc o b lo hi v w hx
  · exact l4Push_room r hv z hc o b lo hi v w hx
end Go.Proofs.Ytfafkdpefdpnkaa
