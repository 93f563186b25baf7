/- Rings: a sample is put, one is taken. -/
import Derived.Test.YtkjlodoppmipfaaGreatJg29
import Derived.Outline
namespace Go.Proofs.YtkjlodoppmipfaaGreat
open Go.RowKit

theorem HasS.addrT {α : Type} {val : α → Value} {o : Bool} {b lo hi n c : Nat} {w : World} {A : Option Addr} {xs : List α} (h : HasS val o b lo hi w (.slice A n c) xs) (hp : 0 < xs.length) : ∃ off, A = some ⟨b, off, none⟩ ∧ lo ≤ b ∧ b < hi ∧ b < w.heap.size := by
  obtain ⟨A', cap, e, _, hc⟩ := h
  injection e with e1 e2 e3
  obtain ⟨off, e4, h1, h2, h3, _⟩ := hc hp
  exact ⟨off, e1.trans e4, h1, h2, h3⟩
theorem HasS.cellT {α : Type} {val : α → Value} {b off lo hi n c j : Nat} {w : World} {xs : List α} (h : HasS val true b lo hi w (.slice (some ⟨b, off, none⟩) n c) xs) (hj : j < xs.length) : (∃ u, w.cell? ⟨b, off + j, none⟩ = some u) ∧ w.frozen? ⟨b, off + j, none⟩ = false := by
  obtain ⟨A', cap, e, _, hc⟩ := h
  injection e with e1 e2 e3
  obtain ⟨off', e4, _, _, _, h4, h5⟩ := hc (by omega)
  rw [e4] at e1
  injection e1 with e1
  injection e1 with _ e5
  subst e5
  exact ⟨⟨_, h4 j _ (List.getElem?_eq_getElem hj)⟩, h5 rfl j hj⟩

/-- What is given when a sample was put. -/
def PushedR (r : Rn) (z : Cx) (w : World) (e : Ending) (w' : World) : Prop :=
  ∃ v b, e = .returned (.tuple #[.agg #[v, .int .i64 ((pushR r z).2.1 : Int), .int .i64 ((pushR r z).2.2 : Int)], .complex .f32 (oldR r).1 (oldR r).2, .bool true]) ∧ HasS cxV true b w.heap.size w'.heap.size w' v (pushR r z).1 ∧ Span 0 0 w w'

set_option maxRecDepth 100000 in
set_option maxHeartbeats 8000000 in
theorem pushRing_full (r : Rn) (hv : VR r) (z : Cx) (hc : r.2.2 = r.1.length) (o : Bool) (b lo hi : Nat) (v : Value) (w : World) (hx : HasS cxV o b lo hi w v r.1) :
    Calls Tryz.prog 161 #[.agg #[v, .int .i64 (r.2.1 : Int), .int .i64 (r.2.2 : Int)], .complex .f32 z.1 z.2] w (PushedR r z w) := by
  obtain ⟨xs, a, k⟩ := r
  obtain ⟨z1, z2⟩ := z
  have HV := Lib.hid hv
  have HX := Lib.hid hx
  have h1 := hv.pos
  have h2 := hv.most
  have h3 := hv.at_
  have h4 := hv.cnt
  simp only at hc h1 h2 h3 h4 hx HX ⊢
  obtain ⟨A, p, rfl, -, -⟩ := hx
  obtain ⟨⟨xs3, a3, k3⟩, hT⟩ : ∃ t, t = takeR (xs, a, k) := ⟨_, rfl⟩
  obtain ⟨⟨o1, o2⟩, hO⟩ : ∃ t, t = itemR xs a 0 := ⟨_, rfl⟩
  have TK := fun b off p lo hi w h => takeOldest_any (xs, a, k) hv (show 0 < k by omega) b off p lo hi w h
  simp only [← hT, ← hO] at TK
  have hv3 : VR (xs3, a3, k3) := by rw [hT]; exact hv.take (show 0 < k by omega)
  have hl3 : xs3.length = xs.length := by have := takeR_len (xs, a, k); rw [← hT] at this; exact this
  have hk3 : k3 = k - 1 := by have := takeR_cnt (xs, a, k); rw [← hT] at this; exact this
  have HPO := Lib.hid (show pushR (xs, a, k) (z1, z2) = putR (xs3, a3, k3) (z1, z2) by rw [hT]; exact if_pos hc)
  have HOL := Lib.hid (show oldR (xs, a, k) = (o1, o2) by rw [hO]; exact if_pos hc)
  obtain ⟨n, hn⟩ : ∃ n, n = xs.length := ⟨_, rfl⟩
  have HN := Lib.hid hn
  simp only [← hn] at TK
  rw [← hn] at hl3 hc h1 h2 h3 h4 HX ⊢
  have HN3 := Lib.hid hl3.symm
  have H3 := Lib.hid (show k3 < n ∧ a3 < n from ⟨by omega, by have := hv3.at_; simp only at this; omega⟩)
  have hkn : k = n := hc
  subst hkn
  have HB := Lib.hid (show 1 ≤ k ∧ k ≤ 16 ∧ a < k from ⟨h1, h2, h3⟩)
  have HTK := Lib.hid TK
  clear hn hv h1 h2 h3 h4 hc hl3 hk3 hv3 hT hO TK
  have X := Lib.hid (Bx.new w #[.slice A k p, .int .i64 (a : Int), .int .i64 (k : Int)] 27)
  have S0 := Lib.hid ((Span.refl 0 0 w).alloc (.cells #[.slice A k p, .int .i64 (a : Int), .int .i64 (k : Int)] 27))
  have YA := Lib.hid (Bx.new (w.alloc (.cells #[.slice A k p, .int .i64 (a : Int), .int .i64 (k : Int)] 27)) #[.slice none 0 0, .int .i64 0, .int .i64 0] 27)
  rw [show (w.alloc (.cells #[.slice A k p, .int .i64 (a : Int), .int .i64 (k : Int)] 27)).heap.size = w.heap.size + 1 by simp] at YA
  unfold PushedR
  rw [HPO.out, HOL.out]
  go_enter Tryz.func161, Tryz.ntmps161
  go_wp2_with fail
  refine (isRing_true xs a k HV.out o b lo hi _ _ (HN.out ▸ (HX.out.span ((S0.out).alloc (.cells #[.slice none 0 0, .int .i64 0, .int .i64 0] 27)) (.inl (Nat.le_refl _))))).mono ?_
  rintro _ w1 ⟨rfl, s1⟩
  have X1 := Lib.hid ((X.out.alloc (.cells #[.slice none 0 0, .int .i64 0, .int .i64 0] 27)).keep s1)
  have Y1 := Lib.hid (YA.out.keep s1)
  have S1 := Lib.hid ((S0.out.alloc (.cells #[.slice none 0 0, .int .i64 0, .int .i64 0] 27)).trans s1)
  have Z1 : Hid (w.heap.size + 2 ≤ w1.heap.size) := by have := s1.size; simp at this; exact this
  have c1 := X1.out.cells
  clear s1
  go_wp2_with fail
  refine (copyRing_any xs _ _ o b lo hi _ w1 (HX.out.span S1.out (.inl (Nat.le_refl _))) (by have := HN.out; have := HB.out; omega)).mono ?_
  rintro _ w2 ⟨v2, b2, rfl, h2, s2⟩
  obtain ⟨A2, p2, rfl, -, -⟩ := id h2
  obtain ⟨off2, rfl, g1, g2, g3⟩ := h2.addrT (by have := HN.out; have := HB.out; omega)
  rw [← HN.out] at h2 ⊢
  have H2 := Lib.hid h2
  have Y2 := Lib.hid (Y1.out.keep s2)
  have S2 := Lib.hid (S1.out.trans s2)
  obtain ⟨lo2, hlo2⟩ : ∃ t, t = w1.heap.size := ⟨_, rfl⟩
  obtain ⟨pb, hpb⟩ : ∃ t, t = w2.heap.size := ⟨_, rfl⟩
  obtain ⟨hi2, hhi2⟩ : ∃ t, t = w2.heap.size := ⟨_, rfl⟩
  have HG := Lib.hid (show w.heap.size + 2 ≤ lo2 ∧ lo2 ≤ b2 ∧ b2 < hi2 ∧ hi2 = pb from ⟨by rw [hlo2]; exact Z1.out, by omega, by omega, by omega⟩)
  have PX := Bx.new w2 #[(.slice (some ⟨b2, off2, none⟩) k p2), .int .i64 (a : Int), .int .i64 (k : Int)] 27
  have S3 := S2.out.alloc (.cells #[(.slice (some ⟨b2, off2, none⟩) k p2), .int .i64 (a : Int), .int .i64 (k : Int)] 27)
  have Y3 := Y2.out.alloc (.cells #[(.slice (some ⟨b2, off2, none⟩) k p2), .int .i64 (a : Int), .int .i64 (k : Int)] 27)
  have H3' := H2.out.alloc (.cells #[(.slice (some ⟨b2, off2, none⟩) k p2), .int .i64 (a : Int), .int .i64 (k : Int)] 27)
  rw [← hlo2, ← hhi2] at H3'
  rw [← hpb] at PX
  have HH : Hid (hi2 ≤ (w2.alloc (.cells #[(.slice (some ⟨b2, off2, none⟩) k p2), .int .i64 (a : Int), .int .i64 (k : Int)] 27)).heap.size) := by unfold Hid; simp; omega
  have PX := Lib.hid PX
  have S3 := Lib.hid S3
  have Y3 := Lib.hid Y3
  have H3' := Lib.hid H3'
  clear h2 s2 g1 g2 g3 c1 hlo2 hhi2
  go_wp2_with fail
  rw [← hpb]
  clear hpb
  generalize w2.alloc (.cells #[(.slice (some ⟨b2, off2, none⟩) k p2), .int .i64 (a : Int), .int .i64 (k : Int)] 27) = w3 at *
  refine (HTK.out b2 off2 p2 lo2 hi2 _ H3'.out).mono ?_
  rintro _ w4 ⟨rfl, h4, s4⟩
  have hbb := HG.out
  have PX4 := PX.out.span s4 (by omega)
  have Y4 := Y3.out.span s4 (by omega)
  have S4 := Lib.hid (show Span 0 0 w w4 from ⟨s4.os.trans S3.out.os, s4.tape.trans S3.out.tape, s4.output.trans S3.out.output, Nat.le_trans S3.out.size s4.size, fun k hk _ => (s4.block k (Nat.lt_of_lt_of_le hk S3.out.size) (by omega)).trans (S3.out.block k hk (by omega))⟩)
  have HS4 := Lib.hid h4
  have px := PX4.cells
  have pf := PX4.thaw
  have PX5 := Lib.hid (PX4.set3 (.slice (some ⟨b2, off2, none⟩) k p2) (.int .i64 (a3 : Int)) (.int .i64 (k3 : Int)))
  have Y4 := Lib.hid Y4
  have HH4 := Lib.hid (Nat.le_trans HH.out s4.size)
  clear s4 h4 hbb PX4
  go_wp2_with fail
  have hbb := HG.out
  have T4 := (Span.refl pb (pb + 1) w4).put3 (b := pb) ⟨Nat.le_refl _, Nat.lt_succ_self _⟩ (.slice (some ⟨b2, off2, none⟩) k p2) (.int .i64 (a3 : Int)) (.int .i64 (k3 : Int))
  have Y5 := Lib.hid (Y4.out.span T4 (by omega))
  have S5 := Lib.hid (S4.out.set3 (b := pb) (by omega) (.slice (some ⟨b2, off2, none⟩) k p2) (.int .i64 (a3 : Int)) (.int .i64 (k3 : Int)))
  have HS5 := Lib.hid (HS4.out.span T4 (by omega))
  have HH5 := Lib.hid (Nat.le_trans HH4.out T4.size)
  clear px pf hbb T4 Y4 S4 HS4 HH4 HH
  generalize ((w4.setCell ⟨pb, 0, none⟩ (.slice (some ⟨b2, off2, none⟩) k p2)).setCell ⟨pb, 1, none⟩ (.int .i64 (a3 : Int))).setCell ⟨pb, 2, none⟩ (.int .i64 (k3 : Int)) = w5 at *
  clear PX Y3 S3 H3'
  have PX4 := PX5
  have Y4 := Y5
  have S4 := S5
  have HS4 := HS5
  have HH := HH5
  clear PX5 Y5 S5 HS5 HH5
  have hq : (a3 + k3) % k < k := Nat.mod_lt _ (by have := HB.out; omega)
  obtain ⟨q, hqe⟩ : ∃ q, q = (a3 + k3) % k := ⟨_, rfl⟩
  have RI := Lib.hid (ringIndex_any (some ⟨b2, off2, none⟩) k p2 a3 k3 (k3 : Int) (by have := HB.out; omega) (by have := HB.out; omega) (by have := H3.out; have := HB.out; omega) (by have := H3.out; have := HB.out; omega))
  rw [← hqe] at RI hq
  have HQ := Lib.hid (show q < k ∧ q = (a3 + k3) % k from ⟨hq, hqe⟩)
  have j0 : (0 : Int) ≤ (q : Int) := by omega
  have j1 : (q : Int) < (k : Int) := by omega
  have p4 := PX4.out.cells
  have hbb := HG.out
  have n1 : ¬ b2 = pb := by omega
  have n2 : ¬ pb = b2 := by omega
  have n3 : ¬ b2 = w.heap.size + 1 := by omega
  have n4 : ¬ w.heap.size + 1 = b2 := by omega
  have n5 : ¬ pb = w.heap.size + 1 := by omega
  have n6 : ¬ w.heap.size + 1 = pb := by omega
  have i3 : (k3 : Int) ≤ 16 := by have := H3.out; have := HB.out; omega
  have i4 : (0 : Int) ≤ (k3 : Int) := by omega
  clear hq hqe hbb

  go_region_with (go_at_call 163; go_loud ((refine (RI.out _).mono ?_; rintro _ wq ⟨rfl, sq⟩; have SQ : Hid (Span 0 0 w5 wq) := (by first | exact sq | exact sq.undrawn | exact Span.undrawn (n := 1) sq); have PXq := Lib.hid (PX4.out.keep SQ.out); have HSq := Lib.hid (HS4.out.span SQ.out (.inl (Nat.le_refl _))); have Yq := Lib.hid (Y4.out.keep SQ.out); have Sq := Lib.hid (S4.out.trans SQ.out); have cq := PXq.out.cells; have fq := PXq.out.thaw; have yq := Yq.out.cells; have yf := Yq.out.thaw; obtain ⟨⟨u, hu⟩, hfz⟩ := HSq.out.cellT (show q < xs3.length by rw [← HN3.out]; exact HQ.out.1); clear sq)))
  all_goals
    go_wp2_with fail
    have hbb := HG.out
    have H5 := HSq.out.put q (z1, z2) (by rw [← HN3.out]; exact HQ.out.1)
    have Y5 := (((Yq.out.other (a := ⟨b2, off2 + q, none⟩) n3 (.complex .f32 z1 z2)).other (a := ⟨pb, 2, none⟩) n5 (.int .i64 ((k3 : Int) + 1)))).set3 (.slice (some ⟨b2, off2, none⟩) k p2) (.int .i64 (a3 : Int)) (.int .i64 ((k3 : Int) + 1))
    have d1 := Y5.cells
    have Q1 := (((Sq.out.setCell (p := ⟨b2, off2 + q, none⟩) (.inr (by simp only; omega)) (.complex .f32 z1 z2)).setCell (p := ⟨pb, 2, none⟩) (.inr (by simp only; omega)) (.int .i64 ((k3 : Int) + 1)))).set3 (b := w.heap.size + 1) (by omega) (.slice (some ⟨b2, off2, none⟩) k p2) (.int .i64 (a3 : Int)) (.int .i64 ((k3 : Int) + 1))
    have T1 := ((Span.refl pb (pb + 1) (wq.setCell ⟨b2, off2 + q, none⟩ (.complex .f32 z1 z2))).setCell (p := ⟨pb, 2, none⟩) (.inl ⟨Nat.le_refl _, Nat.lt_succ_self _⟩) (.int .i64 ((k3 : Int) + 1)))
    have T2 := (Span.refl (w.heap.size + 1) (w.heap.size + 2) ((wq.setCell ⟨b2, off2 + q, none⟩ (.complex .f32 z1 z2)).setCell ⟨pb, 2, none⟩ (.int .i64 ((k3 : Int) + 1)))).put3 (b := w.heap.size + 1) (by omega) (.slice (some ⟨b2, off2, none⟩) k p2) (.int .i64 (a3 : Int)) (.int .i64 ((k3 : Int) + 1))
    have H6 := ((show HasS cxV true b2 lo2 hi2 (wq.setCell ⟨b2, off2 + q, none⟩ (.complex .f32 z1 z2)) (.slice (some ⟨b2, off2, none⟩) k p2) (xs3.set q (z1, z2)) from H5).span T1 (by omega)).span T2 (by omega)
    have hsz := Sq.out.size
    have hsz2 := HH.out
    have e9 : putR (xs3, a3, k3) (z1, z2) = (xs3.set q (z1, z2), a3, k3 + 1) := by unfold putR; simp only; rw [← HN3.out, ← HQ.out.2]
    refine bodyPost_ret (v := .tuple #[.agg #[(.slice (some ⟨b2, off2, none⟩) k p2), .int .i64 (a3 : Int), .int .i64 ((k3 : Int) + 1)], .complex .f32 o1 o2, .bool true]) (by simp [results, Tryz.results161, go_sem, d1, cxV]) rfl ⟨(.slice (some ⟨b2, off2, none⟩) k p2), b2, ?_, ?_, Q1⟩
    · rw [e9]; simp only [Int.natCast_add]; rfl
    · rw [e9]
      exact H6.weak (by have := HG.out; omega) (.inr (by simp [World.setCell]))

set_option maxRecDepth 100000 in
set_option maxHeartbeats 8000000 in
theorem pushRing_room (r : Rn) (hv : VR r) (z : Cx) (hc : ¬ r.2.2 = r.1.length) (o : Bool) (b lo hi : Nat) (v : Value) (w : World) (hx : HasS cxV o b lo hi w v r.1) :
    Calls Tryz.prog 161 #[.agg #[v, .int .i64 (r.2.1 : Int), .int .i64 (r.2.2 : Int)], .complex .f32 z.1 z.2] w (PushedR r z w) := by
  obtain ⟨xs, a, k⟩ := r
  obtain ⟨z1, z2⟩ := z
  have HV := Lib.hid hv
  have HX := Lib.hid hx
  have h1 := hv.pos
  have h2 := hv.most
  have h3 := hv.at_
  have h4 := hv.cnt
  simp only at hc h1 h2 h3 h4 hx HX ⊢
  obtain ⟨A, p, rfl, -, -⟩ := hx
  have HPO := Lib.hid (show pushR (xs, a, k) (z1, z2) = putR (xs, a, k) (z1, z2) from if_neg hc)
  have HOL := Lib.hid (show oldR (xs, a, k) = (0, 0) from if_neg hc)
  obtain ⟨n, hn⟩ : ∃ n, n = xs.length := ⟨_, rfl⟩
  have HN := Lib.hid hn
  rw [← hn] at hc h1 h2 h3 h4 HX ⊢
  have hkn : ¬ k = n := hc
  obtain ⟨xs3, hxs3⟩ : ∃ t, t = xs := ⟨_, rfl⟩
  obtain ⟨a3, ha3⟩ : ∃ t, t = a := ⟨_, rfl⟩
  obtain ⟨k3, hk3⟩ : ∃ t, t = k := ⟨_, rfl⟩
  subst hxs3 ha3 hk3
  have HN3 := HN
  have H3 := Lib.hid (show k3 < n ∧ a3 < n from ⟨by omega, h3⟩)
  have HB := Lib.hid (show 1 ≤ n ∧ n ≤ 16 ∧ a3 < n from ⟨h1, h2, h3⟩)
  clear hn hv h1 h2 h3 h4 hc
  have X := Lib.hid (Bx.new w #[.slice A n p, .int .i64 (a3 : Int), .int .i64 (k3 : Int)] 27)
  have S0 := Lib.hid ((Span.refl 0 0 w).alloc (.cells #[.slice A n p, .int .i64 (a3 : Int), .int .i64 (k3 : Int)] 27))
  have YA := Lib.hid (Bx.new (w.alloc (.cells #[.slice A n p, .int .i64 (a3 : Int), .int .i64 (k3 : Int)] 27)) #[.slice none 0 0, .int .i64 0, .int .i64 0] 27)
  rw [show (w.alloc (.cells #[.slice A n p, .int .i64 (a3 : Int), .int .i64 (k3 : Int)] 27)).heap.size = w.heap.size + 1 by simp] at YA
  unfold PushedR
  rw [HPO.out, HOL.out]
  go_enter Tryz.func161, Tryz.ntmps161
  go_wp2_with fail
  refine (isRing_true xs3 a3 k3 HV.out o b lo hi _ _ (HN.out ▸ (HX.out.span ((S0.out).alloc (.cells #[.slice none 0 0, .int .i64 0, .int .i64 0] 27)) (.inl (Nat.le_refl _))))).mono ?_
  rintro _ w1 ⟨rfl, s1⟩
  have X1 := Lib.hid ((X.out.alloc (.cells #[.slice none 0 0, .int .i64 0, .int .i64 0] 27)).keep s1)
  have Y1 := Lib.hid (YA.out.keep s1)
  have S1 := Lib.hid ((S0.out.alloc (.cells #[.slice none 0 0, .int .i64 0, .int .i64 0] 27)).trans s1)
  have Z1 : Hid (w.heap.size + 2 ≤ w1.heap.size) := by have := s1.size; simp at this; exact this
  have c1 := X1.out.cells
  clear s1
  go_wp2_with fail
  refine (copyRing_any xs3 _ _ o b lo hi _ w1 (HX.out.span S1.out (.inl (Nat.le_refl _))) (by have := HN.out; have := HB.out; omega)).mono ?_
  rintro _ w2 ⟨v2, b2, rfl, h2, s2⟩
  obtain ⟨A2, p2, rfl, -, -⟩ := id h2
  obtain ⟨off2, rfl, g1, g2, g3⟩ := h2.addrT (by have := HN.out; have := HB.out; omega)
  rw [← HN.out] at h2 ⊢
  have H2 := Lib.hid h2
  have Y2 := Lib.hid (Y1.out.keep s2)
  have S2 := Lib.hid (S1.out.trans s2)
  obtain ⟨lo2, hlo2⟩ : ∃ t, t = w1.heap.size := ⟨_, rfl⟩
  obtain ⟨pb, hpb⟩ : ∃ t, t = w2.heap.size := ⟨_, rfl⟩
  obtain ⟨hi2, hhi2⟩ : ∃ t, t = w2.heap.size := ⟨_, rfl⟩
  have HG := Lib.hid (show w.heap.size + 2 ≤ lo2 ∧ lo2 ≤ b2 ∧ b2 < hi2 ∧ hi2 = pb from ⟨by rw [hlo2]; exact Z1.out, by omega, by omega, by omega⟩)
  have PX := Bx.new w2 #[(.slice (some ⟨b2, off2, none⟩) n p2), .int .i64 (a3 : Int), .int .i64 (k3 : Int)] 27
  have S3 := S2.out.alloc (.cells #[(.slice (some ⟨b2, off2, none⟩) n p2), .int .i64 (a3 : Int), .int .i64 (k3 : Int)] 27)
  have Y3 := Y2.out.alloc (.cells #[(.slice (some ⟨b2, off2, none⟩) n p2), .int .i64 (a3 : Int), .int .i64 (k3 : Int)] 27)
  have H3' := H2.out.alloc (.cells #[(.slice (some ⟨b2, off2, none⟩) n p2), .int .i64 (a3 : Int), .int .i64 (k3 : Int)] 27)
  rw [← hlo2, ← hhi2] at H3'
  rw [← hpb] at PX
  have HH : Hid (hi2 ≤ (w2.alloc (.cells #[(.slice (some ⟨b2, off2, none⟩) n p2), .int .i64 (a3 : Int), .int .i64 (k3 : Int)] 27)).heap.size) := by unfold Hid; simp; omega
  have PX := Lib.hid PX
  have S3 := Lib.hid S3
  have Y3 := Lib.hid Y3
  have H3' := Lib.hid H3'
  clear h2 s2 g1 g2 g3 c1 hlo2 hhi2
  go_wp2_with fail
  rw [← hpb]
  clear hpb
  generalize w2.alloc (.cells #[(.slice (some ⟨b2, off2, none⟩) n p2), .int .i64 (a3 : Int), .int .i64 (k3 : Int)] 27) = w4 at *
  have PX4 := PX
  have Y4 := Y3
  have S4 := S3
  have HS4 := H3'
  clear PX Y3 S3 H3'
  have hq : (a3 + k3) % n < n := Nat.mod_lt _ (by have := HB.out; omega)
  obtain ⟨q, hqe⟩ : ∃ q, q = (a3 + k3) % n := ⟨_, rfl⟩
  have RI := Lib.hid (ringIndex_any (some ⟨b2, off2, none⟩) n p2 a3 k3 (k3 : Int) (by have := HB.out; omega) (by have := HB.out; omega) (by have := H3.out; have := HB.out; omega) (by have := H3.out; have := HB.out; omega))
  rw [← hqe] at RI hq
  have HQ := Lib.hid (show q < n ∧ q = (a3 + k3) % n from ⟨hq, hqe⟩)
  have j0 : (0 : Int) ≤ (q : Int) := by omega
  have j1 : (q : Int) < (n : Int) := by omega
  have p4 := PX4.out.cells
  have hbb := HG.out
  have n1 : ¬ b2 = pb := by omega
  have n2 : ¬ pb = b2 := by omega
  have n3 : ¬ b2 = w.heap.size + 1 := by omega
  have n4 : ¬ w.heap.size + 1 = b2 := by omega
  have n5 : ¬ pb = w.heap.size + 1 := by omega
  have n6 : ¬ w.heap.size + 1 = pb := by omega
  have i3 : (k3 : Int) ≤ 16 := by have := H3.out; have := HB.out; omega
  have i4 : (0 : Int) ≤ (k3 : Int) := by omega
  clear hq hqe hbb

  go_region_with (go_at_call 163; go_loud ((refine (RI.out _).mono ?_; rintro _ wq ⟨rfl, sq⟩; have SQ : Hid (Span 0 0 w4 wq) := (by first | exact sq | exact sq.undrawn | exact Span.undrawn (n := 1) sq); have PXq := Lib.hid (PX4.out.keep SQ.out); have HSq := Lib.hid (HS4.out.span SQ.out (.inl (Nat.le_refl _))); have Yq := Lib.hid (Y4.out.keep SQ.out); have Sq := Lib.hid (S4.out.trans SQ.out); have cq := PXq.out.cells; have fq := PXq.out.thaw; have yq := Yq.out.cells; have yf := Yq.out.thaw; obtain ⟨⟨u, hu⟩, hfz⟩ := HSq.out.cellT (show q < xs3.length by rw [← HN3.out]; exact HQ.out.1); clear sq)))
  all_goals
    go_wp2_with fail
    have hbb := HG.out
    have H5 := HSq.out.put q (z1, z2) (by rw [← HN3.out]; exact HQ.out.1)
    have Y5 := (((Yq.out.other (a := ⟨b2, off2 + q, none⟩) n3 (.complex .f32 z1 z2)).other (a := ⟨pb, 2, none⟩) n5 (.int .i64 ((k3 : Int) + 1)))).set3 (.slice (some ⟨b2, off2, none⟩) n p2) (.int .i64 (a3 : Int)) (.int .i64 ((k3 : Int) + 1))
    have d1 := Y5.cells
    have Q1 := (((Sq.out.setCell (p := ⟨b2, off2 + q, none⟩) (.inr (by simp only; omega)) (.complex .f32 z1 z2)).setCell (p := ⟨pb, 2, none⟩) (.inr (by simp only; omega)) (.int .i64 ((k3 : Int) + 1)))).set3 (b := w.heap.size + 1) (by omega) (.slice (some ⟨b2, off2, none⟩) n p2) (.int .i64 (a3 : Int)) (.int .i64 ((k3 : Int) + 1))
    have T1 := ((Span.refl pb (pb + 1) (wq.setCell ⟨b2, off2 + q, none⟩ (.complex .f32 z1 z2))).setCell (p := ⟨pb, 2, none⟩) (.inl ⟨Nat.le_refl _, Nat.lt_succ_self _⟩) (.int .i64 ((k3 : Int) + 1)))
    have T2 := (Span.refl (w.heap.size + 1) (w.heap.size + 2) ((wq.setCell ⟨b2, off2 + q, none⟩ (.complex .f32 z1 z2)).setCell ⟨pb, 2, none⟩ (.int .i64 ((k3 : Int) + 1)))).put3 (b := w.heap.size + 1) (by omega) (.slice (some ⟨b2, off2, none⟩) n p2) (.int .i64 (a3 : Int)) (.int .i64 ((k3 : Int) + 1))
    have H6 := ((show HasS cxV true b2 lo2 hi2 (wq.setCell ⟨b2, off2 + q, none⟩ (.complex .f32 z1 z2)) (.slice (some ⟨b2, off2, none⟩) n p2) (xs3.set q (z1, z2)) from H5).span T1 (by omega)).span T2 (by omega)
    have hsz := Sq.out.size
    have hsz2 := HH.out
    have e9 : putR (xs3, a3, k3) (z1, z2) = (xs3.set q (z1, z2), a3, k3 + 1) := by unfold putR; simp only; rw [← HN3.out, ← HQ.out.2]
    refine bodyPost_ret (v := .tuple #[.agg #[(.slice (some ⟨b2, off2, none⟩) n p2), .int .i64 (a3 : Int), .int .i64 ((k3 : Int) + 1)], .complex .f32 0 0, .bool true]) (by simp [results, Tryz.results161, go_sem, d1]) rfl ⟨(.slice (some ⟨b2, off2, none⟩) n p2), b2, ?_, ?_, Q1⟩
    · rw [e9]; simp only [Int.natCast_add]; rfl
    · rw [e9]
      exact H6.weak (by have := HG.out; omega) (.inr (by simp [World.setCell]))

theorem pushRing_any (r : Rn) (hv : VR r) (z : Cx) (o : Bool) (b lo hi : Nat) (v : Value) (w : World) (hx : HasS cxV o b lo hi w v r.1) :
    Calls Tryz.prog 161 #[.agg #[v, .int .i64 (r.2.1 : Int), .int .i64 (r.2.2 : Int)], .complex .f32 z.1 z.2] w (PushedR r z w) := by
  by_cases hc : r.2.2 = r.1.length
  · exact pushRing_full r hv z hc o b lo hi v w hx
  · exact pushRing_room r hv z hc o b lo hi v w hx
end Go.Proofs.YtkjlodoppmipfaaGreat
