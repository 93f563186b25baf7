/- The sum of two numbers, and what was lost in it. -/
import Derived.Test.YtdmahikaajdkgaaJb41
namespace Go.Proofs.Ytdmahikaajdkgaa
open Ieee Go.RowKit

theorem add_nearest {f : Format} {x y : Nat} {s t : Bool} {A B : Nat} (hx : isU f x s A) (hy : isU f y t B) :
    ∃ (T : Int) (c : Nat), f.add x y = some (f.nearest (if T = 0 then s && t else decide (T < 0)) T.natAbs (f.leastPlace + (c : Int))) ∧ T * (2 : Int) ^ c = sgn s A + sgn t B := by
  obtain ⟨m, e, hm, hA⟩ := read_isU hx
  obtain ⟨n, g, hn, hB⟩ := read_isU hy
  generalize hL : f.leastPlace = L at *
  have hmin : min (L + (e : Int)) (L + (g : Int)) = L + ((min e g : Nat) : Int) := by omega
  have hme : (L + (e : Int) - (L + ((min e g : Nat) : Int))).toNat = e - min e g := by omega
  have hmg : (L + (g : Int) - (L + ((min e g : Nat) : Int))).toNat = g - min e g := by omega
  generalize hc : min e g = c at *
  have h1 : signed s m (e - c) * (2 : Int) ^ c = sgn s A := by
    rcases signed_mul s m e c with h | h
    · rw [h, hA]
    · omega
  have h2 : signed t n (g - c) * (2 : Int) ^ c = sgn t B := by
    rcases signed_mul t n g c with h | h
    · rw [h, hB]
    · omega
  generalize hT : signed s m (e - c) + signed t n (g - c) = T at *
  have hTT : T * (2 : Int) ^ c = sgn s A + sgn t B := by rw [← hT, Int.add_mul, h1, h2]
  refine ⟨T, c, ?_, hTT⟩
  unfold Format.add
  rw [hm, hn]
  simp only [Datum.sum, hmin, hme, hmg, hT, Option.map_some, Format.write]

theorem sub_nearest {f : Format} {x y : Nat} {s t : Bool} {A B : Nat} (hx : isU f x s A) (hy : isU f y t B) :
    ∃ (T : Int) (c : Nat), f.sub x y = some (f.nearest (if T = 0 then s && !t else decide (T < 0)) T.natAbs (f.leastPlace + (c : Int))) ∧ T * (2 : Int) ^ c = sgn s A + sgn (!t) B := by
  obtain ⟨m, e, hm, hA⟩ := read_isU hx
  obtain ⟨n, g, hn, hB⟩ := read_isU hy
  generalize hL : f.leastPlace = L at *
  have hmin : min (L + (e : Int)) (L + (g : Int)) = L + ((min e g : Nat) : Int) := by omega
  have hme : (L + (e : Int) - (L + ((min e g : Nat) : Int))).toNat = e - min e g := by omega
  have hmg : (L + (g : Int) - (L + ((min e g : Nat) : Int))).toNat = g - min e g := by omega
  generalize hc : min e g = c at *
  have h1 : signed s m (e - c) * (2 : Int) ^ c = sgn s A := by
    rcases signed_mul s m e c with h | h
    · rw [h, hA]
    · omega
  have h2 : signed (!t) n (g - c) * (2 : Int) ^ c = sgn (!t) B := by
    rcases signed_mul (!t) n g c with h | h
    · rw [h, hB]
    · omega
  generalize hT : signed s m (e - c) + signed (!t) n (g - c) = T at *
  have hTT : T * (2 : Int) ^ c = sgn s A + sgn (!t) B := by rw [← hT, Int.add_mul, h1, h2]
  refine ⟨T, c, ?_, hTT⟩
  unfold Format.sub
  rw [hm, hn]
  simp only [Datum.opposite, Datum.sum, hmin, hme, hmg, hT, Option.map_some, Format.write]

/-- x is N times 2^-25. -/
def At (x : Nat) (N : Int) : Prop := ∃ s, isU Ieee.single x s (N.natAbs * 2 ^ 124) ∧ sgn s (N.natAbs * 2 ^ 124) = N * ((2 ^ 124 : Nat) : Int)

theorem at_of {z : Nat} {neg : Bool} {c : Int} {K : Nat} (hK : K = 2 ^ 124) (h : isU Ieee.single z neg (c.natAbs * K)) (hs : sgn neg (c.natAbs * K) = c * (K : Int)) : At z c := by
  subst hK; exact ⟨neg, h, hs⟩

theorem at_rep {x : Nat} {N : Int} (h : At x N) : Rep Ieee.single (N.natAbs * 2 ^ 124) := by
  obtain ⟨s, h1, _⟩ := h
  exact isU_rep h1

theorem at_add {x y : Nat} {N M : Int} (hx : At x N) (hy : At y M) (hr : Rep Ieee.single ((N + M).natAbs * 2 ^ 124)) : ∃ z, floatBits .add .f32 x y = some z ∧ At z (N + M) := by
  obtain ⟨s, h1, h2⟩ := hx
  obtain ⟨t, h3, h4⟩ := hy
  obtain ⟨K, hK⟩ : ∃ K, K = 2 ^ 124 := ⟨_, rfl⟩
  rw [← hK] at h1 h2 h3 h4 hr
  obtain ⟨z, neg, g1, g2, g3, _⟩ := add_isU h1 h3 hr (by rw [h2, h4]; exact abs_scaled_add N M K)
  rw [h2, h4, ← Int.add_mul] at g3
  exact ⟨z, g1, at_of hK g2 g3⟩

theorem at_sub {x y : Nat} {N M : Int} (hx : At x N) (hy : At y M) (hr : Rep Ieee.single ((N - M).natAbs * 2 ^ 124)) : ∃ z, floatBits .sub .f32 x y = some z ∧ At z (N - M) := by
  obtain ⟨s, h1, h2⟩ := hx
  obtain ⟨t, h3, h4⟩ := hy
  obtain ⟨K, hK⟩ : ∃ K, K = 2 ^ 124 := ⟨_, rfl⟩
  rw [← hK] at h1 h2 h3 h4 hr
  have h5 : sgn (!t) (M.natAbs * K) = (-M) * (K : Int) := by rw [sgn_not, h4, Int.neg_mul]
  obtain ⟨z, neg, g1, g2, g3, _⟩ := sub_isU h1 h3 hr (by rw [h2, h5, Int.sub_eq_add_neg]; exact abs_scaled_add N (-M) K)
  rw [h2, h5, ← Int.add_mul, ← Int.sub_eq_add_neg] at g3
  exact ⟨z, g1, at_of hK g2 g3⟩

theorem rep_small {N : Int} (h : N.natAbs < 16777216) : Rep Ieee.single (N.natAbs * 2 ^ 124) := rep_s (e := 124) h (by omega)
theorem pow_move (n a b : Nat) : 2 ^ a * n * 2 ^ b = n * 2 ^ (a + b) := by
  rw [Nat.pow_add, Nat.mul_comm (2 ^ a) n, Nat.mul_assoc]
theorem rep_even {N q : Int} (h : N = 2048 * q) (hq : q.natAbs < 16777216) : Rep Ieee.single (N.natAbs * 2 ^ 124) := by
  have e : N.natAbs = 2 ^ 11 * q.natAbs := by rw [h, Int.natAbs_mul]; rfl
  rw [e, pow_move]
  exact rep_s (e := 11 + 124) hq (by omega)

/-- A number of whole steps, of some size, near to a sum. -/
theorem round_near {z : Nat} {neg : Bool} {T : Int} {M c : Nat} {P : Int} (hP : P = Ieee.single.leastPlace + (c : Int)) (hz : z = Ieee.single.nearest neg M P) (hT : M * 2 ^ c = T.natAbs * 2 ^ 124) (hn : neg = decide (T < 0)) (h1 : 2 ^ 34 ≤ T.natAbs) (h2 : T.natAbs < 2 ^ 46) :
    ∃ S q : Int, At z S ∧ S = 2048 * q ∧ (S - T).natAbs ≤ 2097152 := by
  have hT0 : T.natAbs ≠ 0 := by omega
  obtain ⟨p, hp⟩ : ∃ p, p = T.natAbs.log2 := ⟨_, rfl⟩
  have p1 : 2 ^ p ≤ T.natAbs := by rw [hp]; exact Nat.log2_self_le hT0
  have p2 : T.natAbs < 2 ^ (p + 1) := by rw [hp]; exact Nat.lt_log2_self
  have p3 : 34 ≤ p := by rw [hp]; exact (Nat.le_log2 hT0).2 h1
  have p4 : p < 46 := by rw [hp]; exact (Nat.log2_lt hT0).2 h2
  obtain ⟨V, hV⟩ : ∃ V, V = T.natAbs * 2 ^ 124 := ⟨_, rfl⟩
  have e1 : 23 + (p + 101) = p + 124 := by omega
  have e2 : 24 + (p + 101) = p + 1 + 124 := by omega
  have hpos : 0 < 2 ^ 124 := Nat.two_pow_pos _
  obtain ⟨q, g1, g2, g3, g4, g5⟩ := nearest_round neg (E := p + 101) (V := V) (by rw [hV]; exact hT) hP (by rw [e1, hV, Nat.pow_add]; exact Nat.mul_le_mul_right _ p1) (by rw [e2, hV, Nat.pow_add]; exact Nat.mul_lt_mul_of_pos_right p2 hpos) (by omega) (by omega)
  rw [← hz] at g1
  have eG : 2 ^ (p + 101) = 2 ^ (p - 23) * 2 ^ 124 := by rw [← Nat.pow_add]; congr 1; omega
  have eH : 2 ^ (p - 23) = 2048 * 2 ^ (p - 34) := by rw [show p - 23 = 11 + (p - 34) by omega, Nat.pow_add]
  have eB : 2 ^ (p - 23) ≤ 2 ^ 22 := Nat.pow_le_pow_right (by decide) (by omega)
  rw [eG] at g1 g4 g5
  rw [hV] at g4 g5
  obtain ⟨K, hK⟩ : ∃ K, K = 2 ^ 124 := ⟨_, rfl⟩
  rw [← hK] at g1 g4 g5 hpos
  generalize 2 ^ (p - 23) = G at *
  generalize 2 ^ (p - 34) = H at *
  have g4' : 2 * (q * G) ≤ 2 * T.natAbs + G := by
    have : (2 * (q * G)) * K ≤ (2 * T.natAbs + G) * K := by
      rw [Nat.add_mul]
      have a1 : 2 * (q * G) * K = 2 * (q * (G * K)) := by simp only [Nat.mul_assoc]
      have a2 : 2 * T.natAbs * K = 2 * (T.natAbs * K) := by simp only [Nat.mul_assoc]
      rw [a1, a2]; exact g4
    exact Nat.le_of_mul_le_mul_right this hpos
  have g5' : 2 * T.natAbs ≤ 2 * (q * G) + G := by
    have : (2 * T.natAbs) * K ≤ (2 * (q * G) + G) * K := by
      rw [Nat.add_mul]
      have a1 : 2 * (q * G) * K = 2 * (q * (G * K)) := by simp only [Nat.mul_assoc]
      have a2 : 2 * T.natAbs * K = 2 * (T.natAbs * K) := by simp only [Nat.mul_assoc]
      rw [a1, a2]; exact g5
    exact Nat.le_of_mul_le_mul_right this hpos
  have eqG : q * G = 2048 * (q * H) := by rw [eH, Nat.mul_left_comm]
  have g1' : isU Ieee.single z neg (q * G * K) := by rw [Nat.mul_assoc]; exact g1
  generalize q * G = R at *
  generalize q * H = Q at *
  rw [hn] at g1'
  by_cases hneg : T < 0
  · refine ⟨-(R : Int), -(Q : Int), ?_, by omega, by omega⟩
    have e3 : decide (T < 0) = true := by simp [hneg]
    rw [e3] at g1'
    have e4 : (-(R : Int)).natAbs = R := by omega
    exact at_of hK (neg := true) (by rw [e4]; exact g1') (by rw [e4]; simp [sgn, Int.natCast_mul, Int.neg_mul])
  · refine ⟨(R : Int), (Q : Int), ?_, by omega, by omega⟩
    have e3 : decide (T < 0) = false := by simp [hneg]
    rw [e3] at g1'
    have e4 : ((R : Int)).natAbs = R := by omega
    exact at_of hK (neg := false) (by rw [e4]; exact g1') (by rw [e4]; simp [sgn, Int.natCast_mul])

theorem scaled_eq {T0 T : Int} {c K : Nat} (hK : 0 < K) (h : T0 * (2 : Int) ^ c = T * (K : Int)) : T0.natAbs * 2 ^ c = T.natAbs * K ∧ (T0 < 0 ↔ T < 0) ∧ (T0 = 0 ↔ T = 0) := by
  have hp : (0 : Int) < (2 : Int) ^ c := by exact_mod_cast Nat.two_pow_pos c
  have hk : (0 : Int) < (K : Int) := by omega
  refine ⟨?_, ?_, ?_⟩
  · have := congrArg Int.natAbs h
    rw [Int.natAbs_mul, Int.natAbs_mul, Int.natAbs_natCast] at this
    rw [← this]
    congr 1
  · constructor
    · intro h0
      have h1 : T0 * (2 : Int) ^ c < 0 := Int.mul_neg_of_neg_of_pos h0 hp
      rw [h] at h1
      by_cases h2 : T < 0
      · exact h2
      · have := Int.mul_nonneg (show 0 ≤ T by omega) (Int.le_of_lt hk)
        omega
    · intro h0
      have h1 : T * (K : Int) < 0 := Int.mul_neg_of_neg_of_pos h0 hk
      rw [← h] at h1
      by_cases h2 : T0 < 0
      · exact h2
      · have := Int.mul_nonneg (show 0 ≤ T0 by omega) (Int.le_of_lt hp)
        omega
  · constructor
    · rintro rfl
      rw [Int.zero_mul] at h
      rcases Int.mul_eq_zero.1 h.symm with h1 | h1
      · exact h1
      · omega
    · rintro rfl
      rw [Int.zero_mul] at h
      rcases Int.mul_eq_zero.1 h with h1 | h1
      · exact h1
      · omega

theorem at_add_round {x y : Nat} {N M : Int} (hx : At x N) (hy : At y M) (h1 : 2 ^ 34 ≤ (N + M).natAbs) (h2 : (N + M).natAbs < 2 ^ 46) :
    ∃ (z : Nat) (S q : Int), floatBits .add .f32 x y = some z ∧ At z S ∧ S = 2048 * q ∧ (S - (N + M)).natAbs ≤ 2097152 := by
  obtain ⟨s, g1, g2⟩ := hx
  obtain ⟨t, g3, g4⟩ := hy
  obtain ⟨T0, c, e1, e2⟩ := add_nearest g1 g3
  rw [g2, g4, ← Int.add_mul] at e2
  obtain ⟨a1, a2, a3⟩ := scaled_eq (Nat.two_pow_pos 124) e2
  have hne : N + M ≠ 0 := by intro h; rw [h] at h1; revert h1; decide
  have hn : (if T0 = 0 then s && t else decide (T0 < 0)) = decide (N + M < 0) := by
    rw [if_neg (fun h => hne (a3.1 h))]
    rw [Bool.eq_iff_iff]; simp [a2]
  obtain ⟨S, q, b1, b2, b3⟩ := round_near rfl rfl a1 hn h1 h2
  exact ⟨_, S, q, e1, b1, b2, b3⟩

theorem at_sub_round {x y : Nat} {N M : Int} (hx : At x N) (hy : At y M) (h1 : 2 ^ 34 ≤ (N - M).natAbs) (h2 : (N - M).natAbs < 2 ^ 46) :
    ∃ (z : Nat) (S q : Int), floatBits .sub .f32 x y = some z ∧ At z S ∧ S = 2048 * q ∧ (S - (N - M)).natAbs ≤ 2097152 := by
  obtain ⟨s, g1, g2⟩ := hx
  obtain ⟨t, g3, g4⟩ := hy
  obtain ⟨T0, c, e1, e2⟩ := sub_nearest g1 g3
  rw [g2, sgn_not, g4, ← Int.neg_mul, ← Int.add_mul, ← Int.sub_eq_add_neg] at e2
  obtain ⟨a1, a2, a3⟩ := scaled_eq (Nat.two_pow_pos 124) e2
  have hne : N - M ≠ 0 := by intro h; rw [h] at h1; revert h1; decide
  have hn : (if T0 = 0 then s && !t else decide (T0 < 0)) = decide (N - M < 0) := by
    rw [if_neg (fun h => hne (a3.1 h))]
    rw [Bool.eq_iff_iff]; simp [a2]
  obtain ⟨S, q, b1, b2, b3⟩ := round_near rfl rfl a1 hn h1 h2
  exact ⟨_, S, q, e1, b1, b2, b3⟩

/-- s = x + y, v = s - x, and what TwoSum makes of them. -/
def lostC (x y : Nat) : Nat :=
  fC .add .f32 (fC .sub .f32 x (fC .sub .f32 (fC .add .f32 x y) (fC .sub .f32 (fC .add .f32 x y) x))) (fC .sub .f32 y (fC .sub .f32 (fC .add .f32 x y) x))

theorem lost_of {x y zs zv zd ze zf zr : Nat} (h1 : floatBits .add .f32 x y = some zs) (h2 : floatBits .sub .f32 zs x = some zv) (h3 : floatBits .sub .f32 zs zv = some zd) (h4 : floatBits .sub .f32 x zd = some ze) (h5 : floatBits .sub .f32 y zv = some zf) (h6 : floatBits .add .f32 ze zf = some zr) :
    fC .add .f32 x y = zs ∧ lostC x y = zr := by
  have e1 := fC_of h1
  refine ⟨e1, ?_⟩
  unfold lostC
  rw [e1, fC_of h2, fC_of h3, fC_of h4, fC_of h5, fC_of h6]

/-- THE SUM OF TWO NUMBERS, AND WHAT WAS LOST IN IT, ARE THEIR SUM. -/
theorem twoSum_exact {x y : Nat} {A B : Int} (hx : At x A) (hy : At y B) (hA : A.natAbs < 2 ^ 34) (hB : B = 0 ∨ (2 ^ 35 ≤ B.natAbs ∧ B.natAbs < 2 ^ 45 ∧ ∃ k, B = 2048 * k)) :
    ∃ (S : Int), floatBits .add .f32 x y = some (fC .add .f32 x y) ∧ At (fC .add .f32 x y) S ∧ At (lostC x y) (A + B - S) ∧ S.natAbs < 2 ^ 47 := by
  have r0 : Rep Ieee.single ((0 : Int).natAbs * 2 ^ 124) := rep_small (by decide)
  have rA := at_rep hx
  have rB := at_rep hy
  rcases hB with rfl | ⟨b1, b2, k, hk⟩
  · obtain ⟨zs, h1, w1⟩ := at_add hx hy (by rw [Int.add_zero]; exact rA)
    rw [Int.add_zero] at w1
    obtain ⟨zv, h2, w2⟩ := at_sub w1 hx (by rw [Int.sub_self]; exact r0)
    rw [Int.sub_self] at w2
    obtain ⟨zd, h3, w3⟩ := at_sub w1 w2 (by rw [Int.sub_zero]; exact rA)
    rw [Int.sub_zero] at w3
    obtain ⟨ze, h4, w4⟩ := at_sub hx w3 (by rw [Int.sub_self]; exact r0)
    rw [Int.sub_self] at w4
    obtain ⟨zf, h5, w5⟩ := at_sub hy w2 (by rw [Int.sub_zero]; exact r0)
    rw [Int.sub_zero] at w5
    obtain ⟨zr, h6, w6⟩ := at_add w4 w5 (by rw [Int.add_zero]; exact r0)
    rw [Int.add_zero] at w6
    obtain ⟨e1, e2⟩ := lost_of h1 h2 h3 h4 h5 h6
    rw [e1, e2]
    exact ⟨A, h1, w1, by rw [Int.add_zero, Int.sub_self]; exact w6, by omega⟩
  · have t1 : 2 ^ 34 ≤ (A + B).natAbs := by omega
    have t2 : (A + B).natAbs < 2 ^ 46 := by omega
    obtain ⟨zs, S, q, h1, w1, hq, hS⟩ := at_add_round hx hy t1 t2
    have u1 : 2 ^ 34 ≤ (S - A).natAbs := by omega
    have u2 : (S - A).natAbs < 2 ^ 46 := by omega
    obtain ⟨zv, V, q2, h2, w2, hq2, hV⟩ := at_sub_round w1 hx u1 u2
    obtain ⟨zd, h3, w3⟩ := at_sub w1 w2 (rep_even (q := q - q2) (by omega) (by omega))
    obtain ⟨ze, h4, w4⟩ := at_sub hx w3 (rep_small (by omega))
    obtain ⟨zf, h5, w5⟩ := at_sub hy w2 (rep_small (by omega))
    obtain ⟨zr, h6, w6⟩ := at_add w4 w5 (rep_small (by omega))
    obtain ⟨e1, e2⟩ := lost_of h1 h2 h3 h4 h5 h6
    rw [e1, e2]
    refine ⟨S, h1, w1, ?_, by omega⟩
    have e3 : A - (S - V) + (B - V) = A + B - S := by omega
    rw [e3] at w6
    exact w6
end Go.Proofs.Ytdmahikaajdkgaa
