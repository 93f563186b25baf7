/- Products of complex numbers whose parts are whole in some unit. -/
import Derived.Test.YtdmahikaajdkgaaJb43
import Derived.Test.YtdmahikaajdkgaaJb44
import Derived.Test.YtdmahikaajdkgaaJb19
namespace Go.Proofs.Ytdmahikaajdkgaa
open Ieee Go.RowKit

/-- x is N units of 2^j least steps. -/
def SAt (j x : Nat) (N : Int) : Prop := ∃ s, isU Ieee.single x s (N.natAbs * 2 ^ j) ∧ sgn s (N.natAbs * 2 ^ j) = N * ((2 ^ j : Nat) : Int)
theorem Whole.sat {x : Nat} {a : Int} (h : Whole x a) : SAt 149 x a := h.2
theorem SAt.whole {x : Nat} {a : Int} (h : SAt 149 x a) (ha : a.natAbs < 16777216) : Whole x a := ⟨ha, h⟩
theorem AtU.sat {x : Nat} {a : Int} (h : AtU x a) : SAt 0 x a := by
  obtain ⟨s, h1, h2⟩ := h
  exact ⟨s, by rw [Nat.pow_zero, Nat.mul_one]; exact h1, by rw [Nat.pow_zero, Nat.mul_one, h2]; simp⟩
theorem SAt.atu {x : Nat} {a : Int} (h : SAt 0 x a) : AtU x a := by
  obtain ⟨s, h1, h2⟩ := h
  rw [Nat.pow_zero, Nat.mul_one] at h1 h2
  exact ⟨s, h1, by rw [h2]; simp⟩

theorem sat_nan {j x : Nat} {N : Int} (h : SAt j x N) : nanB .f32 x = false := by
  obtain ⟨s, h1, _⟩ := h
  obtain ⟨m, g, h, _⟩ := read_isU h1
  show (Ieee.single.read _).isNaN = false
  rw [h]; rfl

theorem sat_order {j x y : Nat} {N M : Int} (hx : SAt j x N) (hy : SAt j y M) : FloatKind.f32.format.order x y = some (compare N M) := by
  obtain ⟨s, h1, h2⟩ := hx
  obtain ⟨t, h3, h4⟩ := hy
  have hp := Nat.two_pow_pos j
  generalize 2 ^ j = K at *
  have h : FloatKind.f32.format.order x y = _ := order_isU h1 h3
  rw [h, h2, h4, compare_mul N M K (by omega)]

theorem sat_widen {j x : Nat} {N : Int} (h : SAt j x N) (w : World) : ∃ r, floatToFloatBits .f32 x .f64 = some r ∧ DAt (j + 925) r N := by
  have hn := sat_nan h
  obtain ⟨s, h1, h2⟩ := h
  obtain ⟨r, hr⟩ := widen_some hn
  have hd := dat_widen h1 h2 w
  rw [show fCv .f32 .f64 x w = r by simp [fCv, hr]] at hd
  exact ⟨r, hr, hd⟩

theorem sign_of {s : Bool} {c : Int} {K : Nat} (hK : 0 < K) (h : sgn s (c.natAbs * K) = c * (K : Int)) : c = 0 ∨ s = decide (c < 0) := by
  by_cases h0 : c = 0
  · exact .inl h0
  · exact .inr (neg_of_sgn hK h h0)
theorem sign_mul {s t : Bool} {N M : Int} {K : Nat} (hN : N = 0 ∨ s = decide (N < 0)) (hM : M = 0 ∨ t = decide (M < 0)) : sgn (s ^^ t) ((N * M).natAbs * K) = N * M * (K : Int) := by
  by_cases h0 : N * M = 0
  · rw [h0]; simp [sgn]
  · have hN0 : N ≠ 0 := by intro e; subst e; simp at h0
    have hM0 : M ≠ 0 := by intro e; subst e; simp at h0
    rw [hN.resolve_left hN0, hM.resolve_left hM0]
    have hn : (decide (N < 0) ^^ decide (M < 0)) = decide (N * M < 0) := by
      by_cases h1 : N < 0
      · by_cases h2 : M < 0
        · have := Int.mul_pos_of_neg_of_neg h1 h2
          simp [h1, h2]; omega
        · have := Int.mul_neg_of_neg_of_pos h1 (show 0 < M by omega)
          simp [h1, h2, this]
      · by_cases h2 : M < 0
        · have := Int.mul_neg_of_pos_of_neg (show 0 < N by omega) h2
          simp [h1, h2, this]
        · have := Int.mul_nonneg (a := N) (b := M) (by omega) (by omega)
          simp [h1, h2]; omega
    rw [hn]
    exact sgn_scaled _ _

theorem scale_mul {N M J K L T : Nat} (h : J * K = L * T) : N * J * (M * K) = N * M * L * T := by
  calc N * J * (M * K) = N * M * (J * K) := by simp only [Nat.mul_assoc, Nat.mul_left_comm]
    _ = N * M * (L * T) := by rw [h]
    _ = N * M * L * T := by rw [Nat.mul_assoc (N * M)]

theorem dat_mul {j k l T x y : Nat} {N M : Int} (hT : T = 1074) (hx : DAt j x N) (hy : DAt k y M) (hl : j + k = l + T) (hr : (N * M).natAbs < 2 ^ 53) (hl2 : l ≤ 1500) : ∃ z, floatBits .mul .f64 x y = some z ∧ DAt l z (N * M) := by
  obtain ⟨s, h1, h2⟩ := hx
  obtain ⟨t, h3, h4⟩ := hy
  have hr' := rep_dd hr hl2
  have hp : 2 ^ j * 2 ^ k = 2 ^ l * 2 ^ T := by rw [← Nat.pow_add, ← Nat.pow_add, hl]
  have hj := Nat.two_pow_pos j
  have hk := Nat.two_pow_pos k
  have hL : Ieee.double.leastPlace = -(T : Int) := by rw [d_lp, hT]; rfl
  have hm : N.natAbs * 2 ^ j * (M.natAbs * 2 ^ k) = (N * M).natAbs * 2 ^ l * 2 ^ T := by rw [Int.natAbs_mul]; exact scale_mul hp
  obtain ⟨z, g1, g2⟩ := mul_isU hL h1 h3 hr' hm
  exact ⟨z, g1, _, g2, sign_mul (sign_of hj h2) (sign_of hk h4)⟩

theorem dat_sub {k x y : Nat} {N M : Int} (hx : DAt k x N) (hy : DAt k y M) (hr : (N - M).natAbs < 2 ^ 53) (hk : k ≤ 1500) : ∃ z, floatBits .sub .f64 x y = some z ∧ DAt k z (N - M) := by
  obtain ⟨s, h1, h2⟩ := hx
  obtain ⟨t, h3, h4⟩ := hy
  have hr' := rep_dd hr hk
  unfold DAt
  generalize 2 ^ k = K at *
  have h5 : sgn (!t) (M.natAbs * K) = (-M) * (K : Int) := by rw [sgn_not, h4, Int.neg_mul]
  obtain ⟨z, neg, g1, g2, g3, _⟩ := sub_isU h1 h3 hr' (by rw [h2, h5, Int.sub_eq_add_neg]; exact abs_scaled_add N (-M) K)
  rw [h2, h5, ← Int.add_mul, ← Int.sub_eq_add_neg] at g3
  exact ⟨z, g1, neg, g2, g3⟩

theorem dat_narrow {j x : Nat} {N : Int} (h : DAt (j + 925) x N) (hr : Rep Ieee.single (N.natAbs * 2 ^ j)) : ∃ z, floatToFloatBits .f64 x .f32 = some z ∧ SAt j z N := by
  obtain ⟨s, h1, h2⟩ := h
  obtain ⟨m, e, hm, hA⟩ := read_isU h1
  have hp := Nat.two_pow_pos 925
  have hU : isU Ieee.single (Ieee.single.nearest s m (Ieee.double.leastPlace + (e : Int))) s (N.natAbs * 2 ^ j) := by
    refine isU_of_nearest s (a := e) (b := 925) hr ?_ ?_
    · rw [hA, Nat.pow_add, Nat.mul_assoc]
    · rw [d_lp, s_lp]; omega
  obtain ⟨m', e', hr', _⟩ := read_isU hU
  refine ⟨Ieee.single.nearest s m (Ieee.double.leastPlace + (e : Int)), ?_, s, hU, ?_⟩
  · unfold floatToFloatBits FloatKind.decode FloatKind.encode FloatKind.format
    rw [if_neg (by simp)]
    simp only [hm, Ieee.Format.write, hr']
    rfl
  · rw [Nat.pow_add] at h2
    generalize 2 ^ 925 = Q at *
    generalize 2 ^ j = J at *
    have e1 : sgn s (N.natAbs * (J * Q)) = sgn s (N.natAbs * J) * (Q : Int) := by
      rw [← Nat.mul_assoc]
      unfold sgn
      cases s <;> simp [Int.natCast_mul, Int.neg_mul]
    rw [e1, Int.natCast_mul, ← Int.mul_assoc] at h2
    exact Int.eq_of_mul_eq_mul_right (by omega) h2

theorem rep_sat {j : Nat} {N : Int} (h : N.natAbs < 16777216) (hj : j ≤ 200) : Rep Ieee.single (N.natAbs * 2 ^ j) := rep_s (e := j) h (by omega)

/-- Products that are exact. -/
theorem mulS_at {j : Nat} (hj : j ≤ 200) {a b : Cx} {a1 a2 b1 b2 : Int} (h1 : SAt j a.1 a1) (h2 : SAt j a.2 a2) (g1 : Whole b.1 b1) (g2 : Whole b.2 b2)
    (q1 : (a1 * b1).natAbs < 9007199254740992) (q2 : (a2 * b2).natAbs < 9007199254740992) (q3 : (a1 * b2).natAbs < 9007199254740992) (q4 : (a2 * b1).natAbs < 9007199254740992)
    (r1 : (a1 * b1 - a2 * b2).natAbs < 16777216) (r2 : (a1 * b2 + a2 * b1).natAbs < 16777216) (w : World) :
    ∃ z, mulS a b = some z ∧ SAt j z.1 (a1 * b1 - a2 * b2) ∧ SAt j z.2 (a1 * b2 + a2 * b1) := by
  obtain ⟨ar, e1, d1⟩ := sat_widen h1 w
  obtain ⟨ai, e2, d2⟩ := sat_widen h2 w
  obtain ⟨br, e3, d3⟩ := sat_widen g1.sat w
  obtain ⟨bi, e4, d4⟩ := sat_widen g2.sat w
  obtain ⟨p, e5, d5⟩ := dat_mul (l := j + 925) (T := 1074) rfl d1 d3 (by omega) (by omega) (by omega)
  obtain ⟨q, e6, d6⟩ := dat_mul (l := j + 925) (T := 1074) rfl d2 d4 (by omega) (by omega) (by omega)
  obtain ⟨re, e7, d7⟩ := dat_sub d5 d6 (by omega) (by omega)
  obtain ⟨x, e8, d8⟩ := dat_narrow d7 (rep_sat r1 hj)
  obtain ⟨r, e9, d9⟩ := dat_mul (l := j + 925) (T := 1074) rfl d1 d4 (by omega) (by omega) (by omega)
  obtain ⟨s, e10, d10⟩ := dat_mul (l := j + 925) (T := 1074) rfl d2 d3 (by omega) (by omega) (by omega)
  obtain ⟨im, e11, d11⟩ := dat_add d9 d10 (by omega) (by omega)
  obtain ⟨y, e12, d12⟩ := dat_narrow d11 (rep_sat r2 hj)
  refine ⟨(x, y), ?_, d8, d12⟩
  unfold mulS
  simp only [e1, e2, e3, e4, e5, e6, e7, e8, e9, e10, e11, e12, Option.bind_some]
end Go.Proofs.Ytdmahikaajdkgaa
