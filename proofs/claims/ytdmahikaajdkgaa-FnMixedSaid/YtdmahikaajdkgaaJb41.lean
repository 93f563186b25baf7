/- How sums are rounded in single precision. -/
import Derived.Test.YtdmahikaajdkgaaJb20
namespace Go.Proofs.Ytdmahikaajdkgaa
open Ieee Go.RowKit

/-- What is cut off is no more than half a unit. -/
theorem cut_near (neg : Bool) (n d : Nat) (hd : d ≤ n.log2 + 2) :
    2 * (Toward.even.cut neg n d * 2 ^ d) ≤ 2 * n + 2 ^ d ∧ 2 * n ≤ 2 * (Toward.even.cut neg n d * 2 ^ d) + 2 ^ d ∧ n / 2 ^ d ≤ Toward.even.cut neg n d ∧ Toward.even.cut neg n d ≤ n / 2 ^ d + 1 := by
  unfold Toward.cut
  have hmin : min d (n.log2 + 2) = d := by omega
  have hpos := Nat.two_pow_pos d
  simp only [hmin, Nat.one_shiftLeft]
  have hdm := Nat.div_add_mod n (2 ^ d)
  have hlt := Nat.mod_lt n hpos
  generalize hg : 2 ^ d = g at *
  generalize n / g = q at *
  generalize n % g = r at *
  have e1 : (q + 1) * g = g * q + g := by rw [Nat.add_mul, Nat.one_mul, Nat.mul_comm]
  have e0 : q * g = g * q := Nat.mul_comm _ _
  by_cases h1 : g < 2 * r
  · simp only [h1, decide_true, Bool.true_or, Bool.toNat_true]
    rw [e1]
    refine ⟨by omega, by omega, by omega, by omega⟩
  · have h1' : decide (g < 2 * r) = false := by simpa using h1
    simp only [h1', Bool.false_or]
    by_cases h2 : (g == 2 * r && q % 2 == 1) = true
    · simp only [h2, Bool.toNat_true]
      simp only [Bool.and_eq_true, beq_iff_eq] at h2
      rw [e1]
      refine ⟨by omega, by omega, by omega, by omega⟩
    · have h2' : (g == 2 * r && q % 2 == 1) = false := by simpa using h2
      simp only [h2', Bool.toNat_false, Nat.add_zero]
      rw [e0]
      refine ⟨by omega, by omega, by omega, by omega⟩

theorem twice_key (B C K : Nat) (h : 2 * B = C) : (B + 0) * (K * 2) = C * K := by
  rw [Nat.add_zero, Nat.mul_comm K 2, ← Nat.mul_assoc, Nat.mul_comm B 2, h]

theorem units_kept {e kept : Nat} (h1 : 8388608 ≤ kept) (h2 : kept ≤ 16777216) : units Ieee.single (e * 8388608 + kept) = kept * 2 ^ e := by
  unfold units
  rw [s_bin, if_neg (by omega)]
  by_cases h : kept = 16777216
  · have a1 : (e * 8388608 + kept) % 8388608 = 0 := by omega
    have a2 : (e * 8388608 + kept) / 8388608 - 1 = e + 1 := by omega
    rw [a1, a2, Nat.pow_succ]
    exact twice_key _ _ _ (by omega)
  · have a1 : (e * 8388608 + kept) % 8388608 = kept - 8388608 := by omega
    have a2 : (e * 8388608 + kept) / 8388608 - 1 = e := by omega
    have a3 : 8388608 + (kept - 8388608) = kept := by omega
    rw [a1, a2, a3]

/-- The number nearest to V units, where V has 24 + E digits. -/
theorem nearest_round (neg : Bool) {M : Nat} {P : Int} {a V E : Nat} (hV : M * 2 ^ a = V) (hP : P = Ieee.single.leastPlace + a) (h1 : 2 ^ (23 + E) ≤ V) (h2 : V < 2 ^ (24 + E)) (hE : 1 ≤ E) (hE2 : E ≤ 250) :
    ∃ q, isU Ieee.single (Ieee.single.nearest neg M P) neg (q * 2 ^ E) ∧ 8388608 ≤ q ∧ q ≤ 16777216 ∧ 2 * (q * 2 ^ E) ≤ 2 * V + 2 ^ E ∧ 2 * V ≤ 2 * (q * 2 ^ E) + 2 ^ E := by
  have hV0 : V ≠ 0 := by have := Nat.two_pow_pos (23 + E); omega
  have hM : M ≠ 0 := by rintro rfl; rw [Nat.zero_mul] at hV; exact hV0 hV.symm
  have hl : V.log2 = 23 + E := by
    have g1 := (Nat.le_log2 hV0).2 h1
    have g2 := (Nat.log2_lt hV0).2 h2
    omega
  have hl2 : M.log2 + a = 23 + E := by rw [← log2_mul_pow hM a, hV, hl]
  have hfb : Ieee.single.fractionBits = 23 := rfl
  unfold Format.nearest
  rw [if_neg hM, hP, hfb]
  simp only []
  generalize Ieee.single.leastPlace = L at *
  have hlast : max (L + (a : Int) + (M.log2 : Int) - ((23 : Nat) : Int)) L = L + (E : Int) := by omega
  rw [hlast, s_bin]
  have he : (L + (E : Int) - L).toNat = E := by omega
  rw [he]
  by_cases hab : E ≤ a
  · have e1 : (L + (a : Int) - (L + (E : Int))).toNat = a - E := by omega
    have e2 : (L + (E : Int) - (L + (a : Int))).toNat = 0 := by omega
    rw [e1, e2, Nat.shiftLeft_eq]
    have hx : M * 2 ^ (a - E) * 2 ^ E = V := by rw [Nat.mul_assoc, ← Nat.pow_add, show a - E + E = a by omega, hV]
    have hc : Toward.even.cut neg (M * 2 ^ (a - E)) 0 = M * 2 ^ (a - E) := by
      have := cut_exact neg (M * 2 ^ (a - E)) 0
      simpa using this
    rw [hc]
    generalize M * 2 ^ (a - E) = q at *
    have hpe := Nat.two_pow_pos E
    have q1 : 8388608 ≤ q := by
      by_cases h : 8388608 ≤ q
      · exact h
      · exfalso
        have : q * 2 ^ E < 2 ^ 23 * 2 ^ E := Nat.mul_lt_mul_of_pos_right (by omega) hpe
        rw [← Nat.pow_add] at this
        omega
    have q2 : q < 16777216 := by
      by_cases h : q < 16777216
      · exact h
      · exfalso
        have : 2 ^ 24 * 2 ^ E ≤ q * 2 ^ E := Nat.mul_le_mul_right _ (by omega)
        rw [← Nat.pow_add] at this
        omega
    refine ⟨q, ⟨E * 8388608 + q, ?_, by rw [s_inf]; omega, units_kept q1 (by omega)⟩, q1, by omega, by omega, by omega⟩
    rw [Nat.min_eq_left (by rw [s_inf]; omega)]
  · have e1 : (L + (a : Int) - (L + (E : Int))).toNat = 0 := by omega
    have e2 : (L + (E : Int) - (L + (a : Int))).toNat = E - a := by omega
    rw [e1, e2, Nat.shiftLeft_eq, Nat.pow_zero, Nat.mul_one]
    obtain ⟨c1, c2, c3, c4⟩ := cut_near neg M (E - a) (by omega)
    generalize Toward.even.cut neg M (E - a) = q at *
    have hpa := Nat.two_pow_pos a
    have hs : 2 ^ (E - a) * 2 ^ a = 2 ^ E := by rw [← Nat.pow_add, show E - a + a = E by omega]
    have m1 : M < 2 ^ 24 * 2 ^ (E - a) := by
      have : M * 2 ^ a < 2 ^ (24 + E) := by rw [hV]; exact h2
      rw [Nat.pow_add, ← hs, ← Nat.mul_assoc] at this
      exact Nat.lt_of_mul_lt_mul_right this
    have m2 : 2 ^ 23 * 2 ^ (E - a) ≤ M := by
      have : 2 ^ (23 + E) ≤ M * 2 ^ a := by rw [hV]; exact h1
      rw [Nat.pow_add, ← hs, ← Nat.mul_assoc] at this
      exact Nat.le_of_mul_le_mul_right this hpa
    have hpe := Nat.two_pow_pos (E - a)
    have d1 : M / 2 ^ (E - a) < 2 ^ 24 := (Nat.div_lt_iff_lt_mul hpe).2 m1
    have d2 : 2 ^ 23 ≤ M / 2 ^ (E - a) := (Nat.le_div_iff_mul_le hpe).2 m2
    have q1 : 8388608 ≤ q := by omega
    have q2 : q ≤ 16777216 := by omega
    have r1 : 2 * (q * 2 ^ E) ≤ 2 * V + 2 ^ E := by
      have := Nat.mul_le_mul_right (2 ^ a) c1
      rw [Nat.add_mul, Nat.mul_assoc, Nat.mul_assoc, Nat.mul_assoc, hs, hV] at this
      exact this
    have r2 : 2 * V ≤ 2 * (q * 2 ^ E) + 2 ^ E := by
      have := Nat.mul_le_mul_right (2 ^ a) c2
      rw [Nat.add_mul, Nat.mul_assoc, Nat.mul_assoc, Nat.mul_assoc, hs, hV] at this
      exact this
    refine ⟨q, ⟨E * 8388608 + q, ?_, by rw [s_inf]; omega, units_kept q1 q2⟩, q1, q2, r1, r2⟩
    rw [Nat.min_eq_left (by rw [s_inf]; omega)]
end Go.Proofs.Ytdmahikaajdkgaa
