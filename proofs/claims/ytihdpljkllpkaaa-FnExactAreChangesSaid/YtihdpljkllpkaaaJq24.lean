/- Whole numbers in single precision: sums, differences and products that fit are exact. -/
import Derived.Test.YtihdpljkllpkaaaJq21
namespace Go.Proofs.Ytihdpljkllpkaaa
open Ieee Go.RowKit

/-- A difference that the format has. -/
theorem sub_isU {f : Format} {x y : Nat} {s t : Bool} {A B U : Nat} (hx : isU f x s A) (hy : isU f y t B) (hU : Rep f U)
    (h : (sgn s A + sgn (!t) B).natAbs = U) : ∃ z neg, f.sub x y = some z ∧ isU f z neg U ∧ sgn neg U = sgn s A + sgn (!t) B ∧ (U = 0 → neg = (s && !t)) := by
  obtain ⟨m, e, hm, hA⟩ := read_isU hx
  obtain ⟨n, g, hn, hB⟩ := read_isU hy
  generalize hL : f.leastPlace = L at *
  have hmin : min (L + (e : Int)) (L + (g : Int)) = L + ((min e g : Nat) : Int) := by omega
  have hme : (L + (e : Int) - (L + ((min e g : Nat) : Int))).toNat = e - min e g := by omega
  have hmg : (L + (g : Int) - (L + ((min e g : Nat) : Int))).toNat = g - min e g := by omega
  generalize hc : min e g = c at *
  have h1 : signed s m (e - c) * (2 : Int) ^ c = sgn s A := by
    rcases signed_mul s m e c with h | h
    · rw [h, hA]
    · omega
  have h2 : signed (!t) n (g - c) * (2 : Int) ^ c = sgn (!t) B := by
    rcases signed_mul (!t) n g c with h | h
    · rw [h, hB]
    · omega
  generalize hT : signed s m (e - c) + signed (!t) n (g - c) = T at *
  have hTT : T * (2 : Int) ^ c = sgn s A + sgn (!t) B := by rw [← hT, Int.add_mul, h1, h2]
  have hpc : (0 : Int) < (2 : Int) ^ c := by exact_mod_cast Nat.two_pow_pos c
  have hTU : T.natAbs * 2 ^ c = U := by
    rw [← h, ← hTT, Int.natAbs_mul]
    congr 1
  refine ⟨f.nearest (if T = 0 then s && !t else decide (T < 0)) T.natAbs (L + (c : Int)), if T = 0 then s && !t else decide (T < 0), ?_, ?_, ?_, ?_⟩
  · unfold Format.sub
    rw [hm, hn]
    simp only [Datum.opposite, Datum.sum, hmin, hme, hmg, hT, Option.map_some, Format.write]
  · have := isU_of_nearest (f := f) (if T = 0 then s && !t else decide (T < 0)) (M := T.natAbs) (P := L + (c : Int)) (a := c) (b := 0) hU (by rw [hTU]; simp) (by rw [hL]; simp)
    exact this
  · rw [← hTT]
    by_cases h0 : T = 0
    · subst h0
      have : U = 0 := by rw [← hTU]; simp
      subst this
      simp [sgn]
    · rw [if_neg h0]
      rcases Int.lt_or_gt_of_ne h0 with hneg | hpos
      · have : decide (T < 0) = true := by simpa using hneg
        rw [this, ← hTU]
        unfold sgn
        rw [if_pos rfl]
        have hTa : T = -(T.natAbs : Int) := by omega
        rw [Int.natCast_mul, ← Int.neg_mul, ← hTa]
        simp
      · have : decide (T < 0) = false := by simp; omega
        rw [this, ← hTU]
        unfold sgn
        rw [if_neg (by simp)]
        have hTa : T = (T.natAbs : Int) := by omega
        rw [Int.natCast_mul, ← hTa]
        simp
  · intro h0
    have : T = 0 := by
      rw [← hTU] at h0
      have hp := Nat.two_pow_pos c
      rcases Nat.mul_eq_zero.1 h0 with h | h
      · omega
      · omega
    rw [if_pos this]

/-- The whole number n as a float. -/
def fi (n : Int) : Nat := floatOfInt .f32 n

theorem sgn_scaled (a : Int) (K : Nat) : sgn (decide (a < 0)) (a.natAbs * K) = a * (K : Int) := by
  unfold sgn
  by_cases h : a < 0
  · rw [if_pos (by simpa using h), Int.natCast_mul, ← Int.neg_mul]
    have : -(a.natAbs : Int) = a := by omega
    rw [this]
  · rw [if_neg (by simpa using h), Int.natCast_mul]
    have : (a.natAbs : Int) = a := by omega
    rw [this]

theorem isU_fi {a : Int} (h : a.natAbs < 16777216) : isU Ieee.single (fi a) (decide (a < 0)) (a.natAbs * 2 ^ 149) := by
  have e : fi a = Ieee.single.nearest (decide (a < 0)) a.natAbs 0 := rfl
  rw [e]
  exact isU_of_nearest (decide (a < 0)) (a := 149) (b := 0) (rep_s (e := 149) h (by omega)) (times_one_pow a.natAbs 149) (by rw [s_lp]; omega)

theorem neg_of_sgn {neg : Bool} {c : Int} {K : Nat} (hK : 0 < K) (h : sgn neg (c.natAbs * K) = c * (K : Int)) (h0 : c ≠ 0) : neg = decide (c < 0) := by
  unfold sgn at h
  have hp : (0 : Int) < (K : Int) := by omega
  have hc : 0 < c.natAbs := by omega
  have hq : 0 < c.natAbs * K := Nat.mul_pos hc hK
  cases neg with
  | false =>
    simp only [Bool.false_eq_true, if_false] at h
    by_cases hn : c < 0
    · have : c * (K : Int) < 0 := Int.mul_neg_of_neg_of_pos hn hp
      omega
    · simp [hn]
  | true =>
    simp only [if_true] at h
    by_cases hn : c < 0
    · simp [hn]
    · have : 0 < c * (K : Int) := Int.mul_pos (by omega) hp
      omega

theorem abs_scaled_add (a b : Int) (K : Nat) : (a * (K : Int) + b * (K : Int)).natAbs = (a + b).natAbs * K := by
  rw [← Int.add_mul, Int.natAbs_mul, Int.natAbs_natCast]

theorem fC_of {op : BinOp} {k : FloatKind} {x y z : Nat} (h : floatBits op k x y = some z) : fC op k x y = z := by unfold fC; rw [h]

theorem big_pos : 0 < 2 ^ 149 := Nat.two_pow_pos _

theorem add_fi_some {a b : Int} (ha : a.natAbs < 16777216) (hb : b.natAbs < 16777216) (hc : (a + b).natAbs < 16777216) : floatBits .add .f32 (fi a) (fi b) = some (fi (a + b)) := by
  have hx := isU_fi ha
  have hy := isU_fi hb
  have hz := isU_fi hc
  have hp := big_pos
  generalize 2 ^ 149 = K at *
  obtain ⟨z, neg, h1, h2, h3, h4⟩ := add_isU hx hy (isU_rep hz) (by rw [sgn_scaled, sgn_scaled]; exact abs_scaled_add a b K)
  rw [sgn_scaled, sgn_scaled, ← Int.add_mul] at h3
  have hn : neg = decide (a + b < 0) := by
    by_cases h0 : a + b = 0
    · have := h4 (by rw [h0]; simp)
      rw [this, h0]
      simp; omega
    · exact neg_of_sgn hp h3 h0
  rw [hn] at h2
  rw [isU_word hz h2]
  exact h1

theorem sub_fi_some {a b : Int} (ha : a.natAbs < 16777216) (hb : b.natAbs < 16777216) (hc : (a - b).natAbs < 16777216) : floatBits .sub .f32 (fi a) (fi b) = some (fi (a - b)) := by
  have hx := isU_fi ha
  have hy := isU_fi hb
  have hz := isU_fi hc
  have hp := big_pos
  generalize 2 ^ 149 = K at *
  have hs : sgn (!decide (b < 0)) (b.natAbs * K) = (-b) * (K : Int) := by
    unfold sgn
    by_cases h : b < 0
    · have e : (!decide (b < 0)) = false := by simp [h]
      have e2 : (b.natAbs : Int) = -b := by omega
      rw [e, if_neg (by simp), Int.natCast_mul, e2]
    · have e : (!decide (b < 0)) = true := by simp [h]
      have e2 : (b.natAbs : Int) = b := by omega
      rw [e, if_pos rfl, Int.natCast_mul, e2, Int.neg_mul]
  obtain ⟨z, neg, h1, h2, h3, h4⟩ := sub_isU hx hy (isU_rep hz) (by rw [sgn_scaled, hs, Int.sub_eq_add_neg]; exact abs_scaled_add a (-b) K)
  rw [sgn_scaled, hs, ← Int.add_mul, ← Int.sub_eq_add_neg] at h3
  have hn : neg = decide (a - b < 0) := by
    by_cases h0 : a - b = 0
    · have := h4 (by rw [h0]; simp)
      rw [this, h0]
      simp; omega
    · exact neg_of_sgn hp h3 h0
  rw [hn] at h2
  rw [isU_word hz h2]
  exact h1

theorem mul_fi_some {a b : Int} (ha : a.natAbs < 16777216) (hb : b.natAbs < 16777216) (hc : (a * b).natAbs < 16777216) (h0 : a * b ≠ 0 ∨ (0 ≤ a ∧ 0 ≤ b)) : floatBits .mul .f32 (fi a) (fi b) = some (fi (a * b)) := by
  have hx := isU_fi ha
  have hy := isU_fi hb
  have hz := isU_fi hc
  have hm : a.natAbs * 2 ^ 149 * (b.natAbs * 2 ^ 149) = (a * b).natAbs * 2 ^ 149 * 2 ^ 149 := by
    rw [Int.natAbs_mul]
    generalize 2 ^ 149 = K
    simp only [Nat.mul_assoc, Nat.mul_left_comm]
  obtain ⟨z, h1, h2⟩ := mul_isU (K := 149) s_lp hx hy (isU_rep hz) hm
  have hn : (decide (a < 0) ^^ decide (b < 0)) = decide (a * b < 0) := by
    by_cases h1 : a < 0
    · by_cases h2 : b < 0
      · have := Int.mul_pos_of_neg_of_neg h1 h2
        simp [h1, h2]; omega
      · have hbp : 0 < b := by
          rcases h0 with h | h
          · by_cases hb0 : b = 0
            · subst hb0; simp at h
            · omega
          · omega
        have := Int.mul_neg_of_neg_of_pos h1 hbp
        simp [h1, h2, this]
    · by_cases h2 : b < 0
      · have hap : 0 < a := by
          rcases h0 with h | h
          · by_cases ha0 : a = 0
            · subst ha0; simp at h
            · omega
          · omega
        have := Int.mul_neg_of_pos_of_neg hap h2
        simp [h1, h2, this]
      · have := Int.mul_nonneg (a := a) (b := b) (by omega) (by omega)
        simp [h1, h2]; omega
  rw [hn] at h2
  rw [isU_word hz h2]
  exact h1

theorem order_fi {a b : Int} (ha : a.natAbs < 16777216) (hb : b.natAbs < 16777216) : FloatKind.f32.format.order (fi a) (fi b) = some (compare a b) := by
  have hx := isU_fi ha
  have hy := isU_fi hb
  have hp := big_pos
  generalize 2 ^ 149 = K at *
  have h : FloatKind.f32.format.order (fi a) (fi b) = _ := order_isU hx hy
  rw [h, sgn_scaled, sgn_scaled, compare_mul a b K (by omega)]

theorem nan_fi {a : Int} (ha : a.natAbs < 16777216) : nanB .f32 (fi a) = false := by
  obtain ⟨m, g, h, _⟩ := read_isU (isU_fi ha)
  show (Ieee.single.read _).isNaN = false
  rw [h]; rfl
end Go.Proofs.Ytihdpljkllpkaaa
