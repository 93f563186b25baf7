/- Floats that are whole numbers, of either zero. -/
import Derived.Test.YtfafkdpefdpnkaaGreatJq20
namespace Go.Proofs.YtfafkdpefdpnkaaGreat
open Ieee Go.RowKit

/-- x is the whole number a (0 with any sign). -/
def Whole (x : Nat) (a : Int) : Prop := a.natAbs < 16777216 ∧ ∃ s, isU Ieee.single x s (a.natAbs * 2 ^ 149) ∧ sgn s (a.natAbs * 2 ^ 149) = a * ((2 ^ 149 : Nat) : Int)

theorem whole_fi {a : Int} (h : a.natAbs < 16777216) : Whole (fi a) a := ⟨h, _, isU_fi h, sgn_scaled a _⟩

theorem isU_negzero : isU Ieee.single 2147483648 true 0 := ⟨0, by decide +kernel, by rw [s_inf]; omega, by decide +kernel⟩
theorem whole_negzero : Whole 2147483648 0 := by
  refine ⟨by decide, true, ?_, ?_⟩
  · rw [Int.natAbs_zero, Nat.zero_mul]; exact isU_negzero
  · rw [Int.natAbs_zero, Nat.zero_mul, Int.zero_mul]; rfl

theorem whole_of {z : Nat} {neg : Bool} {c : Int} {K : Nat} (hK : K = 2 ^ 149) (hc : c.natAbs < 16777216) (h : isU Ieee.single z neg (c.natAbs * K)) (hs : sgn neg (c.natAbs * K) = c * (K : Int)) : Whole z c := by
  subst hK; exact ⟨hc, neg, h, hs⟩

theorem rep_whole {c : Int} (hc : c.natAbs < 16777216) : Rep Ieee.single (c.natAbs * 2 ^ 149) := rep_s (e := 149) hc (by omega)

theorem whole_add {x y : Nat} {a b : Int} (hx : Whole x a) (hy : Whole y b) (hc : (a + b).natAbs < 16777216) : ∃ z, floatBits .add .f32 x y = some z ∧ Whole z (a + b) := by
  obtain ⟨_, s, h1, h2⟩ := hx
  obtain ⟨_, t, h3, h4⟩ := hy
  have hr := rep_whole hc
  obtain ⟨K, hK⟩ : ∃ K, K = 2 ^ 149 := ⟨_, rfl⟩
  rw [← hK] at h1 h2 h3 h4 hr
  obtain ⟨z, neg, g1, g2, g3, _⟩ := add_isU h1 h3 hr (by rw [h2, h4]; exact abs_scaled_add a b K)
  rw [h2, h4, ← Int.add_mul] at g3
  exact ⟨z, g1, whole_of hK hc g2 g3⟩

theorem sgn_not (t : Bool) (U : Nat) : sgn (!t) U = -sgn t U := by cases t <;> simp [sgn]

theorem whole_sub {x y : Nat} {a b : Int} (hx : Whole x a) (hy : Whole y b) (hc : (a - b).natAbs < 16777216) : ∃ z, floatBits .sub .f32 x y = some z ∧ Whole z (a - b) := by
  obtain ⟨_, s, h1, h2⟩ := hx
  obtain ⟨_, t, h3, h4⟩ := hy
  have hr := rep_whole hc
  obtain ⟨K, hK⟩ : ∃ K, K = 2 ^ 149 := ⟨_, rfl⟩
  rw [← hK] at h1 h2 h3 h4 hr
  have h5 : sgn (!t) (b.natAbs * K) = (-b) * (K : Int) := by rw [sgn_not, h4, Int.neg_mul]
  obtain ⟨z, neg, g1, g2, g3, _⟩ := sub_isU h1 h3 hr (by rw [h2, h5, Int.sub_eq_add_neg]; exact abs_scaled_add a (-b) K)
  rw [h2, h5, ← Int.add_mul, ← Int.sub_eq_add_neg] at g3
  exact ⟨z, g1, whole_of hK hc g2 g3⟩

/-- A square is never -0. -/
theorem whole_square {x : Nat} {a : Int} (hx : Whole x a) (hc : (a * a).natAbs < 16777216) : floatBits .mul .f32 x x = some (fi (a * a)) := by
  obtain ⟨_, s, h1, h2⟩ := hx
  have hr := rep_whole hc
  have hz := isU_fi hc
  have hm : a.natAbs * 2 ^ 149 * (a.natAbs * 2 ^ 149) = (a * a).natAbs * 2 ^ 149 * 2 ^ 149 := by
    rw [Int.natAbs_mul]
    generalize 2 ^ 149 = K
    simp only [Nat.mul_assoc, Nat.mul_left_comm]
  obtain ⟨z, g1, g2⟩ := mul_isU (K := 149) s_lp h1 h1 hr hm
  have hn : (s ^^ s) = decide (a * a < 0) := by
    have : 0 ≤ a * a := by
      rcases Int.le_total 0 a with h | h
      · exact Int.mul_nonneg h h
      · exact Int.mul_nonneg_of_nonpos_of_nonpos h h
    cases s <;> simp <;> omega
  rw [hn] at g2
  rw [isU_word hz g2]
  exact g1

theorem order_whole {x y : Nat} {a b : Int} (hx : Whole x a) (hy : Whole y b) : FloatKind.f32.format.order x y = some (compare a b) := by
  obtain ⟨_, s, h1, h2⟩ := hx
  obtain ⟨_, t, h3, h4⟩ := hy
  have hp := big_pos
  generalize 2 ^ 149 = K at *
  have h : FloatKind.f32.format.order x y = _ := order_isU h1 h3
  rw [h, h2, h4, compare_mul a b K (by omega)]

theorem nan_whole {x : Nat} {a : Int} (h : Whole x a) : nanB .f32 x = false := by
  obtain ⟨_, s, h1, _⟩ := h
  obtain ⟨m, g, h, _⟩ := read_isU h1
  show (Ieee.single.read _).isNaN = false
  rw [h]; rfl

theorem isU_lt {x U : Nat} {s : Bool} (h : isU Ieee.single x s U) : x < 4294967296 ∧ rungOf Ieee.single x < 2139095040 := by
  obtain ⟨r, rfl, hr, _⟩ := h
  rw [s_inf] at hr
  unfold rungOf Ieee.Format.word
  rw [s_sw]
  cases s <;> simp <;> omega

theorem whole_lt {x : Nat} {a : Int} (h : Whole x a) : x < 4294967296 ∧ rungOf Ieee.single x < 2139095040 := by
  obtain ⟨_, s, h1, _⟩ := h
  exact isU_lt h1
end Go.Proofs.YtfafkdpefdpnkaaGreat
