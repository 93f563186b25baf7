/-  -/
import Derived.Test.YtihdpljkllpkaaaJq1
namespace Go.Proofs.Ytihdpljkllpkaaa
open Ieee

/-! READING ANY WORD -/
def rungOf (f : Format) (b : Nat) : Nat := b % f.signWeight
def negOf (f : Format) (b : Nat) : Bool := b / f.signWeight % 2 == 1

theorem read_fin (f : Format) {b : Nat} (h : rungOf f b < f.infRung) : ∃ m e : Nat, f.read b = .number (negOf f b) m (f.leastPlace + (e : Int)) ∧ m * 2 ^ e = units f (rungOf f b) := by
  unfold Format.read units rungOf negOf at *
  simp only []
  by_cases hb : b % f.signWeight < f.binade
  · rw [if_pos hb, if_pos hb]
    exact ⟨_, 0, by simp; rfl, by simp⟩
  · rw [if_neg hb, if_pos h, if_neg hb]
    exact ⟨_, _, rfl, rfl⟩

theorem binade_le_inf (f : Format) (h : 2 ≤ f.exponentBits) : f.binade ≤ f.infRung := by
  unfold Format.infRung
  refine Nat.le_mul_of_pos_left _ ?_
  have : 2 ^ 1 ≤ 2 ^ f.exponentBits := Nat.pow_le_pow_right (by decide) (by omega)
  omega

theorem read_inf (f : Format) {b : Nat} (hf : 2 ≤ f.exponentBits) (h : rungOf f b = f.infRung) : f.read b = .infinity (negOf f b) := by
  have := binade_le_inf f hf
  unfold Format.read rungOf negOf at *
  simp only []
  rw [if_neg (by omega), if_neg (by omega), if_pos h]

theorem read_nan (f : Format) {b : Nat} (hf : 2 ≤ f.exponentBits) (h : f.infRung < rungOf f b) : (f.read b).isNaN = true := by
  have := binade_le_inf f hf
  unfold Format.read rungOf at *
  simp only []
  rw [if_neg (by omega), if_neg (by omega), if_neg (by omega)]
  rfl

theorem compare_mul (a b c : Int) (hc : 0 < c) : compare (a * c) (b * c) = compare a b := by
  simp only [compare, compareOfLessAndEq, Int.mul_lt_mul_right hc]
  by_cases h : a < b
  · simp [h]
  · simp only [h, if_false]
    by_cases h2 : a = b
    · simp [h2]
    · have : ¬ a * c = b * c := fun he => h2 (Int.eq_of_mul_eq_mul_right (by omega) he)
      simp [h2, this]

/-- Finite words stand to each other as their units do. -/
theorem order_fin {f : Format} {x y : Nat} {s t : Bool} {m n e g : Nat} (hx : f.read x = .number s m (f.leastPlace + (e : Int))) (hy : f.read y = .number t n (f.leastPlace + (g : Int))) :
    f.order x y = some (compare (sgn s (m * 2 ^ e)) (sgn t (n * 2 ^ g))) := by
  unfold Format.order
  rw [hx, hy]
  simp only [Datum.order]
  generalize f.leastPlace = L at *
  have hmin : min (L + (e : Int)) (L + (g : Int)) = L + ((min e g : Nat) : Int) := by omega
  have hme : (L + (e : Int) - (L + ((min e g : Nat) : Int))).toNat = e - min e g := by omega
  have hmg : (L + (g : Int) - (L + ((min e g : Nat) : Int))).toNat = g - min e g := by omega
  rw [hmin, hme, hmg]
  generalize hc : min e g = c at *
  have h1 : signed s m (e - c) * (2 : Int) ^ c = sgn s (m * 2 ^ e) := by
    rcases signed_mul s m e c with h | h
    · exact h
    · omega
  have h2 : signed t n (g - c) * (2 : Int) ^ c = sgn t (n * 2 ^ g) := by
    rcases signed_mul t n g c with h | h
    · exact h
    · omega
  have hpc : (0 : Int) < (2 : Int) ^ c := by exact_mod_cast Nat.two_pow_pos c
  rw [← h1, ← h2, compare_mul _ _ _ hpc]

/-- Units by rungs: for finite words. -/
theorem order_rung (f : Format) {x y : Nat} (hx : rungOf f x < f.infRung) (hy : rungOf f y < f.infRung) :
    f.order x y = some (compare (sgn (negOf f x) (units f (rungOf f x))) (sgn (negOf f y) (units f (rungOf f y)))) := by
  obtain ⟨m, e, h1, h2⟩ := read_fin f hx
  obtain ⟨n, g, h3, h4⟩ := read_fin f hy
  rw [order_fin h1 h3, h2, h4]

theorem units_small (f : Format) {r : Nat} (h : r < f.binade) : units f r = r := by unfold units; rw [if_pos h]
theorem units_big (f : Format) {r : Nat} (h : f.binade ≤ r) : f.binade ≤ units f r := by
  unfold units
  rw [if_neg (by omega)]
  have := Nat.two_pow_pos (r / f.binade - 1)
  exact Nat.le_trans (Nat.le_add_right _ _) (Nat.le_mul_of_pos_right _ this)
theorem units_zero (f : Format) {r : Nat} : units f r = 0 ↔ r = 0 := by
  have hB := binade_pos f
  constructor
  · intro h
    rcases Nat.lt_or_ge r f.binade with h1 | h1
    · rw [units_small f h1] at h; exact h
    · have := units_big f h1; omega
  · rintro rfl; exact units_small f hB
end Go.Proofs.Ytihdpljkllpkaaa
