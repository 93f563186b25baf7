/- Subnormal numbers of single precision, by their bits. -/
import Derived.Test.YtkjlodoppmipfaaGreatJh1
import Derived.Test.YtkjlodoppmipfaaGreatJh2
namespace Go.Proofs.YtkjlodoppmipfaaGreat
section
open Ieee

/-! READING ANY WORD -/
def rungOf (f : Format) (b : Nat) : Nat := b % f.signWeight
def negOf (f : Format) (b : Nat) : Bool := b / f.signWeight % 2 == 1

theorem read_fin (f : Format) {b : Nat} (h : rungOf f b < f.infRung) : ∃ m e : Nat, f.read b = .number (negOf f b) m (f.leastPlace + (e : Int)) ∧ m * 2 ^ e = units f (rungOf f b) := by
  unfold Format.read units rungOf negOf at *
  simp only []
  by_cases hb : b % f.signWeight < f.binade
  · rw [if_pos hb, if_pos hb]
    exact ⟨_, 0, by simp; rfl, by simp⟩
  · rw [if_neg hb, if_pos h, if_neg hb]
    exact ⟨_, _, rfl, rfl⟩

theorem binade_le_inf (f : Format) (h : 2 ≤ f.exponentBits) : f.binade ≤ f.infRung := by
  unfold Format.infRung
  refine Nat.le_mul_of_pos_left _ ?_
  have : 2 ^ 1 ≤ 2 ^ f.exponentBits := Nat.pow_le_pow_right (by decide) (by omega)
  omega

theorem read_inf (f : Format) {b : Nat} (hf : 2 ≤ f.exponentBits) (h : rungOf f b = f.infRung) : f.read b = .infinity (negOf f b) := by
  have := binade_le_inf f hf
  unfold Format.read rungOf negOf at *
  simp only []
  rw [if_neg (by omega), if_neg (by omega), if_pos h]

theorem read_nan (f : Format) {b : Nat} (hf : 2 ≤ f.exponentBits) (h : f.infRung < rungOf f b) : (f.read b).isNaN = true := by
  have := binade_le_inf f hf
  unfold Format.read rungOf at *
  simp only []
  rw [if_neg (by omega), if_neg (by omega), if_neg (by omega)]
  rfl

theorem compare_mul (a b c : Int) (hc : 0 < c) : compare (a * c) (b * c) = compare a b := by
  simp only [compare, compareOfLessAndEq, Int.mul_lt_mul_right hc]
  by_cases h : a < b
  · simp [h]
  · simp only [h, if_false]
    by_cases h2 : a = b
    · simp [h2]
    · have : ¬ a * c = b * c := fun he => h2 (Int.eq_of_mul_eq_mul_right (by omega) he)
      simp [h2, this]

/-- Finite words stand to each other as their units do. -/
theorem order_fin {f : Format} {x y : Nat} {s t : Bool} {m n e g : Nat} (hx : f.read x = .number s m (f.leastPlace + (e : Int))) (hy : f.read y = .number t n (f.leastPlace + (g : Int))) :
    f.order x y = some (compare (sgn s (m * 2 ^ e)) (sgn t (n * 2 ^ g))) := by
  unfold Format.order
  rw [hx, hy]
  simp only [Datum.order]
  generalize f.leastPlace = L at *
  have hmin : min (L + (e : Int)) (L + (g : Int)) = L + ((min e g : Nat) : Int) := by omega
  have hme : (L + (e : Int) - (L + ((min e g : Nat) : Int))).toNat = e - min e g := by omega
  have hmg : (L + (g : Int) - (L + ((min e g : Nat) : Int))).toNat = g - min e g := by omega
  rw [hmin, hme, hmg]
  generalize hc : min e g = c at *
  have h1 : signed s m (e - c) * (2 : Int) ^ c = sgn s (m * 2 ^ e) := by
    rcases signed_mul s m e c with h | h
    · exact h
    · omega
  have h2 : signed t n (g - c) * (2 : Int) ^ c = sgn t (n * 2 ^ g) := by
    rcases signed_mul t n g c with h | h
    · exact h
    · omega
  have hpc : (0 : Int) < (2 : Int) ^ c := by exact_mod_cast Nat.two_pow_pos c
  rw [← h1, ← h2, compare_mul _ _ _ hpc]

/-- Units by rungs: for finite words. -/
theorem order_rung (f : Format) {x y : Nat} (hx : rungOf f x < f.infRung) (hy : rungOf f y < f.infRung) :
    f.order x y = some (compare (sgn (negOf f x) (units f (rungOf f x))) (sgn (negOf f y) (units f (rungOf f y)))) := by
  obtain ⟨m, e, h1, h2⟩ := read_fin f hx
  obtain ⟨n, g, h3, h4⟩ := read_fin f hy
  rw [order_fin h1 h3, h2, h4]

theorem units_small (f : Format) {r : Nat} (h : r < f.binade) : units f r = r := by unfold units; rw [if_pos h]
theorem units_big (f : Format) {r : Nat} (h : f.binade ≤ r) : f.binade ≤ units f r := by
  unfold units
  rw [if_neg (by omega)]
  have := Nat.two_pow_pos (r / f.binade - 1)
  exact Nat.le_trans (Nat.le_add_right _ _) (Nat.le_mul_of_pos_right _ this)
theorem units_zero (f : Format) {r : Nat} : units f r = 0 ↔ r = 0 := by
  have hB := binade_pos f
  constructor
  · intro h
    rcases Nat.lt_or_ge r f.binade with h1 | h1
    · rw [units_small f h1] at h; exact h
    · have := units_big f h1; omega
  · rintro rfl; exact units_small f hB
end
section
open Ieee Go.RowKit

/-- The bits without the sign are those of a subnormal number. -/
def subB (x : Nat) : Bool := decide (0 < rungOf Ieee.single x ∧ rungOf Ieee.single x < 8388608)

theorem s_inf : Ieee.single.infRung = 2139095040 := by decide +kernel
theorem s_bin : Ieee.single.binade = 8388608 := by decide +kernel
theorem s_sw : Ieee.single.signWeight = 2147483648 := by decide +kernel
theorem s_lp : Ieee.single.leastPlace = -149 := by decide +kernel
theorem s_eb : 2 ≤ Ieee.single.exponentBits := by decide +kernel

theorem order_inf_left {f : Format} {x y : Nat} {s : Bool} (hx : f.read x = .infinity s) (hy : ∃ t n j, f.read y = .number t n j) : f.order x y = some (if s then .lt else .gt) := by
  obtain ⟨t, n, j, hy⟩ := hy
  unfold Format.order
  rw [hx, hy]
  rfl
theorem order_inf_right {f : Format} {x y : Nat} {t : Bool} (hx : ∃ s n j, f.read x = .number s n j) (hy : f.read y = .infinity t) : f.order x y = some (if t then .gt else .lt) := by
  obtain ⟨s, n, j, hx⟩ := hx
  unfold Format.order
  rw [hx, hy]
  rfl

theorem num_zero : ∃ s n j, Ieee.single.read 0 = .number s n j := ⟨_, _, _, rfl⟩

theorem rung_zero : rungOf Ieee.single 0 = 0 := by decide +kernel
theorem neg_zero_ : negOf Ieee.single 0 = false := by decide +kernel
theorem rung_least : rungOf Ieee.single 8388608 = 8388608 := by decide +kernel
theorem neg_least : negOf Ieee.single 8388608 = false := by decide +kernel
theorem rung_mleast : rungOf Ieee.single 2155872256 = 8388608 := by decide +kernel
theorem neg_mleast : negOf Ieee.single 2155872256 = true := by decide +kernel
theorem units_least : units Ieee.single 8388608 = 8388608 := by decide +kernel

theorem cmp_lt {a b : Int} : (compare a b = .lt) ↔ a < b := by
  simp only [compare, compareOfLessAndEq]
  split
  · simp [*]
  · split <;> simp [*]
theorem cmp_eq {a b : Int} : (compare a b = .eq) ↔ a = b := by
  simp only [compare, compareOfLessAndEq]
  split
  · simp; omega
  · split <;> simp [*]
theorem cmp_gt {a b : Int} : (compare a b = .gt) ↔ b < a := by
  simp only [compare, compareOfLessAndEq]
  split
  · simp; omega
  · split
    · simp; omega
    · simp; omega

/-- What impl asks of x is whether it is subnormal. -/
theorem sub_impl (x : Nat) : ((Ieee.single.order x 0 != some .eq) && (Ieee.single.order 2155872256 x == some .lt) && (Ieee.single.order x 8388608 == some .lt)) = subB x := by
  rcases Nat.lt_trichotomy (rungOf Ieee.single x) Ieee.single.infRung with h | h | h
  · have h0 : rungOf Ieee.single 0 < Ieee.single.infRung := by rw [rung_zero, s_inf]; omega
    have h1 : rungOf Ieee.single 8388608 < Ieee.single.infRung := by rw [rung_least, s_inf]; omega
    have h2 : rungOf Ieee.single 2155872256 < Ieee.single.infRung := by rw [rung_mleast, s_inf]; omega
    rw [order_rung _ h h0, order_rung _ h2 h, order_rung _ h h1, rung_zero, rung_least, rung_mleast, neg_zero_, neg_least, neg_mleast, units_least]
    have hz : units Ieee.single 0 = 0 := by decide +kernel
    rw [hz]
    unfold subB
    generalize negOf Ieee.single x = s
    by_cases hb : rungOf Ieee.single x < Ieee.single.binade
    · rw [units_small _ hb]
      rw [s_bin] at hb
      generalize rungOf Ieee.single x = r at *
      rw [Bool.eq_iff_iff]
      simp only [Bool.and_eq_true, bne_iff_ne, ne_eq, beq_iff_eq, Option.some.injEq, cmp_eq, cmp_lt, decide_eq_true_eq]
      cases s <;> simp [sgn] <;> omega
    · have hu := units_big Ieee.single (r := rungOf Ieee.single x) (by omega)
      rw [s_bin] at hb hu
      generalize units Ieee.single (rungOf Ieee.single x) = u at *
      generalize rungOf Ieee.single x = r at *
      rw [Bool.eq_iff_iff]
      simp only [Bool.and_eq_true, bne_iff_ne, ne_eq, beq_iff_eq, Option.some.injEq, cmp_eq, cmp_lt, decide_eq_true_eq]
      cases s <;> simp [sgn] <;> omega
  · have hi := read_inf Ieee.single s_eb h
    rw [s_inf] at h
    have hs : subB x = false := by unfold subB; rw [h]; decide
    rw [hs, order_inf_left hi num_zero, order_inf_right (x := 2155872256) ⟨_, _, _, rfl⟩ hi, order_inf_left (y := 8388608) hi ⟨_, _, _, rfl⟩]
    cases negOf Ieee.single x <;> decide
  · have hn := read_nan Ieee.single s_eb h
    rw [s_inf] at h
    have hs : subB x = false := by unfold subB; rw [decide_eq_false_iff_not]; omega
    have e1 : Ieee.single.order 2155872256 x = none := order_nan_right (k := .f32) hn
    rw [hs, e1]
    simp
end
end Go.Proofs.YtkjlodoppmipfaaGreat
