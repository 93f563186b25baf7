/- Subnormal numbers of single precision, by their bits. -/
import Derived.Test.YtihdpljkllpkaaaJq11
import Derived.Test.YtihdpljkllpkaaaJq2
import Derived.Test.YtihdpljkllpkaaaJq5
namespace Go.Proofs.Ytihdpljkllpkaaa
open Ieee Go.RowKit

/-- The bits without the sign are those of a subnormal number. -/
def subB (x : Nat) : Bool := decide (0 < rungOf Ieee.single x ∧ rungOf Ieee.single x < 8388608)

theorem s_inf : Ieee.single.infRung = 2139095040 := by decide +kernel
theorem s_bin : Ieee.single.binade = 8388608 := by decide +kernel
theorem s_sw : Ieee.single.signWeight = 2147483648 := by decide +kernel
theorem s_lp : Ieee.single.leastPlace = -149 := by decide +kernel
theorem s_eb : 2 ≤ Ieee.single.exponentBits := by decide +kernel

theorem order_inf_left {f : Format} {x y : Nat} {s : Bool} (hx : f.read x = .infinity s) (hy : ∃ t n j, f.read y = .number t n j) : f.order x y = some (if s then .lt else .gt) := by
  obtain ⟨t, n, j, hy⟩ := hy
  unfold Format.order
  rw [hx, hy]
  rfl
theorem order_inf_right {f : Format} {x y : Nat} {t : Bool} (hx : ∃ s n j, f.read x = .number s n j) (hy : f.read y = .infinity t) : f.order x y = some (if t then .gt else .lt) := by
  obtain ⟨s, n, j, hx⟩ := hx
  unfold Format.order
  rw [hx, hy]
  rfl

theorem num_zero : ∃ s n j, Ieee.single.read 0 = .number s n j := ⟨_, _, _, rfl⟩

theorem rung_zero : rungOf Ieee.single 0 = 0 := by decide +kernel
theorem neg_zero_ : negOf Ieee.single 0 = false := by decide +kernel
theorem rung_least : rungOf Ieee.single 8388608 = 8388608 := by decide +kernel
theorem neg_least : negOf Ieee.single 8388608 = false := by decide +kernel
theorem rung_mleast : rungOf Ieee.single 2155872256 = 8388608 := by decide +kernel
theorem neg_mleast : negOf Ieee.single 2155872256 = true := by decide +kernel
theorem units_least : units Ieee.single 8388608 = 8388608 := by decide +kernel

theorem cmp_lt {a b : Int} : (compare a b = .lt) ↔ a < b := by
  simp only [compare, compareOfLessAndEq]
  split
  · simp [*]
  · split <;> simp [*]
theorem cmp_eq {a b : Int} : (compare a b = .eq) ↔ a = b := by
  simp only [compare, compareOfLessAndEq]
  split
  · simp; omega
  · split <;> simp [*]
theorem cmp_gt {a b : Int} : (compare a b = .gt) ↔ b < a := by
  simp only [compare, compareOfLessAndEq]
  split
  · simp; omega
  · split
    · simp; omega
    · simp; omega

/-- What impl asks of x is whether it is subnormal. -/
theorem sub_impl (x : Nat) : ((Ieee.single.order x 0 != some .eq) && (Ieee.single.order 2155872256 x == some .lt) && (Ieee.single.order x 8388608 == some .lt)) = subB x := by
  rcases Nat.lt_trichotomy (rungOf Ieee.single x) Ieee.single.infRung with h | h | h
  · have h0 : rungOf Ieee.single 0 < Ieee.single.infRung := by rw [rung_zero, s_inf]; omega
    have h1 : rungOf Ieee.single 8388608 < Ieee.single.infRung := by rw [rung_least, s_inf]; omega
    have h2 : rungOf Ieee.single 2155872256 < Ieee.single.infRung := by rw [rung_mleast, s_inf]; omega
    rw [order_rung _ h h0, order_rung _ h2 h, order_rung _ h h1, rung_zero, rung_least, rung_mleast, neg_zero_, neg_least, neg_mleast, units_least]
    have hz : units Ieee.single 0 = 0 := by decide +kernel
    rw [hz]
    unfold subB
    generalize negOf Ieee.single x = s
    by_cases hb : rungOf Ieee.single x < Ieee.single.binade
    · rw [units_small _ hb]
      rw [s_bin] at hb
      generalize rungOf Ieee.single x = r at *
      rw [Bool.eq_iff_iff]
      simp only [Bool.and_eq_true, bne_iff_ne, ne_eq, beq_iff_eq, Option.some.injEq, cmp_eq, cmp_lt, decide_eq_true_eq]
      cases s <;> simp [sgn] <;> omega
    · have hu := units_big Ieee.single (r := rungOf Ieee.single x) (by omega)
      rw [s_bin] at hb hu
      generalize units Ieee.single (rungOf Ieee.single x) = u at *
      generalize rungOf Ieee.single x = r at *
      rw [Bool.eq_iff_iff]
      simp only [Bool.and_eq_true, bne_iff_ne, ne_eq, beq_iff_eq, Option.some.injEq, cmp_eq, cmp_lt, decide_eq_true_eq]
      cases s <;> simp [sgn] <;> omega
  · have hi := read_inf Ieee.single s_eb h
    rw [s_inf] at h
    have hs : subB x = false := by unfold subB; rw [h]; decide
    rw [hs, order_inf_left hi num_zero, order_inf_right (x := 2155872256) ⟨_, _, _, rfl⟩ hi, order_inf_left (y := 8388608) hi ⟨_, _, _, rfl⟩]
    cases negOf Ieee.single x <;> decide
  · have hn := read_nan Ieee.single s_eb h
    rw [s_inf] at h
    have hs : subB x = false := by unfold subB; rw [decide_eq_false_iff_not]; omega
    have e1 : Ieee.single.order 2155872256 x = none := order_nan_right (k := .f32) hn
    rw [hs, e1]
    simp
end Go.Proofs.Ytihdpljkllpkaaa
