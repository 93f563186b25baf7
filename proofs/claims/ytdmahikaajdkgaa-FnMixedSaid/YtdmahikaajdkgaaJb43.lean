/- Differences of numbers that are near to each other are exact. -/
import Derived.Test.YtdmahikaajdkgaaJb42
import Derived.Test.YtdmahikaajdkgaaJb11
namespace Go.Proofs.Ytdmahikaajdkgaa
open Ieee Go.RowKit

/-- x is N least steps. -/
def AtU (x : Nat) (N : Int) : Prop := ∃ s, isU Ieee.single x s N.natAbs ∧ sgn s N.natAbs = N

theorem atu_rep {x : Nat} {N : Int} (h : AtU x N) : Rep Ieee.single N.natAbs := by
  obtain ⟨s, h1, _⟩ := h
  exact isU_rep h1

theorem atu_add {x y : Nat} {N M : Int} (hx : AtU x N) (hy : AtU y M) (hr : Rep Ieee.single (N + M).natAbs) : ∃ z, floatBits .add .f32 x y = some z ∧ AtU z (N + M) := by
  obtain ⟨s, h1, h2⟩ := hx
  obtain ⟨t, h3, h4⟩ := hy
  obtain ⟨z, neg, g1, g2, g3, _⟩ := add_isU h1 h3 hr (by rw [h2, h4])
  rw [h2, h4] at g3
  exact ⟨z, g1, neg, g2, g3⟩

theorem atu_sub {x y : Nat} {N M : Int} (hx : AtU x N) (hy : AtU y M) (hr : Rep Ieee.single (N - M).natAbs) : ∃ z, floatBits .sub .f32 x y = some z ∧ AtU z (N - M) := by
  obtain ⟨s, h1, h2⟩ := hx
  obtain ⟨t, h3, h4⟩ := hy
  obtain ⟨z, neg, g1, g2, g3, _⟩ := sub_isU h1 h3 hr (by rw [h2, sgn_not, h4, Int.sub_eq_add_neg])
  rw [h2, sgn_not, h4, ← Int.sub_eq_add_neg] at g3
  exact ⟨z, g1, neg, g2, g3⟩

theorem atu_order {x y : Nat} {N M : Int} (hx : AtU x N) (hy : AtU y M) : FloatKind.f32.format.order x y = some (compare N M) := by
  obtain ⟨s, h1, h2⟩ := hx
  obtain ⟨t, h3, h4⟩ := hy
  have h : FloatKind.f32.format.order x y = _ := order_isU h1 h3
  rw [h, h2, h4]

theorem atu_nan {x : Nat} {N : Int} (h : AtU x N) : nanB .f32 x = false := by
  obtain ⟨s, h1, _⟩ := h
  obtain ⟨m, g, h, _⟩ := read_isU h1
  show (Ieee.single.read _).isNaN = false
  rw [h]; rfl

theorem atu_zero : AtU 0 0 := ⟨false, ⟨0, rfl, by rw [s_inf]; omega, by decide +kernel⟩, rfl⟩

theorem sgn_abs (s : Bool) (U : Nat) : (sgn s U).natAbs = U := by cases s <;> simp [sgn]

/-- What a finite number is. -/
def uZ (x : Nat) : Int := sgn (negOf Ieee.single x) (units Ieee.single (rungOf Ieee.single x))
theorem atu_fin {x : Nat} (hx : x < 4294967296) (h : rungOf Ieee.single x < 2139095040) : AtU x (uZ x) := by
  have hu := isU_of_rung hx (by rw [s_inf]; exact h)
  refine ⟨negOf Ieee.single x, ?_, ?_⟩
  · unfold uZ; rw [sgn_abs]; exact hu
  · unfold uZ; rw [sgn_abs]

theorem rep_close {r1 r2 : Nat} (h1 : r1 ≤ r2) (h2 : r2 - r1 ≤ 4194304) (hr : r2 < 2139095040) : units Ieee.single r1 ≤ units Ieee.single r2 ∧ Rep Ieee.single (units Ieee.single r2 - units Ieee.single r1) := by
  obtain ⟨k1, E1, u1, e1, b1, c1, d1⟩ := split_rung (show r1 < 2139095040 by omega)
  obtain ⟨k2, E2, u2, e2, b2, c2, d2⟩ := split_rung hr
  rw [u1, u2]
  have hE : E2 = E1 ∨ E2 = E1 + 1 := by
    by_cases h : E2 < E1
    · have := c1 (by omega)
      exfalso; omega
    · by_cases h' : E2 = E1
      · exact .inl h'
      · have := c2 (by omega)
        right; omega
  rcases hE with rfl | rfl
  · refine ⟨Nat.mul_le_mul_right _ (by omega), ?_⟩
    rw [← Nat.sub_mul]
    exact rep_s (by omega) (by omega)
  · have hk := c2 (by omega)
    have e : k2 * 2 ^ (E1 + 1) = (2 * k2) * 2 ^ E1 := by rw [Nat.pow_succ, Nat.mul_comm 2 k2, Nat.mul_assoc, Nat.mul_comm (2 ^ E1) 2]
    rw [e]
    refine ⟨Nat.mul_le_mul_right _ (by omega), ?_⟩
    rw [← Nat.sub_mul]
    exact rep_s (by omega) (by omega)

theorem rep_near {r1 r2 : Nat} (h1 : r1 < 2139095040) (h2 : r2 < 2139095040) (h3 : r2 ≤ r1 + 4194304) (h4 : r1 ≤ r2 + 4194304) : Rep Ieee.single ((units Ieee.single r1 : Int) - (units Ieee.single r2 : Int)).natAbs := by
  rcases Nat.le_total r1 r2 with h | h
  · obtain ⟨g1, g2⟩ := rep_close h (by omega) h2
    have e : ((units Ieee.single r1 : Int) - (units Ieee.single r2 : Int)).natAbs = units Ieee.single r2 - units Ieee.single r1 := by omega
    rw [e]; exact g2
  · obtain ⟨g1, g2⟩ := rep_close h (by omega) h1
    have e : ((units Ieee.single r1 : Int) - (units Ieee.single r2 : Int)).natAbs = units Ieee.single r1 - units Ieee.single r2 := by omega
    rw [e]; exact g2

theorem uZ_steps {x : Nat} : (0 < uZ x ↔ 0 < stepsZ x) ∧ (uZ x < 0 ↔ stepsZ x < 0) := by
  unfold uZ stepsZ sgn
  have h := units_zero Ieee.single (r := rungOf Ieee.single x)
  cases negOf Ieee.single x <;> simp <;> omega

theorem fromB_parts {k : Int} (h : -2139095039 ≤ k ∧ k ≤ 2139095039) : rungOf Ieee.single (fromB k) = k.natAbs ∧ stepsZ (fromB k) = k := by
  unfold stepsZ rungOf negOf fromB
  rw [s_sw]
  by_cases hk : k < 0
  · rw [if_pos hk]
    have e1 : (2147483648 + k.natAbs) % 2147483648 = k.natAbs := by omega
    have e2 : (2147483648 + k.natAbs) / 2147483648 = 1 := by omega
    rw [e1, e2]
    simp; omega
  · rw [if_neg hk]
    have e1 : k.natAbs % 2147483648 = k.natAbs := by omega
    have e2 : k.natAbs / 2147483648 = 0 := by omega
    rw [e1, e2]
    simp; omega

theorem near_diff {x y : Nat} (hx : rungOf Ieee.single x < 2139095040) (hy : rungOf Ieee.single y < 2139095040) (h1 : stepsZ y ≤ stepsZ x + 4194304) (h2 : stepsZ x ≤ stepsZ y + 4194304)
    (hp : 0 < stepsZ x ↔ 0 < stepsZ y) (hn : stepsZ x < 0 ↔ stepsZ y < 0) : Rep Ieee.single (uZ x - uZ y).natAbs := by
  unfold uZ
  unfold stepsZ at h1 h2 hp hn
  generalize hr1 : rungOf Ieee.single x = r1 at *
  generalize hr2 : rungOf Ieee.single y = r2 at *
  have hz : units Ieee.single 0 = 0 := by decide +kernel
  cases hs : negOf Ieee.single x <;> cases ht : negOf Ieee.single y <;> rw [hs, ht] at h1 h2 hp hn <;> simp only [Bool.false_eq_true, if_false, if_true] at h1 h2 hp hn <;> simp only [sgn, Bool.false_eq_true, if_false, if_true]
  · exact rep_near hx hy (by omega) (by omega)
  · have e1 : r1 = 0 := by omega
    have e2 : r2 = 0 := by omega
    rw [e1, e2, hz]; exact rep_s (q := 0) (e := 0) (by omega) (by omega)
  · have e1 : r1 = 0 := by omega
    have e2 : r2 = 0 := by omega
    rw [e1, e2, hz]; exact rep_s (q := 0) (e := 0) (by omega) (by omega)
  · have := rep_near hy hx (by omega) (by omega)
    have e : (-(units Ieee.single r1 : Int) - -(units Ieee.single r2 : Int)) = (units Ieee.single r2 : Int) - (units Ieee.single r1 : Int) := by omega
    rw [e]; exact this

theorem negFloat_lt {y : Nat} (h : y < 4294967296) : Op.negFloat .f32 y < 4294967296 := by
  have hN : Op.negFloat .f32 y = y ^^^ 2 ^ 31 := rfl
  rw [hN]
  exact Nat.xor_lt_two_pow (n := 32) h (by decide)

theorem atu_neg {y : Nat} (hy : y < 4294967296) (h : rungOf Ieee.single y < 2139095040) : AtU (Op.negFloat .f32 y) (-(uZ y)) ∧ rungOf Ieee.single (Op.negFloat .f32 y) < 2139095040 := by
  obtain ⟨n1, n2⟩ := neg_rung y
  have hlt : Op.negFloat .f32 y < 4294967296 := negFloat_lt hy
  have h1 := atu_fin hlt (by rw [n1]; exact h)
  unfold uZ at h1
  rw [n1, n2] at h1
  have e : sgn (!negOf Ieee.single y) (units Ieee.single (rungOf Ieee.single y)) = -(uZ y) := by
    unfold uZ
    exact sgn_not _ _
  rw [e] at h1
  exact ⟨h1, by rw [n1]; exact h⟩

/-- Nothing is lost in the difference of two numbers that are near to each other. -/
theorem twoSum_near {x y : Nat} {X Y : Int} (hx : AtU x X) (hy : AtU y (-Y)) (hr : Rep Ieee.single (X - Y).natAbs) :
    floatBits .add .f32 x y = some (fC .add .f32 x y) ∧ AtU (fC .add .f32 x y) (X - Y) ∧ AtU (lostC x y) 0 := by
  have rX := atu_rep hx
  have rY := atu_rep hy
  have r0 : Rep Ieee.single (0 : Int).natAbs := rep_s (q := 0) (e := 0) (by omega) (by omega)
  obtain ⟨zs, h1, w1⟩ := atu_add hx hy (by rw [← Int.sub_eq_add_neg]; exact hr)
  rw [← Int.sub_eq_add_neg] at w1
  obtain ⟨zv, h2, w2⟩ := atu_sub w1 hx (by rw [show X - Y - X = -Y by omega]; exact rY)
  rw [show X - Y - X = -Y by omega] at w2
  obtain ⟨zd, h3, w3⟩ := atu_sub w1 w2 (by rw [show X - Y - -Y = X by omega]; exact rX)
  rw [show X - Y - -Y = X by omega] at w3
  obtain ⟨ze, h4, w4⟩ := atu_sub hx w3 (by rw [Int.sub_self]; exact r0)
  rw [Int.sub_self] at w4
  obtain ⟨zf, h5, w5⟩ := atu_sub hy w2 (by rw [Int.sub_self]; exact r0)
  rw [Int.sub_self] at w5
  obtain ⟨zr, h6, w6⟩ := atu_add w4 w5 (by rw [Int.add_zero]; exact r0)
  rw [Int.add_zero] at w6
  obtain ⟨e1, e2⟩ := lost_of h1 h2 h3 h4 h5 h6
  rw [e1, e2]
  exact ⟨h1, w1, w6⟩
end Go.Proofs.Ytdmahikaajdkgaa
