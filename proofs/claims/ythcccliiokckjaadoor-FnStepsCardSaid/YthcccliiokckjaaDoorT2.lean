/- The odd part of a number, and its text. -/
import Derived.Test.YthcccliiokckjaaDoorC3
import Derived.Test.YthcccliiokckjaaDoorT1
import Derived.Lib.TrailingZeros
namespace Go.Proofs.YthcccliiokckjaaDoor
open Go.RowKit

def twos (u : Nat) : Nat := Lib.ctz 400 u
def oddOf (u : Nat) : Nat := u / 2 ^ twos u

theorem odd_uniq {a b m n : Nat} (h : 2 ^ a * (2 * m + 1) = 2 ^ b * (2 * n + 1)) : a = b ∧ m = n := by
  have key : ∀ (a b m n : Nat), a < b → 2 ^ a * (2 * m + 1) = 2 ^ b * (2 * n + 1) → False := by
    intro a b m n hab h
    obtain ⟨c, rfl⟩ : ∃ c, b = a + 1 + c := ⟨b - a - 1, by omega⟩
    have e : 2 ^ (a + 1 + c) * (2 * n + 1) = 2 ^ a * (2 * (2 ^ c * (2 * n + 1))) := by
      rw [Nat.pow_add, Nat.pow_succ]
      simp only [Nat.mul_assoc, Nat.mul_comm, Nat.mul_left_comm]
    rw [e] at h
    have := Nat.eq_of_mul_eq_mul_left (Nat.two_pow_pos a) h
    omega
  rcases Nat.lt_trichotomy a b with hab | rfl | hab
  · exact (key _ _ _ _ hab h).elim
  · have := Nat.eq_of_mul_eq_mul_left (Nat.two_pow_pos a) h
    exact ⟨rfl, by omega⟩
  · exact (key _ _ _ _ hab h.symm).elim

theorem odd_split {u : Nat} (h0 : 0 < u) (h : u < 2 ^ 400) : ∃ m, u = 2 ^ twos u * (2 * m + 1) ∧ oddOf u = 2 * m + 1 := by
  have e : twos u = Lib.ctzFrom 400 u := by unfold twos Lib.ctz; rw [if_neg (by omega)]
  obtain ⟨m, hm, _⟩ := Lib.ctzFrom_spec 400 u h0 h
  rw [← e] at hm
  refine ⟨m, hm, ?_⟩
  unfold oddOf
  conv => lhs; lhs; rw [hm]
  rw [Nat.mul_comm]
  exact Nat.mul_div_cancel _ (Nat.two_pow_pos _)

theorem odd_of {u a m : Nat} (hu : u < 2 ^ 400) (h : u = 2 ^ a * (2 * m + 1)) : twos u = a ∧ oddOf u = 2 * m + 1 := by
  have h0 : 0 < u := by rw [h]; exact Nat.mul_pos (Nat.two_pow_pos _) (by omega)
  obtain ⟨n, h1, h2⟩ := odd_split h0 hu
  rw [h1] at h
  obtain ⟨h3, rfl⟩ := odd_uniq h
  exact ⟨h3, h2⟩

/-- The units of a single number are few. -/
theorem units_lt {r : Nat} (h : r < 2139095040) : units Ieee.single r < 2 ^ 400 := by
  obtain ⟨kept, E, hu, _, hk, _, hE⟩ := split_rung h
  rw [hu]
  calc kept * 2 ^ E < 2 ^ 24 * 2 ^ E := Nat.mul_lt_mul_of_pos_right (by omega) (Nat.two_pow_pos _)
    _ = 2 ^ (24 + E) := by rw [Nat.pow_add]
    _ ≤ 2 ^ 400 := Nat.pow_le_pow_right (by omega) (by omega)

/-- A single number's odd part and its power of two. -/
def oddR (r : Nat) : Nat := oddOf (units Ieee.single r)
def powR (r : Nat) : Int := (twos (units Ieee.single r) : Int) - 149

theorem oddR_lt {r : Nat} (h0 : 0 < r) (h : r < 2139095040) : oddR r < 16777216 ∧ oddR r % 2 = 1 ∧ twos (units Ieee.single r) ≤ 277 ∧ units Ieee.single r = oddR r * 2 ^ twos (units Ieee.single r) := by
  obtain ⟨kept, E, hu, hr, hk, hk1, hE⟩ := split_rung h
  have hkp : 0 < kept := by
    by_cases h1 : 0 < E
    · have := hk1 h1; omega
    · have : E = 0 := by omega
      subst this; omega
  obtain ⟨m, hm1, hm2⟩ := odd_split (u := kept) hkp (by omega)
  have e : units Ieee.single r = 2 ^ (twos kept + E) * (2 * m + 1) := by
    rw [hu]
    conv => lhs; lhs; rw [hm1]
    rw [Nat.pow_add]
    simp only [Nat.mul_assoc, Nat.mul_comm, Nat.mul_left_comm]
  obtain ⟨h1, h2⟩ := odd_of (units_lt h) e
  have hle : 2 * m + 1 ≤ kept := by
    conv => rhs; rw [hm1]
    exact Nat.le_mul_of_pos_left _ (Nat.two_pow_pos _)
  have htw : twos kept < 24 := by
    have h3 : 2 ^ twos kept ≤ kept := by
      conv => rhs; rw [hm1]
      exact Nat.le_mul_of_pos_right _ (by omega)
    have : 2 ^ twos kept < 2 ^ 24 := by omega
    exact (Nat.pow_lt_pow_iff_right (by omega : 1 < 2)).1 this
  refine ⟨by unfold oddR; omega, by unfold oddR; omega, by omega, ?_⟩
  unfold oddR
  rw [h2, h1, Nat.mul_comm]; exact e

/-- The text of a single number. -/
def fmtL (x : Nat) : List UInt8 :=
  if rungOf Ieee.single x < 2139095040 then
    (if negOf Ieee.single x then [45] else []) ++ (if rungOf Ieee.single x = 0 then [48] else Lib.itoa (oddR (rungOf Ieee.single x) : Int) ++ [112] ++ Lib.itoa (powR (rungOf Ieee.single x)))
  else []

end Go.Proofs.YthcccliiokckjaaDoor
