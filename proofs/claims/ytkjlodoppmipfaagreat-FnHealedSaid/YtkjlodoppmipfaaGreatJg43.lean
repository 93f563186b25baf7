/- Gains and sums: what they give is exact. -/
import Derived.Test.YtkjlodoppmipfaaGreatJg40
import Derived.Test.YtkjlodoppmipfaaGreatJg42
import Derived.Outline
namespace Go.Proofs.YtkjlodoppmipfaaGreat
open Go.RowKit

/-- x is N times 2 ^ j least steps. -/
def SAh (j x : Nat) (N : Int) : Prop := ∃ s, isU Ieee.single x s (N.natAbs * 2 ^ j) ∧ sgn s (N.natAbs * 2 ^ j) = N * ((2 ^ j : Nat) : Int)
theorem sah_zero (j : Nat) : SAh j 0 0 := ⟨false, ⟨0, by decide +kernel, by rw [s_inf]; omega, by rw [Int.natAbs_zero, Nat.zero_mul]; decide +kernel⟩, by simp [sgn]⟩
theorem rep_h {j : Nat} {N : Int} (h : N.natAbs < 16777216) (hj : j ≤ 200) : Rep Ieee.single (N.natAbs * 2 ^ j) := rep_s (e := j) h (by omega)
theorem sah_add {j x y : Nat} {N M : Int} (hj : j ≤ 200) (hx : SAh j x N) (hy : SAh j y M) (h : (N + M).natAbs < 16777216) : ∃ z, floatBits .add .f32 x y = some z ∧ SAh j z (N + M) := by
  obtain ⟨s, h1, h2⟩ := hx
  obtain ⟨t, h3, h4⟩ := hy
  have hr := rep_h h hj
  unfold SAh
  generalize 2 ^ j = K at *
  obtain ⟨z, neg, g1, g2, g3, _⟩ := add_isU h1 h3 hr (by rw [h2, h4]; exact abs_scaled_add N M K)
  rw [h2, h4, ← Int.add_mul] at g3
  exact ⟨z, g1, neg, g2, g3⟩
theorem sah_up {j x : Nat} {N : Int} (hx : SAh (j + 1) x N) : SAh j x (2 * N) := by
  obtain ⟨s, h1, h2⟩ := hx
  have e : N.natAbs * 2 ^ (j + 1) = (2 * N).natAbs * 2 ^ j := by
    rw [Nat.pow_succ, Int.natAbs_mul, Nat.mul_comm (2 ^ j) 2, ← Nat.mul_assoc, Nat.mul_comm N.natAbs 2]; rfl
  have e2 : N * ((2 ^ (j + 1) : Nat) : Int) = 2 * N * ((2 ^ j : Nat) : Int) := by
    rw [Nat.pow_succ, Int.natCast_mul, Int.mul_comm ((2 ^ j : Nat) : Int) _, ← Int.mul_assoc, Int.mul_comm N _]; rfl
  exact ⟨s, by rw [← e]; exact h1, by rw [← e, ← e2]; exact h2⟩
/-- Levels: halves. -/
def lvl (h : Nat) : Nat := if h = 0 then 0 else if h = 1 then 1056964608 else if h = 2 then 1065353216 else if h = 3 then 1069547520 else 1073741824
theorem lvl_isU {h : Nat} (hh : h ≤ 4) : isU Ieee.single (lvl h) false (h * 2 ^ 148) := by
  rcases (show h = 0 ∨ h = 1 ∨ h = 2 ∨ h = 3 ∨ h = 4 by omega) with rfl | rfl | rfl | rfl | rfl
  · exact ⟨0, by decide +kernel, by rw [s_inf]; omega, by decide +kernel⟩
  · exact ⟨1056964608, by decide +kernel, by rw [s_inf]; omega, by decide +kernel⟩
  · exact ⟨1065353216, by decide +kernel, by rw [s_inf]; omega, by decide +kernel⟩
  · exact ⟨1069547520, by decide +kernel, by rw [s_inf]; omega, by decide +kernel⟩
  · exact ⟨1073741824, by decide +kernel, by rw [s_inf]; omega, by decide +kernel⟩
theorem lvl_quo {h : Nat} (hh : h ≤ 4) : floatBits .quo .f32 (fi (h : Int)) 1073741824 = some (lvl h) := by
  rcases (show h = 0 ∨ h = 1 ∨ h = 2 ∨ h = 3 ∨ h = 4 by omega) with rfl | rfl | rfl | rfl | rfl <;> decide +kernel
theorem sgn_mulh {s : Bool} {N : Int} {K h Q : Nat} (h2 : sgn s (N.natAbs * K) = N * (K : Int)) (hK : 0 < K) : sgn (s ^^ false) ((N * (h : Int)).natAbs * Q) = N * (h : Int) * (Q : Int) := by
  rw [Bool.xor_false, Int.natAbs_mul, Int.natAbs_natCast]
  unfold sgn at h2 ⊢
  cases s
  · simp only [Bool.false_eq_true, if_false] at h2 ⊢
    have hn : ((N.natAbs : Nat) : Int) = N := by
      have h3 : ((N.natAbs : Nat) : Int) * (K : Int) = N * (K : Int) := by rw [← h2]; exact (Int.natCast_mul ..).symm
      exact Int.eq_of_mul_eq_mul_right (by omega) h3
    rw [Int.natCast_mul, Int.natCast_mul, hn]
  · simp only [if_true] at h2 ⊢
    have hn : -((N.natAbs : Nat) : Int) = N := by
      have h3 : -((N.natAbs : Nat) : Int) * (K : Int) = N * (K : Int) := by rw [← h2, Int.natCast_mul, Int.neg_mul]
      exact Int.eq_of_mul_eq_mul_right (by omega) h3
    rw [Int.natCast_mul, Int.natCast_mul, ← Int.neg_mul, ← Int.neg_mul, hn]
theorem sah_mul {j x h : Nat} {N : Int} (hj : j ≤ 200) (hx : SAh (j + 1) x N) (hh : h ≤ 4) (hN : (N * (h : Int)).natAbs < 16777216) : ∃ z, floatBits .mul .f32 x (lvl h) = some z ∧ SAh j z (N * (h : Int)) := by
  obtain ⟨s, h1, h2⟩ := hx
  have hl := lvl_isU hh
  have hr := rep_h hN hj
  have hm : N.natAbs * 2 ^ (j + 1) * (h * 2 ^ 148) = (N * (h : Int)).natAbs * 2 ^ j * 2 ^ 149 := by
    rw [Int.natAbs_mul, Int.natAbs_natCast, Nat.pow_succ, show (149 : Nat) = 148 + 1 from rfl, Nat.pow_succ 2 148]
    generalize 2 ^ j = K
    generalize 2 ^ 148 = Q
    simp only [Nat.mul_assoc, Nat.mul_left_comm, Nat.mul_comm]
  obtain ⟨z, g1, g2⟩ := mul_isU (K := 149) s_lp h1 hl hr hm
  exact ⟨z, g1, _, g2, sgn_mulh h2 (Nat.two_pow_pos _)⟩
theorem sah_flush {j x : Nat} {N : Int} (hj : 23 ≤ j) (hx : SAh j x N) : subB x = false ∧ nanB .f32 x = false := by
  obtain ⟨s, h1, h2⟩ := hx
  obtain ⟨m, g, h, _⟩ := read_isU h1
  refine ⟨?_, by show (Ieee.single.read _).isNaN = false; rw [h]; rfl⟩
  obtain ⟨r, rfl, hr, hu⟩ := h1
  have hw : rungOf Ieee.single (Ieee.single.word s r) = r := by
    have hlt := infRung_lt' Ieee.single
    unfold rungOf Ieee.Format.word
    split
    · rw [Nat.add_mod_left, Nat.mod_eq_of_lt (by omega)]
    · exact Nat.mod_eq_of_lt (by omega)
  unfold subB
  rw [hw, decide_eq_false_iff_not]
  rintro ⟨a, b⟩
  rw [units_small Ieee.single (by rw [s_bin]; exact b)] at hu
  have hN : 0 < N.natAbs := by
    rcases Nat.eq_zero_or_pos N.natAbs with h0 | h0
    · rw [h0, Nat.zero_mul] at hu; omega
    · exact h0
  have hp : 2 ^ 23 ≤ 2 ^ j := Nat.pow_le_pow_right (by decide) hj
  have := Nat.le_mul_of_pos_left (2 ^ j) hN
  omega

/-- What module i gives: its parts are few steps of 2 ^ -i. -/
def Good (i : Nat) (z : Cx) : Prop := ∃ a b : Int, SAh (149 - i) z.1 a ∧ SAh (149 - i) z.2 b ∧ a.natAbs ≤ 2 * 8 ^ i ∧ b.natAbs ≤ 2 * 8 ^ i
theorem good_zero (i : Nat) : Good i (0, 0) := ⟨0, 0, sah_zero _, sah_zero _, by simp, by simp⟩
theorem good_next {i : Nat} {z : Cx} (hi : i ≤ 100) (h : Good i z) : Good (i + 1) z := by
  obtain ⟨a, b, h1, h2, h3, h4⟩ := h
  rw [show 149 - i = (149 - (i + 1)) + 1 by omega] at h1 h2
  have hp : 8 ^ (i + 1) = 8 * 8 ^ i := by rw [Nat.pow_succ, Nat.mul_comm]
  refine ⟨2 * a, 2 * b, sah_up h1, sah_up h2, ?_, ?_⟩
  · rw [Int.natAbs_mul, hp]; have : (2 : Int).natAbs = 2 := rfl; rw [this]; omega
  · rw [Int.natAbs_mul, hp]; have : (2 : Int).natAbs = 2 := rfl; rw [this]; omega
theorem good_up {f : Nat} {z : Cx} (h : Good f z) : ∀ k, f + k ≤ 100 → Good (f + k) z
  | 0, _ => h
  | k + 1, hk => good_next (i := f + k) (by omega) (good_up h k (by omega))
theorem good_to {f k : Nat} {z : Cx} (h : Good f z) (hf : f ≤ k) (hk : k ≤ 100) : Good k z := by
  have := good_up h (k - f) (by omega)
  rwa [show f + (k - f) = k by omega] at this
theorem addsR_of {a b c d : Cx} (h : Adds a b c) (hr : AddsR a b d) : d = c := by
  obtain ⟨w1, w2, rfl⟩ := hr
  obtain ⟨c1, c2⟩ := c
  unfold Adds cSumBits at h
  cases h1 : floatBits .add .f32 a.1 b.1 with
  | none => rw [h1] at h; simp at h
  | some x =>
    cases h2 : floatBits .add .f32 a.2 b.2 with
    | none => rw [h1, h2] at h; simp at h
    | some y =>
      rw [h1, h2] at h
      simp at h
      obtain ⟨rfl, rfl⟩ := h
      unfold fAr
      rw [h1, h2]
/-- Two outputs are added; what comes of it is twice as great at most. -/
theorem good_adds {k : Nat} {x y : Cx} (hk : k ≤ 6) (hx : Good k x) (hy : Good k y) : Adds x y (addC x y) ∧ ∃ a b : Int, SAh (149 - k) (addC x y).1 a ∧ SAh (149 - k) (addC x y).2 b ∧ a.natAbs ≤ 4 * 8 ^ k ∧ b.natAbs ≤ 4 * 8 ^ k := by
  obtain ⟨a, b, h1, h2, h3, h4⟩ := hx
  obtain ⟨c, d, g1, g2, g3, g4⟩ := hy
  have hp : 8 ^ k ≤ 8 ^ 6 := Nat.pow_le_pow_right (by decide) hk
  have hp6 : 8 ^ 6 = 262144 := by decide
  obtain ⟨z1, e1, f1⟩ := sah_add (by omega) h1 g1 (by omega)
  obtain ⟨z2, e2, f2⟩ := sah_add (by omega) h2 g2 (by omega)
  have q1 : (addC x y).1 = z1 := fC_of e1
  have q2 : (addC x y).2 = z2 := fC_of e2
  refine ⟨?_, a + c, b + d, by rw [q1]; exact f1, by rw [q2]; exact f2, by omega, by omega⟩
  unfold Adds cSumBits
  rw [e1, e2]
  show some (z1, z2) = some (addC x y)
  rw [← q1, ← q2]
theorem good_zero_adds {k : Nat} {x : Cx} (hk : k ≤ 6) (hx : Good k x) : Adds (0, 0) x (addC (0, 0) x) ∧ Good k (addC (0, 0) x) := by
  obtain ⟨a, b, h1, h2, h3, h4⟩ := hx
  have hp : 8 ^ k ≤ 8 ^ 6 := Nat.pow_le_pow_right (by decide) hk
  have hp6 : 8 ^ 6 = 262144 := by decide
  obtain ⟨z1, e1, f1⟩ := sah_add (N := 0) (by omega) (sah_zero _) h1 (by omega)
  obtain ⟨z2, e2, f2⟩ := sah_add (N := 0) (by omega) (sah_zero _) h2 (by omega)
  have q1 : (addC (0, 0) x).1 = z1 := fC_of e1
  have q2 : (addC (0, 0) x).2 = z2 := fC_of e2
  rw [Int.zero_add] at f1 f2
  refine ⟨?_, a, b, by rw [q1]; exact f1, by rw [q2]; exact f2, h3, h4⟩
  unfold Adds cSumBits
  show (floatBits .add .f32 0 x.1).bind _ = _
  rw [e1]
  show (floatBits .add .f32 0 x.2).bind _ = _
  rw [e2]
  show some (z1, z2) = some (addC (0, 0) x)
  rw [← q1, ← q2]

/-- What a gain of h halves (a sum: none) gives. -/
def stepG (l : Option Nat) (z : Cx) : Cx := match l with
  | none => z
  | some h => (fC .mul .f32 z.1 (lvl h), fC .mul .f32 z.2 (lvl h))
def uG (l : Option Nat) : Un := match l with
  | none => uSum
  | some h => uGain (lvl h)
def kdG (l : Option Nat) : Kd := match l with
  | none => .sum
  | some _ => .gain
theorem step_good {k : Nat} (hk : k ≤ 6) {z : Cx} {a b : Int} (h1 : SAh (149 - k) z.1 a) (h2 : SAh (149 - k) z.2 b) (h3 : a.natAbs ≤ 4 * 8 ^ k) (h4 : b.natAbs ≤ 4 * 8 ^ k) (l : Option Nat) (hl : ∀ h, l = some h → h ≤ 4) : StepsU (kdG l) (uG l) z (uG l) (stepG l z) ∧ Good (k + 1) (stepG l z) := by
  have hp : 8 ^ (k + 1) = 8 * 8 ^ k := by rw [Nat.pow_succ, Nat.mul_comm]
  have hp6 : 8 ^ k ≤ 262144 := Nat.le_trans (Nat.pow_le_pow_right (by decide) hk) (by decide)
  rw [show 149 - k = (149 - (k + 1)) + 1 by omega] at h1 h2
  cases l with
  | none =>
    refine ⟨stepU_sum z, 2 * a, 2 * b, sah_up h1, sah_up h2, ?_, ?_⟩
    · rw [Int.natAbs_mul, hp]; have : (2 : Int).natAbs = 2 := rfl; rw [this]; omega
    · rw [Int.natAbs_mul, hp]; have : (2 : Int).natAbs = 2 := rfl; rw [this]; omega
  | some h =>
    have hh := hl h rfl
    have ba : (a * (h : Int)).natAbs ≤ 16 * 8 ^ k := by
      rw [Int.natAbs_mul, Int.natAbs_natCast]
      calc a.natAbs * h ≤ (4 * 8 ^ k) * 4 := Nat.mul_le_mul h3 hh
        _ = 16 * 8 ^ k := by omega
    have bb : (b * (h : Int)).natAbs ≤ 16 * 8 ^ k := by
      rw [Int.natAbs_mul, Int.natAbs_natCast]
      calc b.natAbs * h ≤ (4 * 8 ^ k) * 4 := Nat.mul_le_mul h4 hh
        _ = 16 * 8 ^ k := by omega
    obtain ⟨z1, e1, f1⟩ := sah_mul (by omega) h1 hh (by omega)
    obtain ⟨z2, e2, f2⟩ := sah_mul (by omega) h2 hh (by omega)
    have q : stepG (some h) z = (z1, z2) := by show (_, _) = _; rw [fC_of e1, fC_of e2]
    obtain ⟨u1, n1⟩ := sah_flush (by omega) f1
    obtain ⟨u2, n2⟩ := sah_flush (by omega) f2
    rw [q]
    refine ⟨stepU_gain (lvl h) z (z1, z2) e1 e2 (by show flushB z1 = z1; unfold flushB; rw [u1]; rfl) (by show flushB z2 = z2; unfold flushB; rw [u2]; rfl) n1 n2, a * (h : Int), b * (h : Int), f1, f2, by omega, by omega⟩
theorem good_flush {i : Nat} (hi : i ≤ 100) {z : Cx} (h : Good i z) : (flushX z.1, flushX z.2) = z := by
  obtain ⟨a, b, h1, h2, _, _⟩ := h
  obtain ⟨u1, _⟩ := sah_flush (by omega) h1
  obtain ⟨u2, _⟩ := sah_flush (by omega) h2
  unfold flushX
  rw [u1, u2]
  rfl
/-- What faults make of outputs is as good. -/
theorem good_alter {i : Nat} (hi : i ≤ 100) (f : Ft) {out before : Cx} (h1 : Good i out) (h2 : Good i before) : Good i (alterF f out before) := by
  unfold alterF
  split
  · exact good_zero i
  · split
    · exact h2
    · rw [good_flush hi h1]; exact h1
theorem good_faulty {i : Nat} (hi : i ≤ 100) {before : Cx} (h2 : Good i before) (r : Nat) : ∀ (L : List Ft) {out : Cx}, Good i out → Good i (faulty L r i before out)
  | [], _, h => h
  | f :: L, out, h => by
    show Good i (faulty L r i before (if actsOn f r i then alterF f out before else out))
    refine good_faulty hi h2 r L ?_
    split
    · exact good_alter hi f h h2
    · exact h
end Go.Proofs.YtkjlodoppmipfaaGreat
