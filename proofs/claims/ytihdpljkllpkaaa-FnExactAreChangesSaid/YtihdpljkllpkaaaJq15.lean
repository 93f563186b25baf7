/-  -/
import Derived.Test.YtihdpljkllpkaaaJq11
namespace Go.Proofs.Ytihdpljkllpkaaa
open Ieee

/-- What a finite word stands for, its digits bounded. -/
theorem read_isU_lt {f : Format} {w : Nat} {neg : Bool} {U : Nat} (h : isU f w neg U) :
    ∃ m e : Nat, f.read w = .number neg m (f.leastPlace + (e : Int)) ∧ m * 2 ^ e = U ∧ m < 2 * f.binade := by
  obtain ⟨r, rfl, hr, hU⟩ := h
  have hB := binade_pos f
  have hlt := infRung_lt' f
  have hs : (f.word neg r) % f.signWeight = r := by
    unfold Format.word
    split
    · rw [Nat.add_mod_left, Nat.mod_eq_of_lt (by omega)]
    · exact Nat.mod_eq_of_lt (by omega)
  have hd : ((f.word neg r) / f.signWeight % 2 == 1) = neg := by
    unfold Format.word
    cases neg
    · simp only [Bool.false_eq_true, if_false]
      rw [Nat.div_eq_of_lt (by omega)]; rfl
    · simp only [if_true]
      rw [Nat.add_div_left _ (by omega), Nat.div_eq_of_lt (by omega)]; rfl
  unfold Format.read
  simp only [hs, hd]
  unfold units at hU
  by_cases hb : r < f.binade
  · rw [if_pos hb] at hU ⊢
    exact ⟨r, 0, by simp, by omega, by omega⟩
  · rw [if_neg hb] at hU ⊢
    rw [if_pos hr]
    have : r % f.binade < f.binade := Nat.mod_lt _ hB
    exact ⟨_, r / f.binade - 1, rfl, hU, by omega⟩

/-- A product that the format has. -/
theorem mul_isU {f : Format} {x y : Nat} {s t : Bool} {A B U K : Nat} (hL : f.leastPlace = -(K : Int)) (hx : isU f x s A) (hy : isU f y t B) (hU : Rep f U) (h : A * B = U * 2 ^ K) :
    ∃ z, f.mul x y = some z ∧ isU f z (s ^^ t) U := by
  obtain ⟨m, e, h1, h2⟩ := read_isU hx
  obtain ⟨n, g, h3, h4⟩ := read_isU hy
  refine ⟨f.nearest (s ^^ t) (m * n) (f.leastPlace + (e : Int) + (f.leastPlace + (g : Int))), ?_, ?_⟩
  · unfold Format.mul
    rw [h1, h3]
    rfl
  · refine isU_of_nearest (s ^^ t) (a := e + g) (b := K) hU ?_ ?_
    · rw [← h, ← h2, ← h4, Nat.pow_add]
      simp only [Nat.mul_assoc, Nat.mul_left_comm]
    · rw [hL]; push_cast; omega

/-- Half of an even number of units. -/
theorem quo_isU {f : Format} {x y : Nat} {s t : Bool} {c U : Nat} {j : Int} (hx : isU f x s (2 * U)) (hy : f.read y = .number t (2 ^ c) j) (hc : c = f.fractionBits) (hj : j = 1 - (c : Int)) (hU : Rep f U) :
    ∃ z, f.div x y = some z ∧ isU f z (s ^^ t) U := by
  obtain ⟨m, e, h1, h2, hm⟩ := read_isU_lt hx
  have hlog : m.log2 ≤ c := by
    by_cases h0 : m = 0
    · subst h0; simp
    · have : m.log2 < c + 1 := by
        rw [Nat.log2_lt h0, Nat.pow_succ]
        have hb : f.binade = 2 ^ f.fractionBits := rfl
        rw [hb, ← hc] at hm
        omega
      omega
  have hlc : (2 ^ c : Nat).log2 = c := Nat.log2_two_pow
  have hne : (2 ^ c : Nat) ≠ 0 := by have := Nat.two_pow_pos c; omega
  obtain ⟨more, hmore⟩ : ∃ more, more = f.fractionBits + 2 + (2 ^ c : Nat).log2 - m.log2 := ⟨_, rfl⟩
  have hmc : c + 2 ≤ more := by omega
  have hdiv : m <<< more / 2 ^ c = m * 2 ^ (more - c) := by
    rw [Nat.shiftLeft_eq, show more = (more - c) + c by omega, Nat.pow_add, ← Nat.mul_assoc, Nat.mul_div_cancel _ (Nat.two_pow_pos c)]
    congr 2
    omega
  have hmod : m <<< more % 2 ^ c = 0 := by
    rw [Nat.shiftLeft_eq, show more = (more - c) + c by omega, Nat.pow_add, ← Nat.mul_assoc]
    exact Nat.mul_mod_left _ _
  refine ⟨f.nearest (s ^^ t) (2 * (m * 2 ^ (more - c))) (f.leastPlace + (e : Int) - j - more - 1), ?_, ?_⟩
  · unfold Format.div
    rw [h1, hy]
    simp only [Datum.quotient, if_neg hne, ← hmore, hdiv, hmod, Option.map_some, Format.write]
    rfl
  · refine isU_of_nearest (s ^^ t) (a := e) (b := (more - c) + 2) hU ?_ ?_
    · have e1 : 2 * (m * 2 ^ (more - c)) * 2 ^ e = 2 * (m * 2 ^ e) * 2 ^ (more - c) := by
        rw [Nat.mul_assoc, Nat.mul_assoc, Nat.mul_assoc, Nat.mul_assoc, Nat.mul_comm (2 ^ (more - c))]
      rw [e1, h2, Nat.pow_add]
      have : (2 : Nat) ^ 2 = 4 := rfl
      rw [this]
      generalize 2 ^ (more - c) = z
      rw [show 2 * (2 * U) = U * 4 by omega, Nat.mul_assoc, Nat.mul_comm 4]
    · rw [hj]; omega

theorem cut_zero_exact (neg : Bool) (q d : Nat) : Toward.zero.cut neg (q * 2 ^ d) d = q := by
  unfold Toward.cut
  by_cases hq : q = 0
  · subst hq; simp
  · have hn : q * 2 ^ d ≠ 0 := Nat.mul_ne_zero hq (by have := Nat.two_pow_pos d; omega)
    have hl : d ≤ (q * 2 ^ d).log2 := by
      rw [Nat.le_log2 hn]
      exact Nat.le_mul_of_pos_left _ (Nat.pos_of_ne_zero hq)
    have hmin : min d ((q * 2 ^ d).log2 + 2) = d := by omega
    simp only [hmin, Nat.one_shiftLeft, Nat.mul_div_cancel _ (Nat.two_pow_pos d)]
    rfl

/-- A whole number, made an integer. -/
theorem toInt_isU {f : Format} {x : Nat} {s : Bool} {q K : Nat} (hL : f.leastPlace = -(K : Int)) (h : isU f x s (q * 2 ^ K)) : (f.read x).toInt .zero = some (sgn s q) := by
  obtain ⟨m, e, h1, h2⟩ := read_isU h
  rw [h1, hL]
  have hcut : Toward.zero.cut s (m <<< (-(K : Int) + (e : Int)).toNat) (-(-(K : Int) + (e : Int))).toNat = q := by
    by_cases hke : K ≤ e
    · have a1 : (-(K : Int) + (e : Int)).toNat = e - K := by omega
      have a2 : (-(-(K : Int) + (e : Int))).toNat = 0 := by omega
      rw [a1, a2, Nat.shiftLeft_eq]
      have : m * 2 ^ (e - K) = q := by
        rw [show e = (e - K) + K by omega, Nat.pow_add, ← Nat.mul_assoc] at h2
        exact Nat.eq_of_mul_eq_mul_right (Nat.two_pow_pos K) h2
      rw [this]
      have := cut_zero_exact s q 0
      simpa using this
    · have a1 : (-(K : Int) + (e : Int)).toNat = 0 := by omega
      have a2 : (-(-(K : Int) + (e : Int))).toNat = K - e := by omega
      rw [a1, a2, Nat.shiftLeft_eq, Nat.pow_zero, Nat.mul_one]
      have : m = q * 2 ^ (K - e) := by
        rw [show K = (K - e) + e by omega, Nat.pow_add, ← Nat.mul_assoc] at h2
        exact Nat.eq_of_mul_eq_mul_right (Nat.two_pow_pos e) h2
      rw [this]
      exact cut_zero_exact s q _
  simp only [Datum.toInt, Datum.integral, hcut, signed, sgn, Nat.shiftLeft_zero]
end Go.Proofs.Ytihdpljkllpkaaa
