/-  -/
import Ieee.Arith
namespace Go.Proofs.YtkjlodoppmipfaaGreat
open Ieee

/-! EXACT ARITHMETIC: a finite word of a format is a sign and so many units of the least place. -/

/-- How many units of the least place the rung of a finite number is. -/
def units (f : Format) (r : Nat) : Nat := if r < f.binade then r else (f.binade + r % f.binade) * 2 ^ (r / f.binade - 1)

theorem binade_pos (f : Format) : 0 < f.binade := Nat.two_pow_pos _

theorem cut_exact (neg : Bool) (q d : Nat) : Toward.even.cut neg (q * 2 ^ d) d = q := by
  unfold Toward.cut
  by_cases hq : q = 0
  · subst hq
    have hg : 0 < 1 <<< min d ((0 * 2 ^ d).log2 + 2) := by rw [Nat.one_shiftLeft]; exact Nat.two_pow_pos _
    simp only [Nat.zero_mul] at hg ⊢
    generalize 1 <<< min d (Nat.log2 0 + 2) = g at *
    simp
  · have hn : q * 2 ^ d ≠ 0 := Nat.mul_ne_zero hq (by have := Nat.two_pow_pos d; omega)
    have hl : d ≤ (q * 2 ^ d).log2 := by
      rw [Nat.le_log2 hn]
      exact Nat.le_mul_of_pos_left _ (Nat.pos_of_ne_zero hq)
    have hmin : min d ((q * 2 ^ d).log2 + 2) = d := by omega
    have hpos := Nat.two_pow_pos d
    simp only [hmin, Nat.one_shiftLeft, Nat.mul_div_cancel _ hpos, Nat.mul_mod_left]
    have h1 : ¬ (2 ^ d < 2 * 0) := by omega
    have h2 : (2 ^ d == 2 * 0) = false := by rw [beq_eq_false_iff_ne]; omega
    simp [h2]

theorem log2_mul_pow {m : Nat} (hm : m ≠ 0) (a : Nat) : (m * 2 ^ a).log2 = m.log2 + a := by
  have hp := Nat.two_pow_pos a
  have hne : m * 2 ^ a ≠ 0 := Nat.mul_ne_zero hm (by omega)
  have h1 : m.log2 + a ≤ (m * 2 ^ a).log2 := by
    rw [Nat.le_log2 hne, Nat.pow_add]
    exact Nat.mul_le_mul_right _ (Nat.log2_self_le hm)
  have h2 : (m * 2 ^ a).log2 < m.log2 + a + 1 := by
    rw [Nat.log2_lt hne]
    rw [show m.log2 + a + 1 = (m.log2 + 1) + a by omega, Nat.pow_add]
    exact Nat.mul_lt_mul_of_pos_right (Nat.lt_log2_self) hp
  omega

/-- A rung by its digits that are kept and their place. -/
theorem units_split (f : Format) {r : Nat} (h0 : units f r ≠ 0) :
    ∃ kept, units f r = kept * 2 ^ ((units f r).log2 - f.fractionBits) ∧ r = ((units f r).log2 - f.fractionBits) * f.binade + kept := by
  have hB := binade_pos f
  unfold units at h0 ⊢
  by_cases hr : r < f.binade
  · simp only [hr, if_true] at h0 ⊢
    have : r.log2 < f.fractionBits := by rw [Nat.log2_lt h0]; exact hr
    have hz : r.log2 - f.fractionBits = 0 := by omega
    exact ⟨r, by rw [hz]; omega, by rw [hz]; omega⟩
  · simp only [hr, if_false] at h0 ⊢
    have hmod : r % f.binade < f.binade := Nat.mod_lt _ hB
    have hne : f.binade + r % f.binade ≠ 0 := by omega
    have hl : (f.binade + r % f.binade).log2 = f.fractionBits := by
      have a1 : f.fractionBits ≤ (f.binade + r % f.binade).log2 := by
        rw [Nat.le_log2 hne]; exact Nat.le_add_right _ _
      have a2 : (f.binade + r % f.binade).log2 < f.fractionBits + 1 := by
        rw [Nat.log2_lt hne, Nat.pow_succ]
        have : f.binade = 2 ^ f.fractionBits := rfl
        omega
      omega
    rw [log2_mul_pow hne, hl]
    have he : f.fractionBits + (r / f.binade - 1) - f.fractionBits = r / f.binade - 1 := by omega
    rw [he]
    refine ⟨f.binade + r % f.binade, rfl, ?_⟩
    have hd : 1 ≤ r / f.binade := (Nat.one_le_div_iff hB).2 (by omega)
    have hdm := Nat.div_add_mod r f.binade
    have : (r / f.binade - 1) * f.binade + f.binade = r / f.binade * f.binade := by
      rw [← Nat.succ_mul]; congr 1; omega
    rw [Nat.mul_comm] at hdm
    omega

/-- The word of a number that the format has. -/
theorem nearest_units (f : Format) (neg : Bool) {M : Nat} {P : Int} {r a b : Nat} (hr : r < f.infRung) (hM : M ≠ 0)
    (h : M * 2 ^ a = units f r * 2 ^ b) (hp : P + b = f.leastPlace + a) : f.nearest neg M P = f.word neg r := by
  have hpa := Nat.two_pow_pos a
  have hpb := Nat.two_pow_pos b
  have hU : units f r ≠ 0 := by
    intro h0
    rw [h0, Nat.zero_mul] at h
    have := Nat.mul_ne_zero hM (show 2 ^ a ≠ 0 by omega)
    omega
  have hlog : M.log2 + a = (units f r).log2 + b := by
    rw [← log2_mul_pow hM a, ← log2_mul_pow hU b, h]
  obtain ⟨kept, hk, hrr⟩ := units_split f hU
  unfold Format.nearest
  rw [if_neg hM]
  simp only []
  generalize hL : f.leastPlace = L at *
  generalize hu : (units f r).log2 = u at *
  generalize hk2 : M.log2 = k at *
  generalize hfb : f.fractionBits = fb at *
  have hlast : max (P + (k : Int) - (fb : Int)) L = L + ((u - fb : Nat) : Int) := by omega
  rw [hlast]
  have he : (L + ((u - fb : Nat) : Int) - L).toNat = u - fb := by omega
  rw [he]
  generalize u - fb = e at *
  have hcut : Toward.even.cut neg (M <<< (P - (L + (e : Int))).toNat) (L + (e : Int) - P).toNat = kept := by
    have hall : M * 2 ^ a = kept * 2 ^ (e + b) := by rw [h, hk, Nat.pow_add, Nat.mul_assoc]
    by_cases hab : e + b ≤ a
    · have h1 : (P - (L + (e : Int))).toNat = a - (e + b) := by omega
      have h2 : (L + (e : Int) - P).toNat = 0 := by omega
      rw [h1, h2, Nat.shiftLeft_eq]
      have : M * 2 ^ (a - (e + b)) = kept := by
        have hs : a = (a - (e + b)) + (e + b) := by omega
        rw [hs, Nat.pow_add, ← Nat.mul_assoc] at hall
        exact Nat.eq_of_mul_eq_mul_right (Nat.two_pow_pos (e + b)) hall
      rw [this]
      have := cut_exact neg kept 0
      simpa using this
    · have h1 : (P - (L + (e : Int))).toNat = 0 := by omega
      have h2 : (L + (e : Int) - P).toNat = e + b - a := by omega
      rw [h1, h2, Nat.shiftLeft_eq]
      have : M * 2 ^ 0 = kept * 2 ^ (e + b - a) := by
        have hs : e + b = (e + b - a) + a := by omega
        rw [hs, Nat.pow_add, ← Nat.mul_assoc] at hall
        have := Nat.eq_of_mul_eq_mul_right (Nat.two_pow_pos a) hall
        rw [Nat.pow_zero, Nat.mul_one]
        exact this
      rw [this]
      exact cut_exact neg kept _
  rw [hcut, ← hrr]
  rw [Nat.min_eq_left (by omega)]

/-- The format has so many units. -/
def Rep (f : Format) (U : Nat) : Prop := ∃ r, r < f.infRung ∧ units f r = U

theorem rep_of (f : Format) {q e : Nat} (hq : q < 2 * f.binade) (he : e + 2 < 2 ^ f.exponentBits) : Rep f (q * 2 ^ e) := by
  have hB := binade_pos f
  induction e generalizing q with
  | zero =>
    refine ⟨q, ?_, ?_⟩
    · unfold Format.infRung
      have : 2 * f.binade ≤ (2 ^ f.exponentBits - 1) * f.binade := Nat.mul_le_mul_right _ (by omega)
      omega
    · unfold units
      by_cases hlt : q < f.binade
      · simp [hlt]
      · have h1 : q / f.binade = 1 := by
          apply Nat.div_eq_of_lt_le <;> omega
        have h2 : q % f.binade = q - f.binade := by
          have := Nat.div_add_mod q f.binade; rw [h1] at this; omega
        simp [hlt, h1, h2]; omega
  | succ e ih =>
    by_cases hlt : q < f.binade
    · have := ih (q := 2 * q) (by omega) (by omega)
      rw [Nat.pow_succ, show q * (2 ^ e * 2) = 2 * q * 2 ^ e by rw [Nat.mul_comm (2 ^ e) 2, ← Nat.mul_assoc, Nat.mul_comm q 2]]
      exact this
    · refine ⟨(e + 1) * f.binade + q, ?_, ?_⟩
      · unfold Format.infRung
        have : (e + 3) * f.binade ≤ (2 ^ f.exponentBits - 1) * f.binade := Nat.mul_le_mul_right _ (by omega)
        have h3 : (e + 3) * f.binade = (e + 1) * f.binade + 2 * f.binade := by rw [← Nat.add_mul]
        omega
      · unfold units
        have h0 : ¬ ((e + 1) * f.binade + q < f.binade) := by
          have : f.binade ≤ (e + 1) * f.binade := Nat.le_mul_of_pos_left _ (by omega)
          omega
        have hm : ((e + 1) * f.binade + q) / f.binade = e + 2 := by
          rw [Nat.mul_comm, Nat.mul_add_div hB]
          have : q / f.binade = 1 := by apply Nat.div_eq_of_lt_le <;> omega
          omega
        have hmm : ((e + 1) * f.binade + q) % f.binade = q - f.binade := by
          rw [Nat.mul_comm, Nat.mul_add_mod]
          have h1 : q / f.binade = 1 := by apply Nat.div_eq_of_lt_le <;> omega
          have := Nat.div_add_mod q f.binade; rw [h1] at this; omega
        rw [if_neg h0, hm, hmm]
        congr 1
        omega
/-- A finite word: its sign and its units. -/
def isU (f : Format) (w : Nat) (neg : Bool) (U : Nat) : Prop := ∃ r, w = f.word neg r ∧ r < f.infRung ∧ units f r = U

theorem infRung_lt' (f : Format) : f.infRung < f.signWeight := by
  have h : 0 < 2 ^ f.exponentBits := Nat.two_pow_pos _
  have hB := binade_pos f
  have : f.infRung + f.binade = f.signWeight := by
    unfold Format.infRung Format.signWeight
    rw [Nat.pow_add, ← Nat.succ_mul]
    exact congrArg (· * f.binade) (by omega)
  omega

/-- What a finite word stands for. -/
theorem read_isU {f : Format} {w : Nat} {neg : Bool} {U : Nat} (h : isU f w neg U) :
    ∃ m e : Nat, f.read w = .number neg m (f.leastPlace + (e : Int)) ∧ m * 2 ^ e = U := by
  obtain ⟨r, rfl, hr, hU⟩ := h
  have hB := binade_pos f
  have hlt := infRung_lt' f
  have hs : (f.word neg r) % f.signWeight = r := by
    unfold Format.word
    split
    · rw [Nat.add_mod_left, Nat.mod_eq_of_lt (by omega)]
    · exact Nat.mod_eq_of_lt (by omega)
  have hd : ((f.word neg r) / f.signWeight % 2 == 1) = neg := by
    unfold Format.word
    cases neg
    · simp only [Bool.false_eq_true, if_false]
      rw [Nat.div_eq_of_lt (by omega)]; rfl
    · simp only [if_true]
      rw [Nat.add_div_left _ (by omega), Nat.div_eq_of_lt (by omega)]; rfl
  unfold Format.read
  simp only [hs, hd]
  unfold units at hU
  by_cases hb : r < f.binade
  · rw [if_pos hb] at hU ⊢
    exact ⟨r, 0, by simp, by omega⟩
  · rw [if_neg hb] at hU ⊢
    rw [if_pos hr]
    exact ⟨_, r / f.binade - 1, rfl, hU⟩

theorem isU_of_nearest {f : Format} (neg : Bool) {M : Nat} {P : Int} {U a b : Nat} (hU : Rep f U)
    (h : M * 2 ^ a = U * 2 ^ b) (hp : P + b = f.leastPlace + a) : isU f (f.nearest neg M P) neg U := by
  obtain ⟨r, hr, rfl⟩ := hU
  have hpa := Nat.two_pow_pos a
  have hpb := Nat.two_pow_pos b
  by_cases hM : M = 0
  · subst hM
    have h0 : units f r = 0 := by
      rw [Nat.zero_mul] at h
      rcases Nat.mul_eq_zero.1 h.symm with h | h
      · exact h
      · omega
    rw [h0]
    have hB := binade_pos f
    refine ⟨0, by simp [Format.nearest], by omega, by simp [units, hB]⟩
  · exact ⟨r, nearest_units f neg hr hM h hp, hr, rfl⟩

/-- Two words of one sign and one number of units are one word. -/
theorem units_inj (f : Format) {r s : Nat} (h : units f r = units f s) : r = s := by
  by_cases h0 : units f r = 0
  · have hB := binade_pos f
    have z : ∀ t, units f t = 0 → t = 0 := by
      intro t ht
      unfold units at ht
      split at ht
      · exact ht
      · have := Nat.two_pow_pos (t / f.binade - 1)
        rcases Nat.mul_eq_zero.1 ht with h | h <;> omega
    rw [z r h0, z s (by rw [← h]; exact h0)]
  · obtain ⟨k1, a1, a2⟩ := units_split f h0
    obtain ⟨k2, b1, b2⟩ := units_split f (r := s) (by rw [← h]; exact h0)
    rw [← h] at b1 b2
    have : k1 = k2 := Nat.eq_of_mul_eq_mul_right (Nat.two_pow_pos _) (a1.symm.trans b1)
    omega

theorem isU_word {f : Format} {w w' : Nat} {neg : Bool} {U : Nat} (h : isU f w neg U) (h' : isU f w' neg U) : w = w' := by
  obtain ⟨r, rfl, _, hu⟩ := h
  obtain ⟨s, rfl, _, hv⟩ := h'
  rw [units_inj f (hu.trans hv.symm)]

theorem isU_rep {f : Format} {w : Nat} {neg : Bool} {U : Nat} (h : isU f w neg U) : Rep f U := by
  obtain ⟨r, _, hr, hu⟩ := h
  exact ⟨r, hr, hu⟩

/-- A sign and a number of units as an integer. -/
def sgn (neg : Bool) (U : Nat) : Int := if neg then -(U : Int) else (U : Int)

theorem signed_mul (neg : Bool) (m e c : Nat) : signed neg m (e - c) * (2 : Int) ^ c = sgn neg (m * 2 ^ e) ∨ e < c := by
  by_cases h : e < c
  · exact .inr h
  · left
    have hm : ((m <<< (e - c) : Nat) : Int) * (2 : Int) ^ c = ((m * 2 ^ e : Nat) : Int) := by
      rw [Nat.shiftLeft_eq, show e = (e - c) + c by omega, Nat.pow_add, ← Nat.mul_assoc]
      simp
    unfold signed sgn
    cases neg
    · simp only [Bool.false_eq_true, if_false]; exact hm
    · simp only [if_true]; rw [Int.neg_mul, hm]

/-- A sum that the format has. -/
theorem add_isU {f : Format} {x y : Nat} {s t : Bool} {A B U : Nat} (hx : isU f x s A) (hy : isU f y t B) (hU : Rep f U)
    (h : (sgn s A + sgn t B).natAbs = U) : ∃ z neg, f.add x y = some z ∧ isU f z neg U ∧ sgn neg U = sgn s A + sgn t B ∧ (U = 0 → neg = (s && t)) := by
  obtain ⟨m, e, hm, hA⟩ := read_isU hx
  obtain ⟨n, g, hn, hB⟩ := read_isU hy
  generalize hL : f.leastPlace = L at *
  have hmin : min (L + (e : Int)) (L + (g : Int)) = L + ((min e g : Nat) : Int) := by omega
  have hme : (L + (e : Int) - (L + ((min e g : Nat) : Int))).toNat = e - min e g := by omega
  have hmg : (L + (g : Int) - (L + ((min e g : Nat) : Int))).toNat = g - min e g := by omega
  generalize hc : min e g = c at *
  have h1 : signed s m (e - c) * (2 : Int) ^ c = sgn s A := by
    rcases signed_mul s m e c with h | h
    · rw [h, hA]
    · omega
  have h2 : signed t n (g - c) * (2 : Int) ^ c = sgn t B := by
    rcases signed_mul t n g c with h | h
    · rw [h, hB]
    · omega
  generalize hT : signed s m (e - c) + signed t n (g - c) = T at *
  have hTT : T * (2 : Int) ^ c = sgn s A + sgn t B := by rw [← hT, Int.add_mul, h1, h2]
  have hpc : (0 : Int) < (2 : Int) ^ c := by exact_mod_cast Nat.two_pow_pos c
  have hTU : T.natAbs * 2 ^ c = U := by
    rw [← h, ← hTT, Int.natAbs_mul]
    congr 1
  refine ⟨f.nearest (if T = 0 then s && t else decide (T < 0)) T.natAbs (L + (c : Int)), if T = 0 then s && t else decide (T < 0), ?_, ?_, ?_, ?_⟩
  · unfold Format.add
    rw [hm, hn]
    simp only [Datum.sum, hmin, hme, hmg, hT, Option.map_some, Format.write]
  · have := isU_of_nearest (f := f) (if T = 0 then s && t else decide (T < 0)) (M := T.natAbs) (P := L + (c : Int)) (a := c) (b := 0) hU (by rw [hTU]; simp) (by rw [hL]; simp)
    exact this
  · rw [← hTT]
    by_cases h0 : T = 0
    · subst h0
      have : U = 0 := by rw [← hTU]; simp
      subst this
      simp [sgn]
    · rw [if_neg h0]
      rcases Int.lt_or_gt_of_ne h0 with hneg | hpos
      · have : decide (T < 0) = true := by simpa using hneg
        rw [this, ← hTU]
        unfold sgn
        rw [if_pos rfl]
        have hTa : T = -(T.natAbs : Int) := by omega
        rw [Int.natCast_mul, ← Int.neg_mul, ← hTa]
        simp
      · have : decide (T < 0) = false := by simp; omega
        rw [this, ← hTU]
        unfold sgn
        rw [if_neg (by simp)]
        have hTa : T = (T.natAbs : Int) := by omega
        rw [Int.natCast_mul, ← hTa]
        simp
  · intro h0
    have : T = 0 := by
      rw [← hTU] at h0
      have hp := Nat.two_pow_pos c
      rcases Nat.mul_eq_zero.1 h0 with h | h
      · omega
      · omega
    rw [if_pos this]
end Go.Proofs.YtkjlodoppmipfaaGreat
