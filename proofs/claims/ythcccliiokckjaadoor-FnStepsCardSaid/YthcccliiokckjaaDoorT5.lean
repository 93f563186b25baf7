/- Texts of numbers read back: plain mathematics. -/
import Derived.Test.YthcccliiokckjaaDoorT4
import Derived.Lib.AtoiAll
import Derived.Lib.IndexBytes
import Derived.Lib.IndexMore
namespace Go.Proofs.YthcccliiokckjaaDoor
open Go.RowKit

/-- Digits alone. -/
def isDig (c : UInt8) : Prop := 48 ≤ c.toNat ∧ c.toNat ≤ 57
theorem dgt_nat (n : Nat) : (UInt8.ofNat (48 + n % 10)).toNat = 48 + n % 10 := by
  rw [UInt8.toNat_ofNat', Nat.mod_eq_of_lt (by omega)]

theorem dec_digits : ∀ (k n : Nat), n ≤ k → ∀ c ∈ Lib.decDigits n, isDig c := by
  intro k
  induction k with
  | zero => intro n hn c hc; rw [Lib.decDigits, dif_pos (by omega)] at hc; rw [List.mem_singleton.1 hc]; unfold isDig; rw [UInt8.toNat_ofNat', Nat.mod_eq_of_lt (by omega)]; omega
  | succ k ih =>
    intro n hn c hc
    rw [Lib.decDigits] at hc
    split at hc
    · rw [List.mem_singleton.1 hc]; unfold isDig; rw [UInt8.toNat_ofNat', Nat.mod_eq_of_lt (by omega)]; omega
    · rcases List.mem_append.1 hc with h | h
      · exact ih (n / 10) (by omega) c h
      · rw [List.mem_singleton.1 h]; unfold isDig; rw [dgt_nat]; omega
theorem dec_dig {n : Nat} {c : UInt8} (h : c ∈ Lib.decDigits n) : isDig c := dec_digits n n (Nat.le_refl _) c h
theorem dec_ne (n : Nat) : Lib.decDigits n ≠ [] := by
  intro h
  have h1 := congrArg List.length h
  rw [Lib.decDigits_length, Lib.nDigits] at h1
  split at h1
  · simp at h1
  · simp at h1

/-- Digits parsed behind digits. -/
theorem parse_app : ∀ (a : List UInt8) (b : List UInt8) (acc u : Nat), Lib.parseUint10 acc a = .ok u → Lib.parseUint10 acc (a ++ b) = Lib.parseUint10 u b := by
  intro a
  induction a with
  | nil => intro b acc u h; simp only [Lib.parseUint10] at h; injection h with h; rw [h]; rfl
  | cons c r ih =>
    intro b acc u h
    rw [List.cons_append]
    rw [Lib.parseUint10] at h ⊢
    split at h
    · rename_i hc
      rw [if_pos hc]
      split at h
      · cases h
      · rename_i h2
        rw [if_neg h2]
        split at h
        · cases h
        · rename_i h3
          rw [if_neg h3]
          exact ih b _ u h
    · cases h
theorem parse_dec : ∀ (k n : Nat), n ≤ k → n < 1844674407370955162 → Lib.parseUint10 0 (Lib.decDigits n) = .ok n := by
  intro k
  induction k with
  | zero =>
    intro n hn _
    obtain rfl : n = 0 := by omega
    decide +kernel
  | succ k ih =>
    intro n hn hb
    rw [Lib.decDigits]
    split
    · rename_i h
      rw [Lib.parseUint10, UInt8.toNat_ofNat', Nat.mod_eq_of_lt (by omega), if_pos (by omega), if_neg (by omega), if_neg (by omega), Lib.parseUint10]
      congr 1; omega
    · rename_i h
      rw [parse_app _ _ _ _ (ih (n / 10) (by omega) (by omega)), Lib.parseUint10, dgt_nat, if_pos (by omega), if_neg (by omega), if_neg (by omega), Lib.parseUint10]
      congr 1; omega
theorem mag_dec {n : Nat} (h : n < 1844674407370955162) : Lib.parseMag (Lib.decDigits n) = .ok n := by
  unfold Lib.parseMag
  rw [if_neg (dec_ne n)]
  exact parse_dec n n (Nat.le_refl _) h

theorem dec_head (n : Nat) : ∃ c r, Lib.decDigits n = c :: r ∧ isDig c := by
  cases h : Lib.decDigits n with
  | nil => exact absurd h (dec_ne n)
  | cons c r => exact ⟨c, r, rfl, dec_dig (n := n) (by rw [h]; simp)⟩

theorem atoi_itoa {n : Int} (h1 : -1000000000000000000 ≤ n) (h2 : n ≤ 1000000000000000000) : Lib.atoiAll (Lib.itoa n) = .ok n := by
  unfold Lib.itoa
  split
  · rename_i h
    unfold Lib.atoiAll
    simp only []
    rw [if_pos (show (45 : UInt8).toNat = 43 ∨ (45 : UInt8).toNat = 45 from Or.inr (by decide)), mag_dec (by omega)]
    simp only []
    rw [if_neg (fun h => h.1 (by decide)), if_neg (fun h => by have := h.2; omega), if_pos (show (45 : UInt8).toNat = 45 by decide)]
    congr 1; omega
  · rename_i h
    obtain ⟨c, r, hd, hc⟩ := dec_head n.toNat
    have hm := mag_dec (n := n.toNat) (by omega)
    rw [hd] at hm ⊢
    unfold Lib.atoiAll
    simp only []
    unfold isDig at hc
    rw [if_neg (by omega), hm]
    simp only []
    rw [if_neg (by omega), if_neg (by omega), if_neg (by omega)]
    congr 1; omega

theorem itoa_no_p {n : Int} : (112 : UInt8) ∉ Lib.itoa n := by
  have key : ∀ m, (112 : UInt8) ∉ Lib.decDigits m := fun m h => by
    have := dec_dig h
    unfold isDig at this
    have e : (112 : UInt8).toNat = 112 := by decide
    omega
  unfold Lib.itoa
  split
  · intro h
    rcases List.mem_cons.1 h with h | h
    · exact absurd h (by decide)
    · exact key _ h
  · exact key _

theorem index_text : ∀ (a b : List UInt8), (112 : UInt8) ∉ a → Lib.index (a ++ 112 :: b) [112] = a.length := by
  intro a
  induction a with
  | nil => intro b _; simp [Lib.index]
  | cons c r ih =>
    intro b h
    have hc : c ≠ 112 := fun e => h (by simp [e])
    have hr : (112 : UInt8) ∉ r := fun e => h (by simp [e])
    rw [List.cons_append, Lib.index, ih b hr]
    have e1 : [112].isPrefixOf (c :: (r ++ 112 :: b)) = false := by
      simp [List.isPrefixOf]
      exact fun e => hc e.symm
    rw [e1]
    simp
theorem cut_text (a b : List UInt8) (h : (112 : UInt8) ∉ a) : Lib.cut (a ++ 112 :: b) [112] = (a, b, true) := by
  unfold Lib.cut
  rw [index_text a b h, if_pos (by omega)]
  simp

/-- The text of a number that is not 0, without its sign. -/
def bareL (r : Nat) : List UInt8 := Lib.itoa (oddR r : Int) ++ 112 :: Lib.itoa (powR r)
theorem fmtL_num {x : Nat} (h0 : 0 < rungOf Ieee.single x) (h1 : rungOf Ieee.single x < 2139095040) : fmtL x = (if negOf Ieee.single x then [45] else []) ++ bareL (rungOf Ieee.single x) := by
  unfold fmtL bareL
  rw [if_pos h1, if_neg (show ¬ rungOf Ieee.single x = 0 by omega)]
  simp
theorem fmtL_zero {x : Nat} (h0 : rungOf Ieee.single x = 0) : fmtL x = (if negOf Ieee.single x then [45] else []) ++ [48] := by
  unfold fmtL
  rw [if_pos (by omega), h0]
  rfl

theorem powR_bound {r : Nat} (h0 : 0 < r) (h1 : r < 2139095040) : -149 ≤ powR r ∧ powR r ≤ 128 := by
  have := (oddR_lt h0 h1).2.2.1
  unfold powR; omega

theorem bare_inj {r s : Nat} (h0 : 0 < r) (h1 : r < 2139095040) (g0 : 0 < s) (g1 : s < 2139095040) (h : bareL r = bareL s) : r = s := by
  have c1 := cut_text (Lib.itoa (oddR r : Int)) (Lib.itoa (powR r)) itoa_no_p
  have c2 := cut_text (Lib.itoa (oddR s : Int)) (Lib.itoa (powR s)) itoa_no_p
  unfold bareL at h
  rw [h, c2] at c1
  injection c1 with e1 e2
  injection e2 with e2 _
  obtain ⟨o1, _, _, u1⟩ := oddR_lt h0 h1
  obtain ⟨o2, _, _, u2⟩ := oddR_lt g0 g1
  have b1 := powR_bound h0 h1
  have b2 := powR_bound g0 g1
  have a1 := atoi_itoa (n := (oddR r : Int)) (by omega) (by omega)
  have a2 := atoi_itoa (n := (oddR s : Int)) (by omega) (by omega)
  have a3 := atoi_itoa (n := powR r) (by omega) (by omega)
  have a4 := atoi_itoa (n := powR s) (by omega) (by omega)
  rw [← e1, a2] at a1
  rw [← e2, a4] at a3
  injection a1 with a1
  injection a3 with a3
  unfold powR at a3
  have t : twos (units Ieee.single r) = twos (units Ieee.single s) := by omega
  have o : oddR r = oddR s := by omega
  exact units_inj Ieee.single (by rw [u1, u2, t, o])

theorem bare_head {r : Nat} : ∃ c l, bareL r = c :: l ∧ isDig c := by
  obtain ⟨c, l, h, hc⟩ := dec_head (oddR r)
  refine ⟨c, l ++ 112 :: Lib.itoa (powR r), ?_, hc⟩
  unfold bareL
  rw [Lib.itoa_nonneg, h]; rfl

/-- What is read of a text. -/
def Parsed (l : List UInt8) (x : Nat) : Prop := x < 4294967296 ∧ rungOf Ieee.single x < 2139095040 ∧ fmtL x = l

theorem word_of {x : Nat} (hx : x < 4294967296) : x = Ieee.single.word (negOf Ieee.single x) (rungOf Ieee.single x) := by
  have e1 : ∀ r, Ieee.single.word false r = r := fun _ => rfl
  have e2 : ∀ r, Ieee.single.word true r = Ieee.single.signWeight + r := fun _ => rfl
  unfold negOf rungOf
  rw [s_sw]
  have h2 : x / 2147483648 = 0 ∨ x / 2147483648 = 1 := by omega
  rcases h2 with h2 | h2
  · rw [h2, show (0 % 2 == 1) = false from rfl, e1]; omega
  · rw [h2, show (1 % 2 == 1) = true from rfl, e2, s_sw]; omega

/-- A text's sign and what stands behind it. -/
theorem fmtL_parts {x : Nat} (h1 : rungOf Ieee.single x < 2139095040) : ∃ c l, isDig c ∧ fmtL x = (if negOf Ieee.single x then [45] else []) ++ c :: l ∧ (c :: l = if rungOf Ieee.single x = 0 then [48] else bareL (rungOf Ieee.single x)) := by
  by_cases h0 : rungOf Ieee.single x = 0
  · refine ⟨48, [], ⟨by decide, by decide⟩, fmtL_zero h0, ?_⟩
    rw [if_pos h0]
  · obtain ⟨c, l, h, hc⟩ := bare_head (r := rungOf Ieee.single x)
    refine ⟨c, l, hc, ?_, ?_⟩
    · rw [fmtL_num (by omega) h1, h]
    · rw [if_neg h0, h]

theorem zero_bare {r : Nat} (h : [48] = bareL r) : False := by
  have : (112 : UInt8) ∈ bareL r := by unfold bareL; simp
  rw [← h] at this
  simp at this

theorem parsed_uniq {l : List UInt8} {x y : Nat} (hx : Parsed l x) (hy : Parsed l y) : x = y := by
  obtain ⟨x1, x2, x3⟩ := hx
  obtain ⟨y1, y2, y3⟩ := hy
  rw [word_of x1, word_of y1]
  obtain ⟨c, a, hc, ha, ha2⟩ := fmtL_parts x2
  obtain ⟨d, b, hd, hb, hb2⟩ := fmtL_parts y2
  rw [x3] at ha
  rw [y3, ha] at hb
  have n1 : negOf Ieee.single x = negOf Ieee.single y := by
    cases e1 : negOf Ieee.single x <;> cases e2 : negOf Ieee.single y
    · rfl
    · rw [e1, e2] at hb
      simp at hb
      rw [hb.1] at hc
      exact absurd hc.1 (by decide)
    · rw [e1, e2] at hb
      simp at hb
      rw [← hb.1] at hd
      exact absurd hd.1 (by decide)
    · rfl
  rw [n1] at hb ⊢
  have e := List.append_cancel_left hb
  rw [ha2, hb2] at e
  have : rungOf Ieee.single x = rungOf Ieee.single y := by
    by_cases p : rungOf Ieee.single x = 0 <;> by_cases q : rungOf Ieee.single y = 0
    · omega
    · rw [if_pos p, if_neg q] at e; exact (zero_bare e).elim
    · rw [if_neg p, if_pos q] at e; exact (zero_bare e.symm).elim
    · rw [if_neg p, if_neg q] at e; exact bare_inj (by omega) x2 (by omega) y2 e
  rw [this]

end Go.Proofs.YthcccliiokckjaaDoor
