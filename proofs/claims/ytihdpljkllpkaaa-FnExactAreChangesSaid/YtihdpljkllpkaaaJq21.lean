/- FnSmall. -/
import Derived.Test.YtihdpljkllpkaaaJq20
namespace Go.Proofs.Ytihdpljkllpkaaa
open Ieee Go.RowKit

theorem FE.congC {op : BinOp} {k : FloatKind} {x x' y y' : Nat} (hx : FE k x x') (hy : FE k y y') : FE k (fC op k x y) (fC op k x' y') := by
  rcases hx with rfl | ⟨h1, h2⟩
  · rcases hy with rfl | ⟨h1, h2⟩
    · exact FE.refl _ _
    · exact .inr ⟨fC_nan (floatBits_nan_right h1), fC_nan (floatBits_nan_right h2)⟩
  · exact .inr ⟨fC_nan (floatBits_nan_left h1), fC_nan (floatBits_nan_left h2)⟩

theorem halves_congr {x x' : Nat} (h : FE .f32 x x') (k : Nat) : FE .f32 (halves x k) (halves x' k) := by
  induction k with
  | zero => exact h
  | succ k ih => exact FE.congC ih (FE.refl _ _)

theorem halves_add (x a b : Nat) : halves (halves x a) b = halves x (a + b) := by
  induction b with
  | zero => rfl
  | succ b ih => show fC .quo .f32 (halves (halves x a) b) 1073741824 = fC .quo .f32 (halves x (a + b)) 1073741824; rw [ih]

theorem zeroOf_rung (x : Nat) : rungOf Ieee.single (zeroOf x) = 0 := by
  unfold zeroOf
  cases negOf Ieee.single x <;> decide +kernel

theorem subB_flush (x : Nat) : subB (flushB x) = false := by
  unfold flushB
  cases h : subB x with
  | true =>
    simp only [if_true]
    unfold subB
    rw [zeroOf_rung]
    decide
  | false => simpa using h

theorem flush_flush (x : Nat) : flushB (flushB x) = flushB x := by
  rw [show flushB (flushB x) = if subB (flushB x) then zeroOf (flushB x) else flushB x from rfl, subB_flush]
  rfl

theorem nan_rung {x : Nat} (h : nanB .f32 x = true) : 2139095040 < rungOf Ieee.single x := by
  rcases Nat.lt_trichotomy (rungOf Ieee.single x) Ieee.single.infRung with h1 | h1 | h1
  · rw [not_nan_of_fin h1] at h; cases h
  · have hi := read_inf Ieee.single s_eb h1
    have : nanB .f32 x = false := by show (Ieee.single.read x).isNaN = false; rw [hi]; rfl
    rw [this] at h; cases h
  · rw [s_inf] at h1; exact h1

theorem nan_of_rung {x : Nat} (h : 2139095040 < rungOf Ieee.single x) : nanB .f32 x = true := read_nan Ieee.single s_eb (by rw [s_inf]; exact h)

theorem nan_subB {x : Nat} (h : nanB .f32 x = true) : subB x = false := by
  have := nan_rung h
  unfold subB
  rw [decide_eq_false_iff_not]; omega

theorem nan_flush {x : Nat} (h : nanB .f32 x = true) : flushB x = x := by
  unfold flushB; rw [nan_subB h]; rfl

theorem flush_not_nan {x : Nat} (h : nanB .f32 x = false) : nanB .f32 (flushB x) = false := by
  unfold flushB
  cases hs : subB x with
  | false => simpa using h
  | true =>
    simp only [if_true]
    exact not_nan_of_fin (by rw [zeroOf_rung, s_inf]; omega)

theorem isU_of_rung {x : Nat} (hx : x < 4294967296) (h : rungOf Ieee.single x < Ieee.single.infRung) : isU Ieee.single x (negOf Ieee.single x) (units Ieee.single (rungOf Ieee.single x)) := by
  refine ⟨rungOf Ieee.single x, ?_, h, rfl⟩
  unfold rungOf negOf Ieee.Format.word
  rw [s_sw]
  have h1 : x / 2147483648 < 2 := by omega
  rcases Nat.lt_or_ge (x / 2147483648) 1 with h2 | h2
  · have e : x / 2147483648 = 0 := by omega
    rw [e]
    simp; omega
  · have e : x / 2147483648 = 1 := by omega
    rw [e]
    simp; omega

theorem rep_s {q e : Nat} (hq : q < 16777216) (he : e ≤ 253) : Rep Ieee.single (q * 2 ^ e) := by
  refine rep_of _ (by rw [s_bin]; omega) ?_
  have h : Ieee.single.exponentBits = 8 := rfl
  rw [h]
  omega

theorem read_two_s : Ieee.single.read 1073741824 = .number false (2 ^ 23) (-22) := by decide +kernel
theorem isU_two_s : isU Ieee.single 1073741824 false (2 * 2 ^ 149) := ⟨1073741824, rfl, by rw [s_inf]; omega, by decide +kernel⟩

/-- A number from 2^-125 on loses no half. -/
theorem big_exact {x : Nat} (hx : x < 4294967296) (h : rungOf Ieee.single x < 2139095040) (hb : 16777216 ≤ rungOf Ieee.single x) : lossB x = false := by
  obtain ⟨kept, E, hu, hr, hk, hE1, hE2⟩ := split_rung h
  have hE : 1 ≤ E := by omega
  have h0 := isU_of_rung hx (by rw [s_inf]; exact h)
  rw [hu] at h0
  have hE' : E = (E - 1) + 1 := by omega
  have h1 : isU Ieee.single x (negOf Ieee.single x) (2 * (kept * 2 ^ (E - 1))) := by
    have e : kept * 2 ^ E = 2 * (kept * 2 ^ (E - 1)) := by
      rw [hE', Nat.pow_succ]
      simp only [Nat.add_sub_cancel]
      rw [Nat.mul_comm (2 ^ (E - 1)), Nat.mul_left_comm]
    rw [e] at h0
    exact h0
  obtain ⟨z, hz1, hz2⟩ := quo_isU h1 read_two_s rfl (by omega) (rep_s hk (by omega))
  have hz3 : isU Ieee.single z (negOf Ieee.single x) (kept * 2 ^ (E - 1)) := by simpa using hz2
  obtain ⟨y, hy1, hy2⟩ := mul_isU (K := 149) s_lp hz3 isU_two_s (rep_s (e := (E - 1) + 1) hk (by omega)) (twice_units kept (E - 1) 149)
  rw [← hE'] at hy2
  have hy3 : isU Ieee.single y (negOf Ieee.single x) (kept * 2 ^ E) := by simpa using hy2
  have hyx := isU_word hy3 h0
  unfold lossB
  have e1 : fC .quo .f32 x 1073741824 = z := by
    unfold fC
    have : floatBits .quo .f32 x 1073741824 = some z := hz1
    rw [this]
  have e2 : fC .mul .f32 z 1073741824 = y := by
    unfold fC
    have : floatBits .mul .f32 z 1073741824 = some y := hy1
    rw [this]
  rw [e1, e2, hyx, order_self, not_nan_of_fin (by rw [s_inf]; exact h)]
  rfl

theorem rung_C : rungOf Ieee.single 16777216 = 16777216 := by decide +kernel
theorem neg_C : negOf Ieee.single 16777216 = false := by decide +kernel
theorem units_C : units Ieee.single 16777216 = 16777216 := by decide +kernel

theorem units_lt24 {r : Nat} (h : r < 16777216) : units Ieee.single r = r := by
  unfold units
  rw [s_bin]
  by_cases hb : r < 8388608
  · rw [if_pos hb]
  · rw [if_neg hb]
    have h1 : r / 8388608 = 1 := by omega
    rw [h1]
    simp; omega

theorem units_ge24 {r : Nat} (h : 16777216 ≤ r) (hr : r < 2139095040) : 16777216 ≤ units Ieee.single r := by
  obtain ⟨kept, E, hu, he, hk, hE1, _⟩ := split_rung hr
  rw [hu]
  have h1 := hE1 (by omega)
  have h2 : 2 ^ 1 ≤ 2 ^ E := Nat.pow_le_pow_right (by decide) (by omega)
  have h3 : 8388608 * 2 ≤ kept * 2 ^ E := Nat.mul_le_mul h1 (by omega)
  omega

/-- How x and -x stand to 2^-125. -/
theorem big_cases {x : Nat} (h : rungOf Ieee.single x < 2139095040) :
    (FloatKind.f32.format.order x 16777216 = some .lt ∧ FloatKind.f32.format.order (Op.negFloat .f32 x) 16777216 = some .lt) ∨
    (16777216 ≤ rungOf Ieee.single x ∧ (FloatKind.f32.format.order x 16777216 = some .gt ∨ FloatKind.f32.format.order x 16777216 = some .eq ∨
      (FloatKind.f32.format.order x 16777216 = some .lt ∧ (FloatKind.f32.format.order (Op.negFloat .f32 x) 16777216 = some .gt ∨ FloatKind.f32.format.order (Op.negFloat .f32 x) 16777216 = some .eq)))) := by
  have hx : rungOf Ieee.single x < Ieee.single.infRung := by rw [s_inf]; exact h
  have hC : rungOf Ieee.single 16777216 < Ieee.single.infRung := by rw [rung_C, s_inf]; omega
  obtain ⟨n1, n2⟩ := neg_rung x
  have hn : rungOf Ieee.single (Op.negFloat .f32 x) < Ieee.single.infRung := by rw [n1]; exact hx
  have o1 := order_rung Ieee.single hx hC
  have o2 := order_rung Ieee.single hn hC
  rw [rung_C, neg_C, units_C] at o1 o2
  rw [n1, n2] at o2
  have o1' : FloatKind.f32.format.order x 16777216 = _ := o1
  have o2' : FloatKind.f32.format.order (Op.negFloat .f32 x) 16777216 = _ := o2
  rw [o1', o2']
  simp only [Option.some.injEq, cmp_lt, cmp_gt, cmp_eq]
  by_cases hb : 16777216 ≤ rungOf Ieee.single x
  · right
    have hu := units_ge24 hb h
    refine ⟨hb, ?_⟩
    cases negOf Ieee.single x <;> simp [sgn] <;> omega
  · left
    rw [units_lt24 (by omega)]
    cases negOf Ieee.single x <;> simp [sgn] <;> omega

/-- The end of the law: what stands behind the tests on x. -/
theorem small_end (x h1 h2 a b : Nat) (e1 : FE .f32 h1 (halves (halves x a) b)) (e2 : FE .f32 h2 (halves x (a + b))) :
    (nanB .f32 h1 = true ∧ nanB .f32 h2 = true) ∨ (h1 = h2 ∧ nanB .f32 h1 = false) := by
  rw [halves_add] at e1
  rcases e1.trans e2.symm with rfl | h
  · cases hn : nanB .f32 h1
    · exact .inr ⟨rfl, rfl⟩
    · exact .inl ⟨rfl, rfl⟩
  · exact .inl h

theorem small_end2 (x r1 r2 r3 : Nat) (p q : Int) (hp0 : 0 ≤ p) (hp1 : p < 160) (hq0 : 0 ≤ q) (hq1 : q < 160) (e1 : FE .f32 r1 (halves x (min p 400).toNat)) (e2 : FE .f32 r2 (halves r1 (min q 400).toNat)) (e3 : FE .f32 r3 (halves x (min (p + q) 400).toNat)) :
    (nanB .f32 r2 = true ∧ nanB .f32 r3 = true) ∨ (r2 = r3 ∧ nanB .f32 r2 = false) := by
  have a1 : (min p 400).toNat = p.toNat := by omega
  have a2 : (min q 400).toNat = q.toNat := by omega
  have a3 : (min (p + q) 400).toNat = p.toNat + q.toNat := by omega
  rw [a1] at e1
  rw [a2] at e2
  rw [a3] at e3
  exact small_end x r2 r3 _ _ (e2.trans (halves_congr e1 _)) e3
end Go.Proofs.Ytihdpljkllpkaaa
