/- Steps of single precision. -/
import Derived.Test.YtkjlodoppmipfaaGreatJg6
namespace Go.Proofs.YtkjlodoppmipfaaGreat
section
open Ieee

/-- What a finite word stands for, its digits bounded. -/
theorem read_isU_lt {f : Format} {w : Nat} {neg : Bool} {U : Nat} (h : isU f w neg U) :
    ∃ m e : Nat, f.read w = .number neg m (f.leastPlace + (e : Int)) ∧ m * 2 ^ e = U ∧ m < 2 * f.binade := by
  obtain ⟨r, rfl, hr, hU⟩ := h
  have hB := binade_pos f
  have hlt := infRung_lt' f
  have hs : (f.word neg r) % f.signWeight = r := by
    unfold Format.word
    split
    · rw [Nat.add_mod_left, Nat.mod_eq_of_lt (by omega)]
    · exact Nat.mod_eq_of_lt (by omega)
  have hd : ((f.word neg r) / f.signWeight % 2 == 1) = neg := by
    unfold Format.word
    cases neg
    · simp only [Bool.false_eq_true, if_false]
      rw [Nat.div_eq_of_lt (by omega)]; rfl
    · simp only [if_true]
      rw [Nat.add_div_left _ (by omega), Nat.div_eq_of_lt (by omega)]; rfl
  unfold Format.read
  simp only [hs, hd]
  unfold units at hU
  by_cases hb : r < f.binade
  · rw [if_pos hb] at hU ⊢
    exact ⟨r, 0, by simp, by omega, by omega⟩
  · rw [if_neg hb] at hU ⊢
    rw [if_pos hr]
    have : r % f.binade < f.binade := Nat.mod_lt _ hB
    exact ⟨_, r / f.binade - 1, rfl, hU, by omega⟩

/-- A product that the format has. -/
theorem mul_isU {f : Format} {x y : Nat} {s t : Bool} {A B U K : Nat} (hL : f.leastPlace = -(K : Int)) (hx : isU f x s A) (hy : isU f y t B) (hU : Rep f U) (h : A * B = U * 2 ^ K) :
    ∃ z, f.mul x y = some z ∧ isU f z (s ^^ t) U := by
  obtain ⟨m, e, h1, h2⟩ := read_isU hx
  obtain ⟨n, g, h3, h4⟩ := read_isU hy
  refine ⟨f.nearest (s ^^ t) (m * n) (f.leastPlace + (e : Int) + (f.leastPlace + (g : Int))), ?_, ?_⟩
  · unfold Format.mul
    rw [h1, h3]
    rfl
  · refine isU_of_nearest (s ^^ t) (a := e + g) (b := K) hU ?_ ?_
    · rw [← h, ← h2, ← h4, Nat.pow_add]
      simp only [Nat.mul_assoc, Nat.mul_left_comm]
    · rw [hL]; push_cast; omega

/-- Half of an even number of units. -/
theorem quo_isU {f : Format} {x y : Nat} {s t : Bool} {c U : Nat} {j : Int} (hx : isU f x s (2 * U)) (hy : f.read y = .number t (2 ^ c) j) (hc : c = f.fractionBits) (hj : j = 1 - (c : Int)) (hU : Rep f U) :
    ∃ z, f.div x y = some z ∧ isU f z (s ^^ t) U := by
  obtain ⟨m, e, h1, h2, hm⟩ := read_isU_lt hx
  have hlog : m.log2 ≤ c := by
    by_cases h0 : m = 0
    · subst h0; simp
    · have : m.log2 < c + 1 := by
        rw [Nat.log2_lt h0, Nat.pow_succ]
        have hb : f.binade = 2 ^ f.fractionBits := rfl
        rw [hb, ← hc] at hm
        omega
      omega
  have hlc : (2 ^ c : Nat).log2 = c := Nat.log2_two_pow
  have hne : (2 ^ c : Nat) ≠ 0 := by have := Nat.two_pow_pos c; omega
  obtain ⟨more, hmore⟩ : ∃ more, more = f.fractionBits + 2 + (2 ^ c : Nat).log2 - m.log2 := ⟨_, rfl⟩
  have hmc : c + 2 ≤ more := by omega
  have hdiv : m <<< more / 2 ^ c = m * 2 ^ (more - c) := by
    rw [Nat.shiftLeft_eq, show more = (more - c) + c by omega, Nat.pow_add, ← Nat.mul_assoc, Nat.mul_div_cancel _ (Nat.two_pow_pos c)]
    congr 2
    omega
  have hmod : m <<< more % 2 ^ c = 0 := by
    rw [Nat.shiftLeft_eq, show more = (more - c) + c by omega, Nat.pow_add, ← Nat.mul_assoc]
    exact Nat.mul_mod_left _ _
  refine ⟨f.nearest (s ^^ t) (2 * (m * 2 ^ (more - c))) (f.leastPlace + (e : Int) - j - more - 1), ?_, ?_⟩
  · unfold Format.div
    rw [h1, hy]
    simp only [Datum.quotient, if_neg hne, ← hmore, hdiv, hmod, Option.map_some, Format.write]
    rfl
  · refine isU_of_nearest (s ^^ t) (a := e) (b := (more - c) + 2) hU ?_ ?_
    · have e1 : 2 * (m * 2 ^ (more - c)) * 2 ^ e = 2 * (m * 2 ^ e) * 2 ^ (more - c) := by
        rw [Nat.mul_assoc, Nat.mul_assoc, Nat.mul_assoc, Nat.mul_assoc, Nat.mul_comm (2 ^ (more - c))]
      rw [e1, h2, Nat.pow_add]
      have : (2 : Nat) ^ 2 = 4 := rfl
      rw [this]
      generalize 2 ^ (more - c) = z
      rw [show 2 * (2 * U) = U * 4 by omega, Nat.mul_assoc, Nat.mul_comm 4]
    · rw [hj]; omega

theorem cut_zero_exact (neg : Bool) (q d : Nat) : Toward.zero.cut neg (q * 2 ^ d) d = q := by
  unfold Toward.cut
  by_cases hq : q = 0
  · subst hq; simp
  · have hn : q * 2 ^ d ≠ 0 := Nat.mul_ne_zero hq (by have := Nat.two_pow_pos d; omega)
    have hl : d ≤ (q * 2 ^ d).log2 := by
      rw [Nat.le_log2 hn]
      exact Nat.le_mul_of_pos_left _ (Nat.pos_of_ne_zero hq)
    have hmin : min d ((q * 2 ^ d).log2 + 2) = d := by omega
    simp only [hmin, Nat.one_shiftLeft, Nat.mul_div_cancel _ (Nat.two_pow_pos d)]
    rfl

/-- A whole number, made an integer. -/
theorem toInt_isU {f : Format} {x : Nat} {s : Bool} {q K : Nat} (hL : f.leastPlace = -(K : Int)) (h : isU f x s (q * 2 ^ K)) : (f.read x).toInt .zero = some (sgn s q) := by
  obtain ⟨m, e, h1, h2⟩ := read_isU h
  rw [h1, hL]
  have hcut : Toward.zero.cut s (m <<< (-(K : Int) + (e : Int)).toNat) (-(-(K : Int) + (e : Int))).toNat = q := by
    by_cases hke : K ≤ e
    · have a1 : (-(K : Int) + (e : Int)).toNat = e - K := by omega
      have a2 : (-(-(K : Int) + (e : Int))).toNat = 0 := by omega
      rw [a1, a2, Nat.shiftLeft_eq]
      have : m * 2 ^ (e - K) = q := by
        rw [show e = (e - K) + K by omega, Nat.pow_add, ← Nat.mul_assoc] at h2
        exact Nat.eq_of_mul_eq_mul_right (Nat.two_pow_pos K) h2
      rw [this]
      have := cut_zero_exact s q 0
      simpa using this
    · have a1 : (-(K : Int) + (e : Int)).toNat = 0 := by omega
      have a2 : (-(-(K : Int) + (e : Int))).toNat = K - e := by omega
      rw [a1, a2, Nat.shiftLeft_eq, Nat.pow_zero, Nat.mul_one]
      have : m = q * 2 ^ (K - e) := by
        rw [show K = (K - e) + e by omega, Nat.pow_add, ← Nat.mul_assoc] at h2
        exact Nat.eq_of_mul_eq_mul_right (Nat.two_pow_pos e) h2
      rw [this]
      exact cut_zero_exact s q _
  simp only [Datum.toInt, Datum.integral, hcut, signed, sgn, Nat.shiftLeft_zero]
end
section
open Ieee Go.RowKit

/-- A rung by its digits and their place. -/
theorem split_rung {r : Nat} (h : r < 2139095040) : ∃ kept E : Nat, units Ieee.single r = kept * 2 ^ E ∧ r = E * 8388608 + kept ∧ kept < 16777216 ∧ (0 < E → 8388608 ≤ kept) ∧ E ≤ 253 := by
  unfold units
  rw [s_bin]
  by_cases hb : r < 8388608
  · rw [if_pos hb]
    exact ⟨r, 0, by simp, by omega, by omega, by omega, by omega⟩
  · rw [if_neg hb]
    exact ⟨8388608 + r % 8388608, r / 8388608 - 1, rfl, by omega, by omega, by omega, by omega⟩

/-- A double that is so many units. -/
def AtY (z kept n : Nat) : Prop := isU Ieee.double z false (kept * 2 ^ n)

theorem rep_d {kept n : Nat} (hk : kept < 16777216) (hn : n ≤ 2000) : Rep Ieee.double (kept * 2 ^ n) := by
  refine rep_of _ (by rw [d_bin]; omega) ?_
  have h : Ieee.double.exponentBits = 11 := rfl
  rw [h]
  omega

theorem read_two : Ieee.double.read 4611686018427387904 = .number false (2 ^ 52) (-51) := by decide +kernel

theorem AtY.half {z kept n : Nat} (h : AtY z kept (n + 1)) (hk : kept < 16777216) (hn : n ≤ 2000) : ∃ z', floatBits .quo .f64 z 4611686018427387904 = some z' ∧ AtY z' kept n := by
  have h' : isU Ieee.double z false (2 * (kept * 2 ^ n)) := by
    have e : kept * 2 ^ (n + 1) = 2 * (kept * 2 ^ n) := by rw [Nat.pow_succ, Nat.mul_comm (2 ^ n), Nat.mul_left_comm]
    unfold AtY at h
    rw [e] at h
    exact h
  obtain ⟨z', h1, h2⟩ := quo_isU h' read_two rfl (by omega) (rep_d hk hn)
  exact ⟨z', h1, h2⟩

theorem isU_two : isU Ieee.double 4611686018427387904 false (2 * 2 ^ 1074) := ⟨4611686018427387904, rfl, by rw [d_inf]; omega, by decide +kernel⟩

theorem twice_units (kept n K : Nat) : kept * 2 ^ n * (2 * 2 ^ K) = kept * 2 ^ (n + 1) * 2 ^ K := by
  rw [Nat.pow_succ]
  simp only [Nat.mul_assoc]

theorem AtY.twice {z kept n : Nat} (h : AtY z kept n) (hk : kept < 16777216) (hn : n ≤ 1999) : ∃ z', floatBits .mul .f64 z 4611686018427387904 = some z' ∧ AtY z' kept (n + 1) := by
  obtain ⟨z', h1, h2⟩ := mul_isU (K := 1074) d_lp h isU_two (rep_d (n := n + 1) hk (by omega)) (twice_units kept n 1074)
  exact ⟨z', h1, h2⟩

theorem AtY.toInt {z kept : Nat} (h : AtY z kept 1074) (hk : kept < 16777216) : floatToIntVal .f64 z .i64 = some (kept : Int) := by
  have := toInt_isU (K := 1074) d_lp h
  unfold floatToIntVal FloatKind.decode FloatKind.format
  simp only []
  rw [this]
  have e1 : IntKind.i64.min = -9223372036854775808 := by decide +kernel
  have e2 : IntKind.i64.max = 9223372036854775807 := by decide +kernel
  simp only [sgn, e1, e2]
  rw [if_pos ⟨by simp, by simp; omega⟩]
  simp

theorem isU_bound : isU Ieee.double 4044232465378705408 false (16777216 * 2 ^ 925) := ⟨4044232465378705408, rfl, by rw [d_inf]; omega, by decide +kernel⟩

theorem scaled_pow (kept n K : Nat) : kept * 2 ^ (n + K) = kept * 2 ^ n * 2 ^ K := by rw [Nat.pow_add, Nat.mul_assoc]

theorem AtY.order {z kept n : Nat} (h : AtY z kept (n + 925)) : (FloatKind.f64.format.order z 4044232465378705408 = some .lt ↔ kept * 2 ^ n < 16777216) ∧ (FloatKind.f64.format.order z 4044232465378705408 = some .lt ∨ FloatKind.f64.format.order z 4044232465378705408 = some .eq ∨ FloatKind.f64.format.order z 4044232465378705408 = some .gt) := by
  unfold AtY at h
  rw [scaled_pow kept n 925] at h
  have ho := order_isU h isU_bound
  have hc := cmp_scaled (kept * 2 ^ n) 16777216 (2 ^ 925) (Nat.two_pow_pos 925)
  have ho' : FloatKind.f64.format.order z 4044232465378705408 = _ := ho
  rw [ho', Option.some.injEq]
  refine ⟨hc, ?_⟩
  generalize compare (sgn false (kept * 2 ^ n * 2 ^ 925)) (sgn false (16777216 * 2 ^ 925)) = c
  cases c <;> simp

/-- An integer comes back, and nothing is written. -/
def GivesI (w : World) (b : Int) (e : Ending) (w' : World) : Prop := ∃ n, e = .returned (.int .i64 b) ∧ w' = w.drewN n

/-- The steps of a number of single precision. -/
def stepsZ (x : Nat) : Int := if negOf Ieee.single x then -(rungOf Ieee.single x : Int) else (rungOf Ieee.single x : Int)

/-- What StepsOf gives. -/
def GivesSteps (w : World) (x : Nat) (e : Ending) (w' : World) : Prop :=
  ∃ n, e = .returned (if rungOf Ieee.single x < 2139095040 then .tuple #[.int .i64 (stepsZ x), .bool true] else .tuple #[.int .i64 0, .bool false]) ∧ w' = w.drewN n

theorem sub_self_fin {x : Nat} (h : rungOf Ieee.single x < Ieee.single.infRung) : floatBits .sub .f32 x x = some 0 := by
  obtain ⟨m, e, hr, _⟩ := read_fin Ieee.single h
  simp only [floatBits, FloatKind.format, Ieee.Format.sub]
  rw [hr]
  simp only [Ieee.Datum.opposite, Ieee.Datum.sum, Option.map_some, Ieee.Format.write]
  have : signed (negOf Ieee.single x) m (Ieee.single.leastPlace + (e : Int) - min (Ieee.single.leastPlace + (e : Int)) (Ieee.single.leastPlace + (e : Int))).toNat + signed (!negOf Ieee.single x) m (Ieee.single.leastPlace + (e : Int) - min (Ieee.single.leastPlace + (e : Int)) (Ieee.single.leastPlace + (e : Int))).toNat = 0 := by
    unfold signed
    cases negOf Ieee.single x <;> simp <;> omega
  rw [this]
  cases negOf Ieee.single x <;> rfl

theorem sub_self_not {x : Nat} (h : ¬ rungOf Ieee.single x < Ieee.single.infRung) : floatBits .sub .f32 x x = none := by
  simp only [floatBits, FloatKind.format, Ieee.Format.sub]
  rcases Nat.lt_or_ge Ieee.single.infRung (rungOf Ieee.single x) with h1 | h1
  · have hn := read_nan Ieee.single s_eb h1
    obtain ⟨s, t, he⟩ := (isNaN_cases _).1 hn
    rw [he]; rfl
  · have hi := read_inf Ieee.single s_eb (show rungOf Ieee.single x = Ieee.single.infRung by omega)
    rw [hi]
    cases negOf Ieee.single x <;> rfl

set_option maxHeartbeats 400000 in
theorem l1Finite_any (x : Nat) (w : World) : Calls Tryz.prog 123 #[.float .f32 x] w (GivesB w (decide (rungOf Ieee.single x < 2139095040))) := by
  by_cases h : rungOf Ieee.single x < 2139095040
  · have h1 := sub_self_fin (x := x) (by rw [s_inf]; exact h)
    have hq1 : ∀ w, fAr .sub .f32 x x w = 0 := by intro w; simp [fAr, h1]
    have ho : FloatKind.f32.format.order 0 0 = some .eq := by decide +kernel
    rw [decide_eq_true h]
    clear h1 h
    go_enter Tryz.func123, Tryz.ntmps123
    go_wp2
    go_ret
    exact ⟨_, rfl, rfl⟩
  · have h1 := sub_self_not (x := x) (by rw [s_inf]; exact h)
    have ho : FloatKind.f32.format.order (fAr .sub .f32 x x w) 0 = none := order_nan_left (fAr_nan w h1)
    rw [decide_eq_false h]
    clear h1 h
    go_enter Tryz.func123, Tryz.ntmps123
    go_wp2
    go_ret
    exact ⟨_, rfl, rfl⟩

theorem bits_andNot_sign (x : Nat) (hx : x < 4294967296) : bits .andNot .u32 (x : Int) 2147483648 = (rungOf Ieee.single x : Nat) := by
  have e : (2147483648 : Int) = ((2147483648 : Nat) : Int) := rfl
  rw [e]
  unfold bits rungOf
  rw [s_sw]
  have hb : IntKind.u32.bits = 32 := rfl
  rw [hb]
  simp only [BitVec.ofInt_natCast]
  have hm : (BitVec.ofNat 32 x &&& ~~~(BitVec.ofNat 32 2147483648)).toNat = x % 2147483648 := by
    rw [BitVec.toNat_and, BitVec.toNat_not, BitVec.toNat_ofNat, BitVec.toNat_ofNat]
    have e1 : x % 2 ^ 32 = x := Nat.mod_eq_of_lt (by omega)
    have e2 : 2 ^ 32 - 1 - 2147483648 % 2 ^ 32 = 2 ^ 31 - 1 := by decide
    rw [e1, e2, Nat.and_two_pow_sub_one_eq_mod]
  rw [hm, IntKind.wrap_u32]
  omega

theorem bits_sign_int (x : Nat) (hx : x < 4294967296) : bits .and .u32 (x : Int) 2147483648 = (zeroOf x : Nat) := by
  have h := bits_and_u32 x 2147483648 hx (by omega)
  rw [and_sign] at h
  exact h

set_option maxHeartbeats 400000 in
theorem impl_stepsOf (x : Nat) (hx : x < 4294967296) (w : World) : Calls Tryz.prog 177 #[.float .f32 x] w (GivesSteps w x) := by
  have hb := run_float32bits x
  have h1 := bits_andNot_sign x hx
  have h2 := bits_sign_int x hx
  have hst : stepsZ x = if negOf Ieee.single x then -(rungOf Ieee.single x : Int) else (rungOf Ieee.single x : Int) := rfl
  have Hst := Lib.hid hst
  have hlt : rungOf Ieee.single x < 2147483648 := by unfold rungOf; rw [s_sw]; exact Nat.mod_lt _ (by decide)
  have hfin : ∀ e : Ending, e = .returned (if rungOf Ieee.single x < 2139095040 then .tuple #[.int .i64 (stepsZ x), .bool true] else .tuple #[.int .i64 0, .bool false]) → GivesSteps w x e w := fun e he => ⟨0, he, rfl⟩
  have Hfin := Lib.hid hfin
  unfold zeroOf at h2
  clear hst hfin hx
  generalize rungOf Ieee.single x = r at *
  generalize negOf Ieee.single x = s at *
  by_cases h : r < 2139095040
  · cases s with
    | true =>
      simp only [if_true] at h2
      go_enter Tryz.func177, Tryz.ntmps177
      go_wp2_with fail
      go_ret2
      exact Hfin.out _ (by rw [if_pos h, Hst.out]; rfl)
    | false =>
      simp only [Bool.false_eq_true, if_false] at h2
      go_enter Tryz.func177, Tryz.ntmps177
      go_wp2_with fail
      go_ret2
      exact Hfin.out _ (by rw [if_pos h, Hst.out]; rfl)
  · go_enter Tryz.func177, Tryz.ntmps177
    have hge : 2139095040 ≤ r := by omega
    clear h2
    go_wp2_with fail
    go_ret2
    exact Hfin.out _ (by rw [if_neg h]; rfl)
end
end Go.Proofs.YtkjlodoppmipfaaGreat
