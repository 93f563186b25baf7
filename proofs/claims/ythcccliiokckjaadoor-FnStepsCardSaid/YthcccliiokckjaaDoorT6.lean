/- Ldexp, where nothing is rounded. -/
import Derived.Test.YthcccliiokckjaaDoorT5
namespace Go.Proofs.YthcccliiokckjaaDoor
open Go.RowKit Ieee

theorem run_float64frombits (n : Int) (w : World) : (callFunc 71 #[.int .u64 n]).run Tryd.prog w = .ok (.value (.float .f64 n.toNat)) w :=
  (run_callFunc_extern (P := Tryd.prog) (f := 71) (fn := Tryd.f71) (e := Extern.MathFloatBits.float64frombits) Tryd.func71 (by kernel_rfl) (by kernel_rfl) (by kernel_rfl) (by kernel_rfl) #[.int .u64 n] w).trans rfl

set_option maxRecDepth 100000 in
theorem abs_any (z : Nat) (ha : bits .andNot .u64 (z : Int) 9223372036854775808 = (z : Int)) (w : World) : Calls Tryd.prog 83 #[.float .f64 z] w fun e w' => e = .returned (.float .f64 z) ∧ w = w' := by
  have hb := run_float64bits
  have hfb := run_float64frombits
  go_enter Tryd.func83, Tryd.ntmps83
  go_wp2_with fail
  go_ret
  exact ⟨by simp, rfl⟩

set_option maxRecDepth 100000 in
theorem isInf_any (z : Nat) (ha : bits .andNot .u64 (z : Int) 9223372036854775808 = (z : Int)) (ho : FloatKind.f64.format.order z 9218868437227405311 = some .lt) (w : World) : Calls Tryd.prog 66 #[.float .f64 z, .int .i64 0] w fun e w' => e = .returned (.bool false) ∧ w = w' := by
  go_enter Tryd.func66, Tryd.ntmps66
  go_wp2_with fail
  refine (abs_any z ha _).mono ?_
  rintro _ _ ⟨rfl, rfl⟩
  go_wp2_with fail
  go_ret
  exact ⟨rfl, rfl⟩

set_option maxRecDepth 100000 in
theorem isNaN_any (z : Nat) (ho : FloatKind.f64.format.order z z = some .eq) (w : World) : Calls Tryd.prog 67 #[.float .f64 z] w fun e w' => e = .returned (.bool false) ∧ w = w' := by
  go_enter Tryd.func67, Tryd.ntmps67
  go_wp2_with fail
  go_ret
  exact ⟨rfl, rfl⟩

set_option maxRecDepth 100000 in
theorem normalize_any (z : Nat) (ha : bits .andNot .u64 (z : Int) 9223372036854775808 = (z : Int)) (ho : FloatKind.f64.format.order z 4503599627370496 = some .gt) (w : World) : Calls Tryd.prog 68 #[.float .f64 z] w fun e w' => e = .returned (.tuple #[.float .f64 z, .int .i64 0]) ∧ w = w' := by
  go_enter Tryd.func68, Tryd.ntmps68
  go_wp2_with fail
  refine (abs_any z ha _).mono ?_
  rintro _ _ ⟨rfl, rfl⟩
  go_wp2_with fail
  go_ret2
  exact ⟨rfl, rfl⟩

set_option maxRecDepth 100000 in
theorem ldexp_core (z : Nat) (e : Int) (w : World) (ha : bits .andNot .u64 (z : Int) 9223372036854775808 = (z : Int)) (o0 : FloatKind.f64.format.order z 0 = some .gt) (o1 : FloatKind.f64.format.order z 9218868437227405311 = some .lt) (o2 : FloatKind.f64.format.order z z = some .eq) (o3 : FloatKind.f64.format.order z 4503599627370496 = some .gt)
    (E f : Nat) (z' : Nat) (d1 : (z : Int) / 4503599627370496 = (E : Int)) (d2 : bits .and .i64 (E : Int) 2047 = (E : Int)) (d3 : bits .andNot .u64 (z : Int) 9218868437227405312 = (f : Int)) (h1 : 1023 ≤ E) (h2 : E ≤ 1046)
    (d4 : bits .or .u64 (f : Int) ((e + ((E : Int) - 1023) + 1023) * 4503599627370496) = (z' : Int)) (d5 : floatBits .mul .f64 4607182418800017408 z' = some z')
    (e1 : -149 ≤ e) (e2 : e ≤ 127) :
    Calls Tryd.prog 56 #[.float .f64 z, .int .i64 e] w fun e' w' => e' = .returned (.float .f64 z') ∧ w = w' := by
  have hb := run_float64bits
  have hfb := run_float64frombits
  have HA := Lib.hid ha
  have hq1 : ∀ w, fAr .mul .f64 4607182418800017408 z' w = z' := by intro w; simp [fAr, d5]
  have hq2 : fDr .mul .f64 4607182418800017408 z' = 0 := by simp [fDr, d5]
  have i1 : (1023 : Int) ≤ (E : Int) := by omega
  have i2 : (E : Int) ≤ 1046 := by omega
  clear ha d5 h1 h2
  go_enter Tryd.func56, Tryd.ntmps56
  go_wp2_with fail
  refine (isInf_any z HA.out o1 _).mono ?_
  rintro _ _ ⟨rfl, rfl⟩
  go_wp2_with fail
  refine (isNaN_any z o2 _).mono ?_
  rintro _ _ ⟨rfl, rfl⟩
  go_wp2_with fail
  refine (normalize_any z HA.out o3 _).mono ?_
  rintro _ _ ⟨rfl, rfl⟩
  go_wp2_with fail
  go_ret
  exact ⟨rfl, rfl⟩

/-- Bits of a 64-bit word struck. -/
theorem bits_strike (x b c : Nat) (hx : x < 18446744073709551616) (hb : b < 18446744073709551616) (hc : x &&& (18446744073709551615 - b) = c) : bits .andNot .u64 (x : Int) (b : Int) = (c : Int) := by
  unfold bits
  have hb64 : IntKind.u64.bits = 64 := rfl
  rw [hb64]
  simp only [BitVec.ofInt_natCast]
  have hm : (BitVec.ofNat 64 x &&& ~~~(BitVec.ofNat 64 b)).toNat = c := by
    rw [BitVec.toNat_and, BitVec.toNat_not, BitVec.toNat_ofNat, BitVec.toNat_ofNat]
    have e1 : x % 2 ^ 64 = x := Nat.mod_eq_of_lt (by omega)
    have e2 : b % 2 ^ 64 = b := Nat.mod_eq_of_lt (by omega)
    rw [e1, e2, ← hc]
  rw [hm, IntKind.wrap_u64]
  have : c < 18446744073709551616 := by
    rw [← hc]
    exact Nat.lt_of_le_of_lt Nat.and_le_left hx
  omega

theorem strike_sign (z : Nat) (hz : z < 9223372036854775808) : bits .andNot .u64 (z : Int) 9223372036854775808 = (z : Int) := by
  refine bits_strike z 9223372036854775808 z (by omega) (by omega) ?_
  have e : 18446744073709551615 - 9223372036854775808 = 2 ^ 63 - 1 := by decide
  rw [e, Nat.and_two_pow_sub_one_eq_mod]
  exact Nat.mod_eq_of_lt hz

theorem and_two63 (x : Nat) (h : x < 9223372036854775808) : x &&& 2 ^ 63 = 0 := by
  apply Nat.eq_of_testBit_eq
  intro i
  rw [Nat.testBit_and, Nat.testBit_two_pow, Nat.zero_testBit]
  by_cases hi : 63 = i
  · subst hi
    rw [Nat.testBit_lt_two_pow h]; simp
  · simp [hi]

theorem strike_exp (E f : Nat) (hE : E < 2048) (hf : f < 4503599627370496) : bits .andNot .u64 ((E * 4503599627370496 + f : Nat) : Int) 9218868437227405312 = (f : Int) := by
  refine bits_strike _ 9218868437227405312 f (by omega) (by omega) ?_
  have e : 18446744073709551615 - 9218868437227405312 = 2 ^ 63 ||| (2 ^ 52 - 1) := by decide +kernel
  rw [e, Nat.and_or_distrib_left, Nat.and_two_pow_sub_one_eq_mod]
  have h1 : (E * 4503599627370496 + f) &&& 2 ^ 63 = 0 := by
    have h2 := and_two63 (E * 4503599627370496 + f) (by omega)
    exact h2
  rw [h1, Nat.zero_or]
  omega

theorem join_exp (E f : Nat) (hE : E < 2048) (hf : f < 4503599627370496) {c : Int} (hc : c = (E : Int)) : bits .or .u64 (f : Int) (c * 4503599627370496) = ((E * 4503599627370496 + f : Nat) : Int) := by
  have h := (bits_nat .u64 64 (by decide) (fun n h0 h1 => by rw [IntKind.wrap_u64]; omega) f (E * 4503599627370496) (by omega) (by omega)).2
  rw [hc, show (E : Int) * 4503599627370496 = ((E * 4503599627370496 : Nat) : Int) by omega, h]
  congr 1
  have h1 : f < 2 ^ 52 := hf
  have h2 := Nat.two_pow_add_eq_or_of_lt h1 E
  rw [show (2 : Nat) ^ 52 = 4503599627370496 from rfl, Nat.mul_comm] at h2
  rw [h2, Nat.or_comm]

theorem and_2047 (E : Nat) (h : E < 2048) : bits .and .i64 (E : Int) 2047 = (E : Int) := by
  have h1 := (bits_nat .i64 62 (by decide) (fun n h0 h1 => by rw [IntKind.wrap_i64]; omega) E 2047 (by omega) (by omega)).1
  rw [show ((2047 : Nat) : Int) = 2047 from rfl] at h1
  rw [h1]
  congr 1
  rw [show 2047 = 2 ^ 11 - 1 from rfl, Nat.and_two_pow_sub_one_eq_mod]
  exact Nat.mod_eq_of_lt h

/-- How high the place of a whole number is. -/
theorem place_low {B f m X Y : Nat} (hf : f < 2 ^ B) (hm : 1 ≤ m) (h : (2 ^ B + f) * 2 ^ X = m * 2 ^ Y) : Y < B + X + 1 := by
  have h1 : 2 ^ Y ≤ m * 2 ^ Y := Nat.le_mul_of_pos_left _ hm
  have h2 : (2 ^ B + f) * 2 ^ X < 2 ^ (B + 1) * 2 ^ X := Nat.mul_lt_mul_of_pos_right (by rw [Nat.pow_succ]; omega) (Nat.two_pow_pos _)
  rw [← Nat.pow_add] at h2
  have h3 : 2 ^ Y < 2 ^ (B + 1 + X) := by omega
  have := (Nat.pow_lt_pow_iff_right (by omega : 1 < 2)).1 h3
  omega
theorem place_high {B f m M X Y : Nat} (hm : m < 2 ^ M) (h : (2 ^ B + f) * 2 ^ X = m * 2 ^ Y) : B + X < M + Y := by
  have h1 : 2 ^ B * 2 ^ X ≤ (2 ^ B + f) * 2 ^ X := Nat.mul_le_mul_right _ (by omega)
  have h2 : m * 2 ^ Y < 2 ^ M * 2 ^ Y := Nat.mul_lt_mul_of_pos_right hm (Nat.two_pow_pos _)
  rw [← Nat.pow_add] at h1 h2
  exact (Nat.pow_lt_pow_iff_right (by omega : 1 < 2)).1 (by omega)

theorem shift_up {a m X Y d : Nat} (h : a * 2 ^ X = m * 2 ^ Y) : a * 2 ^ (X + d) = m * 2 ^ (Y + d) := by
  rw [Nat.pow_add, Nat.pow_add, ← Nat.mul_assoc, ← Nat.mul_assoc, h]
theorem shift_down {a m X Y d : Nat} (h : a * 2 ^ (X + d) = m * 2 ^ (Y + d)) : a * 2 ^ X = m * 2 ^ Y := by
  rw [Nat.pow_add, Nat.pow_add, ← Nat.mul_assoc, ← Nat.mul_assoc] at h
  exact Nat.eq_of_mul_eq_mul_right (Nat.two_pow_pos d) h


theorem isU_one : isU Ieee.double 4607182418800017408 false (1 * 2 ^ 1074) := ⟨4607182418800017408, rfl, by rw [d_inf]; omega, by decide +kernel⟩
theorem isU_dmax : isU Ieee.double 9218868437227405311 false (9007199254740991 * 2 ^ 2045) := ⟨9218868437227405311, rfl, by rw [d_inf]; omega, by decide +kernel⟩
theorem isU_dnorm : isU Ieee.double 4503599627370496 false (4503599627370496 * 2 ^ 0) := ⟨4503599627370496, rfl, by rw [d_inf]; omega, by decide +kernel⟩
theorem isU_dzero : isU Ieee.double 0 false (0 * 2 ^ 0) := ⟨0, rfl, by rw [d_inf]; omega, by decide +kernel⟩

theorem order_gt {x y A B : Nat} (hx : isU Ieee.double x false A) (hy : isU Ieee.double y false B) (h : B < A) : FloatKind.f64.format.order x y = some .gt := by
  have e : FloatKind.f64.format.order x y = _ := order_isU hx hy
  rw [e]; simp only [sgn, Bool.false_eq_true, if_false]; rw [(cmp_gt).2 (by omega)]
theorem order_lt {x y A B : Nat} (hx : isU Ieee.double x false A) (hy : isU Ieee.double y false B) (h : A < B) : FloatKind.f64.format.order x y = some .lt := by
  have e : FloatKind.f64.format.order x y = _ := order_isU hx hy
  rw [e]; simp only [sgn, Bool.false_eq_true, if_false]; rw [(cmp_lt).2 (by omega)]
theorem order_eq {x A : Nat} (hx : isU Ieee.double x false A) : FloatKind.f64.format.order x x = some .eq := by
  have e : FloatKind.f64.format.order x x = _ := order_isU hx hx
  rw [e]; simp only [sgn, Bool.false_eq_true, if_false]; rw [(cmp_eq).2 rfl]

theorem one_pow_mul (U K : Nat) : 1 * 2 ^ K * U = U * 2 ^ K := by rw [Nat.one_mul, Nat.mul_comm]
theorem times_one {z U : Nat} (h : isU Ieee.double z false U) : floatBits .mul .f64 4607182418800017408 z = some z := by
  obtain ⟨y, hy1, hy2⟩ := mul_isU (K := 1074) d_lp isU_one h (isU_rep h) (one_pow_mul U 1074)
  have : y = z := isU_word hy2 h
  rw [this] at hy1
  exact hy1

/-- The word of a whole number. -/
theorem whole_parts {z m : Nat} (h : AtY z m 1074) (h1 : 1 ≤ m) (h2 : m < 16777216) : ∃ E f, z = E * 4503599627370496 + f ∧ f < 4503599627370496 ∧ 1023 ≤ E ∧ E ≤ 1046 ∧ (4503599627370496 + f) * 2 ^ (E - 1) = m * 2 ^ 1074 := by
  have key : ∀ Y : Nat, Y = 1074 → isU Ieee.double z false (m * 2 ^ Y) → ∃ E f, z = E * 4503599627370496 + f ∧ f < 4503599627370496 ∧ 1023 ≤ E ∧ E ≤ 1046 ∧ (4503599627370496 + f) * 2 ^ (E - 1) = m * 2 ^ Y := by
    intro Y hY ⟨r, hz, hr, hu⟩
    have hz : z = r := hz
    subst hz
    have hbig : 4503599627370496 ≤ z := by
      by_cases hh : 4503599627370496 ≤ z
      · exact hh
      · exfalso
        rw [units_small _ (by rw [d_bin]; omega)] at hu
        have h3 : 2 ^ 52 * 2 ^ (Y - 52) ≤ m * 2 ^ Y := by
          rw [← Nat.pow_add, show 52 + (Y - 52) = Y by omega]
          exact Nat.le_mul_of_pos_left _ h1
        have h4 : 2 ^ 52 * 1 ≤ 2 ^ 52 * 2 ^ (Y - 52) := Nat.mul_le_mul_left _ (Nat.one_le_two_pow)
        rw [← hu] at h3
        have h5 : (2 : Nat) ^ 52 = 4503599627370496 := rfl
        omega
    unfold units at hu
    rw [d_bin, if_neg (by omega)] at hu
    obtain ⟨E, hE⟩ : ∃ E, E = z / 4503599627370496 := ⟨_, rfl⟩
    obtain ⟨f, hf⟩ : ∃ f, f = z % 4503599627370496 := ⟨_, rfl⟩
    rw [← hE, ← hf] at hu
    have hE1 : 1 ≤ E := by omega
    have l1 := place_low (B := 52) (f := f) (m := m) (X := E - 1) (Y := Y) (by show f < 4503599627370496; omega) h1 hu
    have l2 := place_high (B := 52) (f := f) (m := m) (M := 24) (X := E - 1) (Y := Y) (by show m < 16777216; exact h2) hu
    exact ⟨E, f, by omega, by omega, by omega, by omega, hu⟩
  exact key 1074 rfl h

theorem zero_lt_pow {m : Nat} (h1 : 1 ≤ m) (Y : Nat) : 0 * 2 ^ 0 < m * 2 ^ Y := by
  rw [Nat.zero_mul]; exact Nat.mul_pos h1 (Nat.two_pow_pos _)

/-- A whole number scaled by a power of two. -/
theorem scaled_word {E f m : Nat} {e : Int} (hf : f < 4503599627370496) (h1 : 1023 ≤ E) (h2 : E ≤ 1046) (e1 : -149 ≤ e) (e2 : e ≤ 127) (h : (4503599627370496 + f) * 2 ^ (E - 1) = m * 2 ^ 1074) :
    isU Ieee.double (((E : Int) + e).toNat * 4503599627370496 + f) false (m * 2 ^ (1074 + e).toNat) := by
  have key : ∀ Y : Nat, Y = 1074 → (4503599627370496 + f) * 2 ^ (E - 1) = m * 2 ^ Y → isU Ieee.double (((E : Int) + e).toNat * 4503599627370496 + f) false (m * 2 ^ ((Y : Int) + e).toNat) := by
    intro Y hY h
    refine ⟨((E : Int) + e).toNat * 4503599627370496 + f, rfl, by rw [d_inf]; omega, ?_⟩
    have hE : 1 ≤ ((E : Int) + e).toNat := by omega
    unfold units
    rw [d_bin, if_neg (by omega), show (((E : Int) + e).toNat * 4503599627370496 + f) % 4503599627370496 = f by omega, show (((E : Int) + e).toNat * 4503599627370496 + f) / 4503599627370496 = ((E : Int) + e).toNat by omega]
    by_cases h0 : 0 ≤ e
    · rw [show ((E : Int) + e).toNat - 1 = (E - 1) + e.toNat by omega, show ((Y : Int) + e).toNat = Y + e.toNat by omega]
      exact shift_up h
    · refine shift_down (d := e.natAbs) ?_
      rw [show ((E : Int) + e).toNat - 1 + e.natAbs = E - 1 by omega, show ((Y : Int) + e).toNat + e.natAbs = Y by omega]
      exact h
  exact key 1074 rfl h

set_option maxRecDepth 100000 in
theorem ldexp_any (m : Nat) (h1 : 1 ≤ m) (h2 : m < 16777216) (e : Int) (e1 : -149 ≤ e) (e2 : e ≤ 127) (w : World) :
    Calls Tryd.prog 44 #[.float .f64 (floatOfInt .f64 (m : Int)), .int .i64 e] w fun en w' => ∃ z', en = .returned (.float .f64 z') ∧ AtY z' m (1074 + e).toNat ∧ w = w' := by
  have hz := AtY.ofInt h2
  generalize floatOfInt .f64 (m : Int) = z at *
  obtain ⟨E, f, hzE, hf, E1, E2, hu⟩ := whole_parts hz h1 h2
  have hz' := scaled_word hf E1 E2 e1 e2 hu
  have hE' : ((E : Int) + e).toNat < 2048 := by omega
  have c := ldexp_core z e w (strike_sign z (by omega)) (order_gt hz isU_dzero (zero_lt_pow h1 1074)) (order_lt hz isU_dmax (low_pow (o := m) (c := 9007199254740991) (N := 1074) (K := 2045) (by omega) (by omega))) (order_eq hz)
    (order_gt hz isU_dnorm (by
      have : ∀ Y : Nat, 53 ≤ Y → 4503599627370496 * 2 ^ 0 < m * 2 ^ Y := fun Y hY => by
        have a1 : 2 ^ 53 ≤ 2 ^ Y := Nat.pow_le_pow_right (by omega) hY
        have a2 : 1 * 2 ^ Y ≤ m * 2 ^ Y := Nat.mul_le_mul_right _ h1
        have a3 : (2 : Nat) ^ 53 = 9007199254740992 := rfl
        omega
      exact this 1074 (by omega)))
    E f (((E : Int) + e).toNat * 4503599627370496 + f) (by omega) (and_2047 E (by omega)) (by rw [hzE]; exact strike_exp E f (by omega) hf) E1 E2 (join_exp _ f hE' hf (by omega)) (times_one hz') e1 e2
  have HC := Lib.hid c
  clear c hu hzE hz
  have HZ : Hid (AtY (((E : Int) + e).toNat * 4503599627370496 + f) m (1074 + e).toNat) := hz'
  clear hz'
  generalize ((E : Int) + e).toNat * 4503599627370496 + f = z' at HC HZ
  go_enter Tryd.func44, Tryd.ntmps44
  go_wp2_with fail
  refine HC.out.mono ?_
  rintro _ _ ⟨rfl, rfl⟩
  go_wp2_with fail
  go_ret
  exact ⟨_, rfl, HZ.out, rfl⟩

end Go.Proofs.YthcccliiokckjaaDoor
