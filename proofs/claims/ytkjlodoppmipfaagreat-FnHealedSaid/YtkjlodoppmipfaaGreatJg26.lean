/- Absolute values and greater ones, by bits. -/
import Derived.Test.YtkjlodoppmipfaaGreatJg25
import Derived.Test.YtkjlodoppmipfaaGreatJg8
import Derived.Test.YtkjlodoppmipfaaGreatJg9
import Derived.Outline
namespace Go.Proofs.YtkjlodoppmipfaaGreat
open Go.RowKit Ieee

theorem uNext (f : Format) (r : Nat) : units f r < units f (r + 1) := by
  have hb := binade_pos f
  generalize hB : f.binade = B at hb
  unfold units
  rw [hB]
  by_cases h1 : r + 1 < B
  · rw [if_pos h1, if_pos (by omega)]; omega
  · rw [if_neg h1]
    by_cases h2 : r < B
    · have : r + 1 = B := by omega
      rw [if_pos h2, this, Nat.mod_self, Nat.div_self hb]
      simp; omega
    · rw [if_neg h2]
      by_cases h3 : r % B + 1 = B
      · have e0 : r + 1 = B * (r / B + 1) := by
          have h4 := Nat.div_add_mod r B
          rw [Nat.mul_add]; omega
        have e1 : (r + 1) % B = 0 := by rw [e0, Nat.mul_mod_right]
        have e2 : (r + 1) / B = r / B + 1 := by
          have h4 := Nat.div_add_mod r B
          have h5 : r + 1 = B * (r / B + 1) := by rw [Nat.mul_add]; omega
          rw [h5, Nat.mul_div_cancel_left _ hb]
        have hd : 1 ≤ r / B := (Nat.le_div_iff_mul_le hb).2 (by omega)
        rw [e1, e2, Nat.add_zero, Nat.add_sub_cancel]
        obtain ⟨k, hk⟩ : ∃ k, r / B = k + 1 := ⟨r / B - 1, by omega⟩
        rw [hk, Nat.add_sub_cancel, Nat.pow_succ, ← Nat.mul_assoc, Nat.mul_right_comm]
        exact Nat.mul_lt_mul_of_pos_right (by omega) (Nat.two_pow_pos _)
      · have hm : r % B < B := Nat.mod_lt _ hb
        have e2 : (r + 1) / B = r / B := by
          have h4 := Nat.div_add_mod r B
          refine Nat.div_eq_of_lt_le ?_ ?_
          · rw [Nat.mul_comm]; omega
          · rw [Nat.mul_comm, Nat.mul_add]; omega
        have e1 : (r + 1) % B = r % B + 1 := by
          have h4 := Nat.div_add_mod r B
          have h5 := Nat.div_add_mod (r + 1) B
          rw [e2] at h5
          omega
        rw [e1, e2]
        exact Nat.mul_lt_mul_of_pos_right (by omega) (Nat.two_pow_pos _)
theorem uLt (f : Format) {r s : Nat} (h : r < s) : units f r < units f s := by
  induction s with
  | zero => omega
  | succ s ih =>
    by_cases e : r = s
    · subst e; exact uNext f r
    · exact Nat.lt_trans (ih (by omega)) (uNext f s)

/-- Without the sign. -/
def sizeB (p : Nat) : Nat := p % 2147483648
/-- The greater one of a level and the size of a part that is a number. -/
def raiseN (l p : Nat) : Nat := if nanB .f32 p then l else max l (sizeB p)

theorem sizeB_rung (p : Nat) : rungOf Ieee.single p = sizeB p := by unfold rungOf sizeB; rw [s_sw]

theorem nan_size {p : Nat} (h : nanB .f32 p = false) : sizeB p ≤ 2139095040 := by
  rw [← sizeB_rung]
  rcases Nat.lt_or_ge 2139095040 (rungOf Ieee.single p) with h1 | h1
  · have := nan_of_rung h1; rw [h] at this; cases this
  · exact h1
theorem size_nan {p : Nat} (h : sizeB p ≤ 2139095040) : nanB .f32 p = false := by
  rw [← sizeB_rung] at h
  cases hn : nanB .f32 p with
  | false => rfl
  | true => have := nan_rung hn; omega

theorem raiseN_le {l p : Nat} (hl : l ≤ 2139095040) : raiseN l p ≤ 2139095040 := by
  unfold raiseN
  cases h : nanB .f32 p with
  | true => simpa using hl
  | false => have := nan_size h; simp; omega

/-- Numbers without a sign stand to each other as their bits. -/
theorem order_bits {a b : Nat} (ha : a ≤ 2139095040) (hb : b ≤ 2139095040) : FloatKind.f32.format.order a b = some (compare (a : Int) (b : Int)) := by
  show Ieee.single.order a b = _
  have ra : rungOf Ieee.single a = a := by unfold rungOf; rw [s_sw]; exact Nat.mod_eq_of_lt (by omega)
  have rb : rungOf Ieee.single b = b := by unfold rungOf; rw [s_sw]; exact Nat.mod_eq_of_lt (by omega)
  have na : negOf Ieee.single a = false := by unfold negOf; rw [s_sw, Nat.div_eq_of_lt (by omega)]; rfl
  have nb : negOf Ieee.single b = false := by unfold negOf; rw [s_sw, Nat.div_eq_of_lt (by omega)]; rfl
  rcases Nat.lt_or_ge a 2139095040 with h1 | h1
  · rcases Nat.lt_or_ge b 2139095040 with h2 | h2
    · rw [order_rung _ (by rw [ra, s_inf]; exact h1) (by rw [rb, s_inf]; exact h2), ra, rb, na, nb]
      congr 1
      show compare ((units Ieee.single a : Nat) : Int) ((units Ieee.single b : Nat) : Int) = _
      rcases Nat.lt_trichotomy a b with h | h | h
      · have := uLt Ieee.single h
        rw [(cmp_lt).2 (by omega), (cmp_lt).2 (by omega)]
      · subst h; rw [(cmp_eq).2 rfl, (cmp_eq).2 rfl]
      · have := uLt Ieee.single h
        rw [(cmp_gt).2 (by omega), (cmp_gt).2 (by omega)]
    · have eb : b = 2139095040 := by omega
      obtain ⟨m, e, hr, _⟩ := read_fin Ieee.single (b := a) (by rw [ra, s_inf]; exact h1)
      rw [order_inf_right ⟨_, _, _, hr⟩ (read_inf Ieee.single s_eb (by rw [rb, s_inf]; exact eb)), nb]
      rw [(cmp_lt).2 (by omega)]
      rfl
  · have ea : a = 2139095040 := by omega
    rcases Nat.lt_or_ge b 2139095040 with h2 | h2
    · obtain ⟨m, e, hr, _⟩ := read_fin Ieee.single (b := b) (by rw [rb, s_inf]; exact h2)
      rw [order_inf_left (read_inf Ieee.single s_eb (by rw [ra, s_inf]; exact ea)) ⟨_, _, _, hr⟩, na]
      rw [(cmp_gt).2 (by omega)]
      rfl
    · have eb : b = 2139095040 := by omega
      subst ea; subst eb
      decide +kernel

/-- A number that is widened, made positive, and narrowed again. -/
theorem narrow_abs {p : Nat} (hp : p < 4294967296) (hn : nanB .f32 p = false) (w w' : World) : (fCv .f32 .f64 p w < 18446744073709551616 ∧ (p < 2147483648 → fCv .f32 .f64 p w < 9223372036854775808)) ∧ fCv .f64 .f32 (fCv .f32 .f64 p w % 9223372036854775808) w' = sizeB p := by
  have hs := nan_size hn
  rcases Nat.lt_or_ge (sizeB p) 2139095040 with h1 | h1
  · have hf : rungOf Ieee.single p < Ieee.single.infRung := by rw [sizeB_rung, s_inf]; exact h1
    obtain ⟨r, hz, hr, hu⟩ := widen_fin w hf
    have hr' := hr
    rw [d_inf] at hr'
    have e : fCv .f32 .f64 p w % 9223372036854775808 = r ∧ fCv .f32 .f64 p w < 18446744073709551616 ∧ (p < 2147483648 → fCv .f32 .f64 p w < 9223372036854775808) := by
      rw [hz]
      cases hg : negOf Ieee.single p with
      | false => show r % _ = r ∧ r < _ ∧ (_ → r < _); omega
      | true =>
        show (Ieee.double.signWeight + r) % _ = r ∧ Ieee.double.signWeight + r < _ ∧ (_ → Ieee.double.signWeight + r < _)
        rw [d_sw]
        refine ⟨by omega, by omega, fun h => ?_⟩
        unfold negOf at hg
        rw [s_sw, Nat.div_eq_of_lt (by omega)] at hg
        cases hg
    refine ⟨e.2, ?_⟩
    rw [e.1]
    have hU : isU Ieee.double r false (units Ieee.single (rungOf Ieee.single p) * 2 ^ (0 + 925)) := ⟨r, rfl, hr, by rw [hu, Nat.zero_add]⟩
    have n := narrow hU (by rw [Nat.pow_zero, Nat.mul_one]) hf
    unfold fCv
    rw [n]
    show rungOf Ieee.single p = _
    exact sizeB_rung p
  · have e : p = 2139095040 ∨ p = 4286578688 := by unfold sizeB at *; omega
    have n : floatToFloatBits .f64 9218868437227405312 .f32 = some 2139095040 := by decide +kernel
    rcases e with rfl | rfl
    · have m : floatToFloatBits .f32 2139095040 .f64 = some 9218868437227405312 := by decide +kernel
      have hm : fCv .f32 .f64 2139095040 w = 9218868437227405312 := by unfold fCv; rw [m]
      rw [hm]
      refine ⟨by omega, ?_⟩
      rw [show 9218868437227405312 % 9223372036854775808 = 9218868437227405312 by decide]
      unfold fCv; rw [n]; show 2139095040 = sizeB _; decide
    · have m : floatToFloatBits .f32 4286578688 .f64 = some 18442240474082181120 := by decide +kernel
      have hm : fCv .f32 .f64 4286578688 w = 18442240474082181120 := by unfold fCv; rw [m]
      rw [hm]
      refine ⟨by omega, ?_⟩
      rw [show 18442240474082181120 % 9223372036854775808 = 9218868437227405312 by decide]
      unfold fCv; rw [n]; show 2139095040 = sizeB _; decide

theorem nan_abs {p : Nat} (hn : nanB .f32 p = true) (w : World) : fCv .f32 .f64 p w < 18446744073709551616 ∧ nanB .f64 (fCv .f32 .f64 p w % 9223372036854775808) = true := by
  obtain ⟨sg, t, he⟩ := (isNaN_cases _).1 hn
  have hq : floatToFloatBits .f32 p .f64 = none := by simp [floatToFloatBits, he]
  have key : ∀ t : Nat, ((t % 2) * 2 ^ 63 + 0x7ff0000000000000 + 1 + (t / 2) % (2 ^ 52 - 1)) < 18446744073709551616 ∧ nanB .f64 (((t % 2) * 2 ^ 63 + 0x7ff0000000000000 + 1 + (t / 2) % (2 ^ 52 - 1)) % 9223372036854775808) = true := by
    intro t
    have h2 : (t / 2) % (2 ^ 52 - 1) < 2 ^ 52 - 1 := Nat.mod_lt _ (by decide)
    have h3 := nanB_cut64 (2 * ((t / 2) % (2 ^ 52 - 1)))
    have e1 : 2 * ((t / 2) % (2 ^ 52 - 1)) % 2 = 0 := by omega
    have e2 : 2 * ((t / 2) % (2 ^ 52 - 1)) / 2 = (t / 2) % (2 ^ 52 - 1) := by omega
    rw [e1, e2, Nat.mod_eq_of_lt h2] at h3
    refine ⟨by omega, ?_⟩
    have e3 : ((t % 2) * 2 ^ 63 + 0x7ff0000000000000 + 1 + (t / 2) % (2 ^ 52 - 1)) % 9223372036854775808 = 0 * 2 ^ 63 + 0x7ff0000000000000 + 1 + (t / 2) % (2 ^ 52 - 1) := by omega
    rw [e3]
    exact h3
  unfold fCv
  rw [hq]
  simp only []
  have hn' : (FloatKind.f32.decode p).isNaN = true := hn
  rw [if_pos hn']
  exact key _

theorem strikeS (x : Nat) (hx : x < 18446744073709551616) : bits .andNot .u64 (x : Int) 9223372036854775808 = ((x % 9223372036854775808 : Nat) : Int) := by
  unfold bits
  have hb64 : IntKind.u64.bits = 64 := rfl
  rw [hb64]
  have e8 : (9223372036854775808 : Int) = ((9223372036854775808 : Nat) : Int) := rfl
  rw [e8]
  simp only [BitVec.ofInt_natCast]
  have hm : (BitVec.ofNat 64 x &&& ~~~(BitVec.ofNat 64 9223372036854775808)).toNat = x % 9223372036854775808 := by
    rw [BitVec.toNat_and, BitVec.toNat_not, BitVec.toNat_ofNat, BitVec.toNat_ofNat]
    have e1 : x % 2 ^ 64 = x := Nat.mod_eq_of_lt (by omega)
    rw [e1]
    have e : 2 ^ 64 - 1 - 9223372036854775808 % 2 ^ 64 = 2 ^ 63 - 1 := by decide
    rw [e, Nat.and_two_pow_sub_one_eq_mod]
  rw [hm, IntKind.wrap_u64]
  have : x % 9223372036854775808 < 9223372036854775808 := Nat.mod_lt _ (by omega)
  omega

theorem float64bits_run (x : Nat) (w : World) : (callFunc 184 #[.float .f64 x]).run Tryz.prog w = .ok (.value (.int .u64 x)) w :=
  (run_callFunc_extern (P := Tryz.prog) (f := 184) (fn := Tryz.f184) (e := Extern.MathFloatBits.float64bits) Tryz.func184 (by kernel_rfl) (by kernel_rfl) (by kernel_rfl) (by kernel_rfl) #[.float .f64 x] w).trans rfl
theorem float64frombits_run (n : Int) (w : World) : (callFunc 186 #[.int .u64 n]).run Tryz.prog w = .ok (.value (.float .f64 n.toNat)) w :=
  (run_callFunc_extern (P := Tryz.prog) (f := 186) (fn := Tryz.f186) (e := Extern.MathFloatBits.float64frombits) Tryz.func186 (by kernel_rfl) (by kernel_rfl) (by kernel_rfl) (by kernel_rfl) #[.int .u64 n] w).trans rfl

set_option maxRecDepth 100000 in
theorem abs_mod (z : Nat) (hz : z < 18446744073709551616) (w : World) : Calls Tryz.prog 185 #[.float .f64 z] w fun e w' => e = .returned (.float .f64 (z % 9223372036854775808)) ∧ w = w' := by
  have hb := float64bits_run
  have hfb := float64frombits_run
  have ha := strikeS z hz
  obtain ⟨q, hq⟩ : ∃ q, q = z % 9223372036854775808 := ⟨_, rfl⟩
  rw [← hq] at ha ⊢
  clear hq hz
  go_enter Tryz.func185, Tryz.ntmps185
  go_wp2_with fail
  go_ret
  exact ⟨by simp, rfl⟩

set_option maxRecDepth 100000 in
theorem signbit_no (z : Nat) (hz : z < 9223372036854775808) (w : World) : Calls Tryz.prog 182 #[.float .f64 z] w fun e w' => e = .returned (.bool false) ∧ w = w' := by
  have hb := float64bits_run z
  have hw : wrap64 (z : Int) = (z : Int) := by unfold wrap64; omega
  have hc : decide ((z : Int) < 0) = false := by rw [decide_eq_false_iff_not]; omega
  clear hz
  go_enter Tryz.func182, Tryz.ntmps182
  go_wp2_with fail
  go_ret
  exact ⟨rfl, rfl⟩

set_option maxRecDepth 100000 in
theorem raised_any (l p : Nat) (hl : l ≤ 2139095040) (hp : p < 4294967296) (w : World) : Calls Tryz.prog 183 #[.float .f32 l, .float .f32 p] w fun e w' => e = .returned (.float .f32 (raiseN l p)) ∧ ∃ n, w' = w.drewN n := by
  cases hn : nanB .f32 p with
  | true =>
    have hr : raiseN l p = l := by unfold raiseN; rw [hn]; rfl
    rw [hr]
    have HA := Lib.hid (nan_abs hn)
    have ho : ∀ w w', FloatKind.f32.format.order (fCv .f64 .f32 (fCv .f32 .f64 p w % 9223372036854775808) w') l = none := fun w w' => order_nan_left (nanB_of_cv w' (by simp) (nan_abs hn w).2)
    clear hn hr hl hp
    go_enter Tryz.func183, Tryz.ntmps183
    go_wp2_with fail
    refine (abs_mod _ (HA.out _).1 _).mono ?_
    rintro _ _ ⟨rfl, rfl⟩
    go_wp2_with fail
    go_ret
    exact ⟨rfl, _, rfl⟩
  | false =>
    have hs := nan_size hn
    have HA := Lib.hid (fun w => (narrow_abs hp hn w w).1.1)
    have hE : ∀ w w', fCv .f64 .f32 (fCv .f32 .f64 p w % 9223372036854775808) w' = sizeB p := fun w w' => (narrow_abs hp hn w w').2
    have hr : raiseN l p = max l (sizeB p) := by unfold raiseN; rw [hn]; rfl
    rw [hr]
    have ho := order_bits hs hl
    obtain ⟨q, hq⟩ : ∃ q, q = sizeB p := ⟨_, rfl⟩
    rw [← hq] at ho hE ⊢
    rcases Nat.lt_trichotomy q l with h | h | h
    · rw [(cmp_lt).2 (by omega)] at ho
      have hm : max l q = l := by omega
      rw [hm]
      clear hn hr hl hp hs hq hm h
      go_enter Tryz.func183, Tryz.ntmps183
      go_wp2_with fail
      refine (abs_mod _ (HA.out _) _).mono ?_
      rintro _ _ ⟨rfl, rfl⟩
      go_wp2_with fail
      go_ret
      exact ⟨rfl, _, rfl⟩
    · rw [(cmp_eq).2 (by omega)] at ho
      have hm : max l q = l := by omega
      rw [hm]
      clear hn hr hl hp hs hq hm h
      go_enter Tryz.func183, Tryz.ntmps183
      go_wp2_with fail
      refine (abs_mod _ (HA.out _) _).mono ?_
      rintro _ _ ⟨rfl, rfl⟩
      go_wp2_with fail
      go_ret
      exact ⟨rfl, _, rfl⟩
    · rw [(cmp_gt).2 (by omega)] at ho
      have hm : max l q = q := by omega
      rw [hm]
      clear hn hr hl hp hs hq hm h
      go_enter Tryz.func183, Tryz.ntmps183
      go_wp2_with fail
      refine (abs_mod _ (HA.out _) _).mono ?_
      rintro _ _ ⟨rfl, rfl⟩
      go_wp2_with fail
      go_ret
      exact ⟨rfl, _, rfl⟩
end Go.Proofs.YtkjlodoppmipfaaGreat
