/- The model's text of a single number, of any word. -/
import Derived.Test.YtlhocjoncblocaaRqVT1
import Derived.Test.YtlhocjoncblocaaJq10
import Derived.Test.YtlhocjoncblocaaJq11
import Derived.Test.YtlhocjoncblocaaJq41
import Derived.BigQuiet
namespace Go.Proofs.Ytlhocjoncblocaa
open Go.RowKit Ieee

theorem ba4 (p A B : List UInt8) : (⟨p.toArray⟩ : ByteArray) ++ ⟨A.toArray⟩ ++ ⟨#[112]⟩ ++ ⟨B.toArray⟩ = ⟨(p ++ (A ++ 112 :: B)).toArray⟩ := by
  rw [ba_app, show (⟨#[112]⟩ : ByteArray) = ⟨[112].toArray⟩ from rfl, ba_app, ba_app]
  congr 2
  simp

theorem itoa_len {n : Int} (h1 : -4611686018427387904 ≤ n) (h2 : n ≤ 4611686018427387904) : (Lib.itoa n).length ≤ 21 := by
  unfold Lib.itoa
  split
  · have := decDigits_len (n := n.natAbs) (by omega)
    simp; omega
  · have := decDigits_len (n := n.toNat) (by omega)
    omega

theorem widen_draws {x : Nat} (h : rungOf Ieee.single x < 2139095040) : fCd .f32 .f64 x = 0 := by
  obtain ⟨r, hr⟩ := widen_some (b := x) (not_nan_of_fin (by rw [s_inf]; exact h))
  unfold fCd
  rw [hr]; rfl

theorem cut_zero (neg : Bool) (n d : Nat) : Toward.zero.cut neg n d = n / 2 ^ d := by
  unfold Toward.cut
  by_cases hd : d ≤ n.log2 + 2
  · have hmin : min d (n.log2 + 2) = d := by omega
    simp only [hmin, Nat.one_shiftLeft]
    rfl
  · have hmin : min d (n.log2 + 2) = n.log2 + 2 := by omega
    simp only [hmin, Nat.one_shiftLeft]
    have h1 : n < 2 ^ (n.log2 + 1) := Nat.lt_log2_self
    have h2 : n / 2 ^ d = 0 := Nat.div_eq_of_lt (Nat.lt_of_lt_of_le h1 (Nat.pow_le_pow_right (by omega) (by omega)))
    have h3 : n / 2 ^ (n.log2 + 2) = 0 := Nat.div_eq_of_lt (Nat.lt_of_lt_of_le h1 (Nat.pow_le_pow_right (by omega) (by omega)))
    rw [h2]
    exact h3

/-- A number cut to an integer. -/
theorem toInt_floor {f : Format} {x : Nat} {s : Bool} {U K : Nat} (hL : f.leastPlace = -(K : Int)) (h : isU f x s U) : (f.read x).toInt .zero = some (sgn s (U / 2 ^ K)) := by
  obtain ⟨m, e, h1, h2⟩ := read_isU h
  rw [h1, hL]
  have hcut : Toward.zero.cut s (m <<< (-(K : Int) + (e : Int)).toNat) (-(-(K : Int) + (e : Int))).toNat = U / 2 ^ K := by
    rw [cut_zero, Nat.shiftLeft_eq, ← h2]
    by_cases hke : K ≤ e
    · have a1 : (-(K : Int) + (e : Int)).toNat = e - K := by omega
      have a2 : (-(-(K : Int) + (e : Int))).toNat = 0 := by omega
      rw [a1, a2, Nat.pow_zero, Nat.div_one, show e = (e - K) + K by omega, Nat.pow_add, ← Nat.mul_assoc, Nat.mul_div_cancel _ (Nat.two_pow_pos K), Nat.add_sub_cancel]
    · have a1 : (-(K : Int) + (e : Int)).toNat = 0 := by omega
      have a2 : (-(-(K : Int) + (e : Int))).toNat = K - e := by omega
      rw [a1, a2, Nat.pow_zero, Nat.mul_one]
      conv => rhs; rw [show K = (K - e) + e by omega, Nat.pow_add]
      rw [Nat.mul_div_mul_right _ _ (Nat.two_pow_pos e)]
  simp only [Datum.toInt, Datum.integral, hcut, signed, sgn, Nat.shiftLeft_zero]

theorem AtY.floor {z o N : Nat} (h : AtY z o N) (hk : o * 2 ^ N / 2 ^ 1074 < 16777216) : floatToIntVal .f64 z .i64 = some ((o * 2 ^ N / 2 ^ 1074 : Nat) : Int) := by
  have := toInt_floor (K := 1074) d_lp h
  generalize o * 2 ^ N / 2 ^ 1074 = q at *
  unfold floatToIntVal FloatKind.decode FloatKind.format
  simp only []
  rw [this]
  have e1 : IntKind.i64.min = -9223372036854775808 := by decide +kernel
  have e2 : IntKind.i64.max = 9223372036854775807 := by decide +kernel
  simp only [sgn, e1, e2]
  rw [if_pos ⟨by simp, by simp; omega⟩]
  simp

theorem isU_16m : isU Ieee.double 4715268809856909312 false (16777216 * 2 ^ 1074) := ⟨4715268809856909312, rfl, by rw [d_inf]; omega, by decide +kernel⟩

/-- Whether the number is at least 2^24. -/
theorem AtY.high {z o N : Nat} (h : AtY z o N) : (16777216 * 2 ^ 1074 ≤ o * 2 ^ N → FloatKind.f64.format.order z 4715268809856909312 = some .eq ∨ FloatKind.f64.format.order z 4715268809856909312 = some .gt) ∧
    (o * 2 ^ N < 16777216 * 2 ^ 1074 → FloatKind.f64.format.order z 4715268809856909312 = some .lt) := by
  have e : FloatKind.f64.format.order z 4715268809856909312 = some (compare (sgn false (o * 2 ^ N)) (sgn false (16777216 * 2 ^ 1074))) := order_isU h isU_16m
  generalize o * 2 ^ N = a at *
  generalize 16777216 * 2 ^ 1074 = b at *
  rw [e]
  simp only [sgn, Bool.false_eq_true, if_false]
  constructor
  · intro hab
    by_cases he : a = b
    · left; rw [he, (cmp_eq).2 rfl]
    · right; rw [(cmp_gt).2 (by omega)]
  · intro hab
    rw [(cmp_lt).2 (by omega)]

/-- Whether the number is whole. -/
theorem AtY.whole {z o N q : Nat} (h : AtY z o N) (hq : q = o * 2 ^ N / 2 ^ 1074) (hk : q < 16777216) :
    (o * 2 ^ N = q * 2 ^ 1074 → FloatKind.f64.format.order z (floatOfInt .f64 (q : Int)) = some .eq) ∧
    (o * 2 ^ N ≠ q * 2 ^ 1074 → FloatKind.f64.format.order z (floatOfInt .f64 (q : Int)) = some .gt) := by
  have e : FloatKind.f64.format.order z (floatOfInt .f64 (q : Int)) = some (compare (sgn false (o * 2 ^ N)) (sgn false (q * 2 ^ 1074))) := order_isU h (AtY.ofInt hk)
  have hle : q * 2 ^ 1074 ≤ o * 2 ^ N := by rw [hq]; exact Nat.div_mul_le_self _ _
  generalize o * 2 ^ N = a at *
  generalize q * 2 ^ 1074 = b at *
  rw [e]
  simp only [sgn, Bool.false_eq_true, if_false]
  exact ⟨fun hab => by rw [hab, (cmp_eq).2 rfl], fun hab => by rw [(cmp_gt).2 (by omega)]⟩

theorem odd_wholeK {o N K : Nat} (ho : o % 2 = 1) : (K ≤ N → o * 2 ^ N = o * 2 ^ (N - K) * 2 ^ K) ∧ (N < K → ∀ q, o * 2 ^ N ≠ q * 2 ^ K) := by
  constructor
  · intro h
    rw [Nat.mul_assoc, ← Nat.pow_add, Nat.sub_add_cancel h]
  · intro h q e
    obtain ⟨k, rfl⟩ : ∃ k, K = N + (k + 1) := ⟨K - N - 1, by omega⟩
    rw [Nat.pow_add, Nat.mul_comm (2 ^ N), ← Nat.mul_assoc] at e
    have e2 := Nat.eq_of_mul_eq_mul_right (Nat.two_pow_pos N) e
    rw [Nat.pow_succ, ← Nat.mul_assoc] at e2
    omega
theorem odd_whole {o N : Nat} (ho : o % 2 = 1) : (1074 ≤ N → o * 2 ^ N = o * 2 ^ (N - 1074) * 2 ^ 1074) ∧ (N < 1074 → ∀ q, o * 2 ^ N ≠ q * 2 ^ 1074) := odd_wholeK ho


theorem spec_formatSingle_not (x : Nat) (h : ¬ rungOf Ieee.single x < 2139095040) (w : World) : Calls Try.prog 97 #[.float .f32 x] w (GivesTxt (fmtL x) w) := by
  have e : fmtL x = [] := by unfold fmtL; rw [if_neg h]
  rw [e]
  have H : Hid (decide (rungOf Ieee.single x < 2139095040) = false) := by unfold Hid; rw [decide_eq_false_iff_not]; exact h
  clear h e
  go_enter Try.func97, Try.ntmps97
  go_wp2_with fail
  refine (l1Finite_any x _).mono ?_
  rintro _ _ ⟨n, rfl, rfl⟩
  rw [H.out]
  go_wp2_with fail
  go_ret
  exact ⟨rfl, (Span.refl _ _ _).drewN _⟩

theorem inv_zeroT (neg : Bool) : ∃ y, floatBits .quo .f32 1065353216 (if neg then 2147483648 else 0) = some y ∧ FloatKind.f32.format.order y 0 = some (if neg then .lt else .gt) := by
  cases neg
  · exact ⟨2139095040, by decide +kernel, by decide +kernel⟩
  · exact ⟨4286578688, by decide +kernel, by decide +kernel⟩

theorem read_zeroT {x : Nat} (h : rungOf Ieee.single x = 0) : Ieee.single.read x = Ieee.single.read (if negOf Ieee.single x then 2147483648 else 0) := by
  have e : Ieee.single.read x = .number (negOf Ieee.single x) 0 Ieee.single.leastPlace := by
    unfold Format.read
    simp only []
    rw [show x % Ieee.single.signWeight = 0 from h, if_pos (show (0 : Nat) < Ieee.single.binade by decide)]
    rfl
  rw [e]
  cases negOf Ieee.single x
  · first | rfl | decide +kernel
  · first | rfl | decide +kernel

set_option maxRecDepth 100000 in
theorem spec_formatSingle_zero (x : Nat) (h : rungOf Ieee.single x = 0) (w : World) : Calls Try.prog 97 #[.float .f32 x] w (GivesTxt (fmtL x) w) := by
  have h1 : rungOf Ieee.single x < 2139095040 := by omega
  have hw := read_zeroT h
  have ho2 := order_zero_fin (x := x) (by rw [s_inf]; exact h1)
  rw [if_pos h] at ho2
  obtain ⟨neg, hn⟩ : ∃ b, b = negOf Ieee.single x := ⟨_, rfl⟩
  have e : fmtL x = (if neg then [45] else []) ++ [48] := by unfold fmtL; rw [if_pos h1, h, ← hn]; rfl
  have H1 : Hid (decide (rungOf Ieee.single x < 2139095040) = true) := by unfold Hid; rw [decide_eq_true_iff]; exact h1
  rw [e]
  rw [← hn] at hw
  obtain ⟨y, hy, y3⟩ := inv_zeroT neg
  have hq : floatBits .quo .f32 1065353216 x = some y := by
    rw [← hy]
    show ((Ieee.single.read _).quotient _ (Ieee.single.read x)).map _ = ((Ieee.single.read _).quotient _ (Ieee.single.read _)).map _
    rw [hw]
  have y1 : ∀ w, fAr .quo .f32 1065353216 x w = y := by intro w; simp [fAr, hq]
  have y2 : fDr .quo .f32 1065353216 x = 0 := by simp [fDr, hq]
  have ho2 : FloatKind.f32.format.order x 0 = some .eq := ho2
  clear h e h1 hn hw hq hy
  cases neg
  all_goals
    go_enter Try.func97, Try.ntmps97
    go_wp2_with fail
    refine (l1Finite_any x _).mono ?_
    rintro _ _ ⟨n, rfl, rfl⟩
    rw [H1.out]
    go_wp2_with fail
    go_ret
    exact ⟨rfl, (Span.refl _ _ _).drewN _⟩

theorem aty_of {z o t u K : Nat} (h : isU Ieee.double z false (u * 2 ^ K)) (hu : u = o * 2 ^ t) : isU Ieee.double z false (o * 2 ^ (t + K)) := by
  rw [pow_shift, ← hu]; exact h
theorem div_lt_pow {a c K : Nat} (h : a < c * 2 ^ K) : a / 2 ^ K < c := by
  rw [Nat.div_lt_iff_lt_mul (Nat.two_pow_pos K)]; exact h

theorem low_pow {o c N K : Nat} (h : o < c) (hN : N ≤ K) : o * 2 ^ N < c * 2 ^ K :=
  Nat.lt_of_le_of_lt (Nat.mul_le_mul_left _ (Nat.pow_le_pow_right (by omega) hN)) (Nat.mul_lt_mul_of_pos_right h (Nat.two_pow_pos _))

theorem even_pow {o j : Nat} (hj : 0 < j) : o * 2 ^ j = 2 * (o * 2 ^ (j - 1)) := by
  obtain ⟨k, rfl⟩ : ∃ k, j = k + 1 := ⟨j - 1, by omega⟩
  rw [Nat.pow_succ, Nat.add_sub_cancel]
  simp only [Nat.mul_comm, Nat.mul_left_comm]

set_option maxRecDepth 100000 in
set_option maxHeartbeats 2000000 in
theorem spec_formatSingle_num (x : Nat) (h0 : 0 < rungOf Ieee.single x) (h1 : rungOf Ieee.single x < 2139095040) (w : World) : Calls Try.prog 97 #[.float .f32 x] w (GivesTxt (fmtL x) w) := by
  obtain ⟨r, hr⟩ : ∃ r, r = rungOf Ieee.single x := ⟨_, rfl⟩
  obtain ⟨neg, hn⟩ : ∃ b, b = negOf Ieee.single x := ⟨_, rfl⟩
  obtain ⟨o1, o2, o3, o4⟩ := oddR_lt h0 h1
  have e : fmtL x = (if neg then [45] else []) ++ (Lib.itoa (oddR r : Int) ++ [112] ++ Lib.itoa (powR r)) := by unfold fmtL; rw [if_pos h1, ← hn, ← hr, if_neg (show ¬ r = 0 by omega)]
  have H1 : Hid (decide (rungOf Ieee.single x < 2139095040) = true) := by unfold Hid; rw [decide_eq_true_iff]; exact h1
  have HR := Lib.hid hr
  have HN := Lib.hid hn
  have HF : Hid (rungOf Ieee.single x < 2139095040) := h1
  have ho := order_zero_fin (x := x) (by rw [s_inf]; exact h1)
  rw [e]
  rw [← hr] at h0 h1 o1 o2 o3 o4
  obtain ⟨t, ht⟩ : ∃ t, t = twos (units Ieee.single r) := ⟨_, rfl⟩
  rw [← ht] at o3 o4
  obtain ⟨p, hp⟩ : ∃ p, p = powR r := ⟨_, rfl⟩
  have hp2 : p = (t : Int) - 149 := by rw [hp, ht]; rfl
  obtain ⟨o, hoo⟩ : ∃ o, o = oddR r := ⟨_, rfl⟩
  rw [← hoo] at o1 o2 o4 ⊢
  obtain ⟨LA, hA⟩ : ∃ l, l = Lib.itoa (o : Int) := ⟨_, rfl⟩
  obtain ⟨LB, hB⟩ : ∃ l, l = Lib.itoa (powR r) := ⟨_, rfl⟩
  have l1 : LA.length ≤ 21 := by rw [hA]; exact itoa_len (by omega) (by omega)
  have l2 : LB.length ≤ 21 := by rw [hB]; exact itoa_len (by omega) (by omega)
  rw [← hA, ← hB]
  have HA := Lib.hid hA
  rw [← hp] at hB
  have HB := Lib.hid hB
  have HU := Lib.hid o4
  have HO2 := Lib.hid o2
  have HP := Lib.hid hp2
  rw [← hr, if_neg (show ¬ r = 0 by omega), ← hn] at ho
  have hnan := not_nan_of_fin (x := x) (by rw [s_inf]; exact HF.out)
  have hlt : o < 16777216 := by omega
  have hte : (t : Int) ≤ 277 := by omega
  have p0 : -149 ≤ p := by omega
  have p1 : p ≤ 128 := by omega
  clear e h1 hr hn h0 ht hp hp2 hoo o2 o4 hA hB o1
  cases neg
  all_goals
    simp only [if_true, if_false, Bool.false_eq_true] at ho
    have ho : FloatKind.f32.format.order x 0 = some _ := ho
    go_enter Try.func97, Try.ntmps97
    go_wp2_with fail
    refine (l1Finite_any x _).mono ?_
    rintro _ _ ⟨n, rfl, rfl⟩
    rw [H1.out]
    go_wp2_with fail
    refine (l1Abs_any x _).mono ?_
    rintro _ _ ⟨⟨y, rfl, _, hy⟩, rfl⟩
    obtain ⟨hy1, hy2⟩ := hy hnan
    have hyf : rungOf Ieee.single y < 2139095040 := by rw [hy1]; exact HF.out
    have hd := widen_draws hyf
    have hz : ∀ w, AtY (fCv .f32 .f64 y w) o (t + 925) := fun w => by
      have h := widen_fin w (x := y) (by rw [s_inf]; exact hyf)
      rw [hy1, hy2, ← HR.out] at h
      exact aty_of h HU.out
    have HZ := Lib.hid hz
    clear hz hy hy1 hy2 hyf hnan
    go_wp2_with fail
    clear ho hd
    go_loopw [4, 5] (fun v i wr => ∃ (N z : Nat) (e : Int), v = .float .f64 z ∧ AtY z o N ∧ i = .int .i64 e ∧ e = p + 1074 - (N : Int) ∧ N ≤ t + 925 ∧ (1074 ≤ N ∨ N = t + 925) ∧ wr = w.drewN n) (fun _ i _ => (1000 - intOf i).toNat)
    case atStart => exact ⟨t + 925, _, 0, rfl, HZ.out _, rfl, by have := HP.out; omega, Nat.le_refl _, .inr rfl, rfl⟩
    case round =>
      clear HZ
      obtain ⟨N, z, e, rfl, hz, rfl, he, hN, hN2, rfl⟩ := hrel
      obtain ⟨c1, c2⟩ := hz.high
      by_cases hbig : 16777216 * 2 ^ 1074 ≤ o * 2 ^ N
      · have hor := c1 hbig
        have hN3 : 1075 ≤ N := by
          by_cases h : 1075 ≤ N
          · exact h
          · exfalso
            exact absurd (Nat.lt_of_le_of_lt hbig (low_pow hlt (by omega))) (Nat.lt_irrefl _)
        obtain ⟨M, rfl⟩ : ∃ M, N = M + 1 := ⟨N - 1, by omega⟩
        obtain ⟨z', hq, hz2⟩ := hz.half hlt (by omega)
        have hq1 : ∀ w, fAr .quo .f64 z 4611686018427387904 w = z' := by intro w; simp [fAr, hq]
        have hq2 : fDr .quo .f64 z 4611686018427387904 = 0 := by simp [fDr, hq]
        have HZ2 := Lib.hid hz2
        have HE := Lib.hid he
        have e1 : -149 - 1074 ≤ e := by omega
        have e2 : e ≤ 128 := by omega
        clear hbig c1 c2 hq hz hz2 he
        rcases hor with ho | ho
        all_goals
          go_wp2_with fail
          go_roundw
          case rel => exact ⟨M, z', e + 1, rfl, HZ2.out, rfl, by have := HE.out; omega, by omega, .inl (by omega), by first | rfl | trivial⟩
          case measure => simp [intOf]; omega
      · have ho := c2 (by omega)
        have HZ1 := Lib.hid hz
        have HE := Lib.hid he
        have HS : Hid (o * 2 ^ N < 16777216 * 2 ^ 1074) := by unfold Hid; omega
        clear hbig c1 c2 hz he
        go_wp2_with fail
        obtain ⟨N0, hN0⟩ : ∃ N0, N0 = N := ⟨_, rfl⟩
        go_loopw [4, 5] (fun v i wr => ∃ (N z : Nat) (e : Int), v = .float .f64 z ∧ AtY z o N ∧ i = .int .i64 e ∧ e = p + 1074 - (N : Int) ∧ N ≤ 1300 ∧ o * 2 ^ N < 16777216 * 2 ^ 1074 ∧ wr = w.drewN n) (fun _ i _ => (2000 + intOf i).toNat)
        case atStart => exact ⟨N, z, e, rfl, HZ1.out, rfl, HE.out, by omega, HS.out, rfl⟩
        case round =>
          clear HZ1 HE HS ho hN0 hN hN2
          obtain ⟨N, z, e, rfl, hz, rfl, he, hN, hs, rfl⟩ := hrel
          obtain ⟨q, hq⟩ : ∃ q, q = o * 2 ^ N / 2 ^ 1074 := ⟨_, rfl⟩
          have hq24 : q < 16777216 := by rw [hq]; exact div_lt_pow (a := o * 2 ^ N) (c := 16777216) (K := 1074) hs
          have hti := hz.floor (by rw [← hq]; exact hq24)
          rw [← hq] at hti
          obtain ⟨c1, c2⟩ := hz.whole hq hq24
          obtain ⟨d1, d2⟩ := odd_whole (N := N) HO2.out
          have hcv := fun w' => run_convert_float_int (P := Try.prog) w' 140 3 .f64 .i64 z q (by rw [Try.underlying140]; rfl) Try.underlying3 hti
          by_cases hN4 : N < 1074
          · have ho := c2 (d2 hN4 q)
            obtain ⟨z', hm, hz2⟩ := hz.twice hlt (by omega)
            have hq1 : ∀ w, fAr .mul .f64 z 4611686018427387904 w = z' := by intro w; simp [fAr, hm]
            have hq2 : fDr .mul .f64 z 4611686018427387904 = 0 := by simp [fDr, hm]
            have HZ2 := Lib.hid hz2
            have HE := Lib.hid he
            have HS : Hid (o * 2 ^ (N + 1) < 16777216 * 2 ^ 1074) := low_pow (o := o) (c := 16777216) (N := N + 1) (K := 1074) hlt hN4
            have e1 : -149 ≤ e := by omega
            have e2 : e ≤ 2000 := by omega
            clear hq hti c1 c2 d1 d2 hm hz hz2 he hs
            go_wp2_with fail
            go_roundw
            case rel => exact ⟨N + 1, z', e - 1, rfl, HZ2.out, rfl, by have := HE.out; omega, by omega, HS.out, by first | rfl | trivial⟩
            case measure => simp [intOf]; omega
          · have hqe : q = o * 2 ^ (N - 1074) := by rw [hq, d1 (by omega), Nat.mul_div_cancel _ (Nat.two_pow_pos 1074)]
            have ho := c1 (by rw [hqe]; exact d1 (by omega))
            obtain ⟨j, rfl⟩ : ∃ j, N = j + 1074 := ⟨N - 1074, by omega⟩
            rw [Nat.add_sub_cancel] at hqe
            have HE := Lib.hid he
            have HQ := Lib.hid hqe
            clear hq hti c1 c2 d1 d2 hz he hs hqe
            go_wp2_with fail
            clear ho hcv
            go_loopw [5, 6] (fun i m wr => ∃ (j q : Nat) (e : Int), m = .int .i64 q ∧ q = o * 2 ^ j ∧ q < 16777216 ∧ i = .int .i64 e ∧ e = p - (j : Int) ∧ j ≤ 300 ∧ wr = w.drewN n) (fun i _ _ => (1000 - intOf i).toNat)
            case atStart => exact ⟨j, q, e, rfl, HQ.out, hq24, rfl, by have := HE.out; omega, by omega, rfl⟩
            case round =>
              clear HE HQ hq24 hN hN4
              obtain ⟨j, q, e, rfl, hq, hq24, rfl, he, hj, rfl⟩ := hrel
              by_cases hj0 : 0 < j
              · have hev := even_pow (o := o) hj0
                rw [← hq] at hev
                have b1 : ((q : Int) % 2 == 0) = true := by rw [beq_iff_eq]; omega
                have e1 : -149 - 300 ≤ e := by omega
                have e2 : e ≤ 128 := by omega
                have i0 : (0 : Int) ≤ (q : Int) := by omega
                have HEV := Lib.hid hev
                have HE := Lib.hid he
                clear hq hev he
                go_wp2_with fail
                go_roundw
                case rel => exact ⟨j - 1, q / 2, e + 1, by go_num, by have := HEV.out; omega, by omega, rfl, by have := HE.out; omega, by omega, by first | rfl | trivial⟩
                case measure => simp [intOf]; omega
              · have hj00 : j = 0 := by omega
                subst hj00
                rw [Nat.pow_zero, Nat.mul_one] at hq
                subst hq
                have b1 : ((q : Int) % 2 == 0) = false := by rw [beq_eq_false_iff_ne]; have := HO2.out; omega
                have he2 : e = p := by omega
                clear he hj
                subst he2
                have i0 : (0 : Int) ≤ (q : Int) := by omega
                go_wp2_with fail
                refine (l1Number_any _ (by omega) (by omega) _).mono ?_
                rintro _ w1 ⟨rfl, s1⟩
                have S1 := Lib.hid (s1.after ((Span.refl 0 0 w).drewN n))
                rw [← HA.out]
                clear s1
                go_wp2_with fail
                refine (l1Number_any _ (by omega) (by omega) _).mono ?_
                rintro _ w2 ⟨rfl, s2⟩
                have S2 := Lib.hid (s2.after S1.out)
                rw [← HB.out]
                clear s2
                go_wp2_with fail
                go_ret
                first | exact ⟨congrArg (fun b => Ending.returned (Value.string b)) (ba4 [] LA LB), S2.out⟩ | exact ⟨congrArg (fun b => Ending.returned (Value.string b)) (ba4 [45] LA LB), S2.out⟩

theorem spec_formatSingle (x : Nat) (w : World) : Calls Try.prog 97 #[.float .f32 x] w (GivesTxt (fmtL x) w) := by
  by_cases h1 : rungOf Ieee.single x < 2139095040
  · by_cases h0 : rungOf Ieee.single x = 0
    · exact spec_formatSingle_zero x h0 w
    · exact spec_formatSingle_num x (by omega) h1 w
  · exact spec_formatSingle_not x h1 w

theorem fmtL_len (x : Nat) : (fmtL x).length ≤ 44 := by
  unfold fmtL
  split
  · rename_i h
    have hn : (if negOf Ieee.single x then ([45] : List UInt8) else []).length ≤ 1 := by split <;> simp
    by_cases h0 : rungOf Ieee.single x = 0
    · rw [if_pos h0, List.length_append]
      simp
      omega
    · rw [if_neg h0]
      obtain ⟨o1, _, o3, _⟩ := oddR_lt (by omega) h
      have l1 := itoa_len (n := (oddR (rungOf Ieee.single x) : Int)) (by omega) (by omega)
      have l2 := itoa_len (n := powR (rungOf Ieee.single x)) (by unfold powR; omega) (by unfold powR; omega)
      simp only [List.length_append, List.length_cons, List.length_nil] at hn ⊢
      omega
  · simp

end Go.Proofs.Ytlhocjoncblocaa

namespace Go.Proofs.Ytlhocjoncblocaa
open Go.RowKit

set_option maxRecDepth 100000 in
theorem l8Single_det (x : Nat) : ∃ l : List UInt8, l.length ≤ 44 ∧ ∀ w, Calls Try.prog 83 #[.float .f32 x] w (GivesTxt l w) := by
  cases hn : nanB .f32 x with
  | true =>
    refine ⟨[110, 97, 110], by simp, fun w => ?_⟩
    have ho : FloatKind.f32.format.order x x = none := by rw [order_self, hn]; rfl
    clear hn
    go_enter Try.func83, Try.ntmps83
    go_wp2_with fail
    go_ret
    exact ⟨rfl, Span.refl _ _ _⟩
  | false =>
    have ho : FloatKind.f32.format.order x x = some .eq := by rw [order_self, hn]; rfl
    by_cases h1 : rungOf Ieee.single x < 2139095040
    · refine ⟨fmtL x, fmtL_len x, fun w => ?_⟩
      have H1 : Hid (decide (rungOf Ieee.single x < 2139095040) = true) := by unfold Hid; rw [decide_eq_true_iff]; exact h1
      clear hn h1
      go_enter Try.func83, Try.ntmps83
      go_wp2_with fail
      refine (l1Finite_any x _).mono ?_
      rintro _ _ ⟨n, rfl, rfl⟩
      rw [H1.out]
      clear ho
      go_wp2_with fail
      refine (spec_formatSingle x _).mono ?_
      rintro _ w1 ⟨rfl, s1⟩
      have S1 := Lib.hid (s1.undrawn' (n := n))
      clear s1
      go_wp2_with fail
      go_ret
      exact ⟨rfl, S1.out⟩
    · have H1 : Hid (decide (rungOf Ieee.single x < 2139095040) = false) := by unfold Hid; rw [decide_eq_false_iff_not]; exact h1
      clear hn h1
      by_cases hg : FloatKind.f32.format.order x 0 = some .gt
      · refine ⟨[105, 110, 102], by simp, fun w => ?_⟩
        go_enter Try.func83, Try.ntmps83
        go_wp2_with fail
        refine (l1Finite_any x _).mono ?_
        rintro _ _ ⟨n, rfl, rfl⟩
        rw [H1.out]
        clear ho
        go_wp2_with fail
        go_ret
        exact ⟨rfl, (Span.refl _ _ _).drewN _⟩
      · refine ⟨[45, 105, 110, 102], by simp, fun w => ?_⟩
        have hb : (FloatKind.f32.format.order x 0 == some .gt) = false := by
          rw [beq_eq_false_iff_ne]; exact hg
        rcases ho3 : FloatKind.f32.format.order x 0 with _ | oo
        · clear hb hg
          go_enter Try.func83, Try.ntmps83
          go_wp2_with fail
          refine (l1Finite_any x _).mono ?_
          rintro _ _ ⟨n, rfl, rfl⟩
          rw [H1.out]
          clear ho
          go_wp2_with fail
          go_ret
          exact ⟨rfl, (Span.refl _ _ _).drewN _⟩
        · cases oo
          · clear hb hg
            go_enter Try.func83, Try.ntmps83
            go_wp2_with fail
            refine (l1Finite_any x _).mono ?_
            rintro _ _ ⟨n, rfl, rfl⟩
            rw [H1.out]
            clear ho
            go_wp2_with fail
            go_ret
            exact ⟨rfl, (Span.refl _ _ _).drewN _⟩
          · clear hb hg
            go_enter Try.func83, Try.ntmps83
            go_wp2_with fail
            refine (l1Finite_any x _).mono ?_
            rintro _ _ ⟨n, rfl, rfl⟩
            rw [H1.out]
            clear ho
            go_wp2_with fail
            go_ret
            exact ⟨rfl, (Span.refl _ _ _).drewN _⟩
          · exact absurd ho3 hg

theorem ba_space (a b : List UInt8) : (⟨a.toArray⟩ : ByteArray) ++ ⟨#[32]⟩ ++ ⟨b.toArray⟩ = ⟨(a ++ [32] ++ b).toArray⟩ := by
  rw [show (⟨#[32]⟩ : ByteArray) = ⟨[32].toArray⟩ from rfl, ba_app, ba_app]

theorem l8Point_det (z : Cx) : ∃ l : List UInt8, l.length ≤ 90 ∧ ∀ w, Calls Try.prog 60 #[cxV z] w (GivesTxt l w) := by
  obtain ⟨x, y⟩ := z
  obtain ⟨l1, n1, c1⟩ := l8Single_det x
  obtain ⟨l2, n2, c2⟩ := l8Single_det y
  refine ⟨l1 ++ [32] ++ l2, by simp; omega, fun w => ?_⟩
  have C1 := Lib.hid c1
  have C2 := Lib.hid c2
  clear c1 c2
  unfold cxV
  go_enter Try.func60, Try.ntmps60
  go_wp2_with fail
  refine (C1.out _).mono ?_
  rintro _ w1 ⟨rfl, s1⟩
  have S1 := Lib.hid s1
  clear s1
  go_wp2_with fail
  refine (C2.out _).mono ?_
  rintro _ w2 ⟨rfl, s2⟩
  have S2 := Lib.hid (s2.after S1.out)
  clear s2
  go_wp2_with fail
  go_ret
  exact ⟨congrArg (fun b => Ending.returned (Value.string b)) (ba_space l1 l2), S2.out⟩

theorem l8Int_any (n : Nat) (hn : n ≤ 4194304) (w : World) : Calls Try.prog 61 #[.int .i64 (n : Int)] w (GivesTxt (Lib.itoa (n : Int)) w) := by
  have i0 : (0 : Int) ≤ (n : Int) := by omega
  have i1 : (n : Int) ≤ 4194304 := by omega
  have i2 : ¬ (n : Int) < -9223372036854775807 := by omega
  clear hn
  go_enter Try.func61, Try.ntmps61
  go_wp2_with fail
  refine (l1Number_any (n : Int) (by omega) (by omega) _).mono ?_
  rintro _ w1 ⟨rfl, s1⟩
  have S1 := Lib.hid s1
  clear s1
  go_wp2_with fail
  go_ret
  exact ⟨rfl, S1.out⟩

/-- The text of the store, of the leases. -/
def storeT (f : Cx → List UInt8) (S : List Cx) : List UInt8 := (S.map fun z => f z ++ [59]).flatten
def leaseT (x : Ls) : List UInt8 := Lib.itoa (x.start : Int) ++ [32] ++ Lib.itoa (x.count : Int) ++ [32] ++ Lib.itoa (x.room : Int) ++ (if x.free then [32, 102, 114, 101, 101] else []) ++ [59]
def leasesT (L : List Ls) : List UInt8 := (L.map leaseT).flatten

theorem storeT_succ {f : Cx → List UInt8} {S : List Cx} {k : Nat} {z : Cx} (h : S[k]? = some z) : storeT f (S.take (k + 1)) = storeT f (S.take k) ++ f z ++ [59] := by
  rw [take_snoc_of h]; unfold storeT; simp
theorem leasesT_succ {L : List Ls} {k : Nat} {x : Ls} (h : L[k]? = some x) : leasesT (L.take (k + 1)) = leasesT (L.take k) ++ leaseT x := by
  rw [take_snoc_of h]; unfold leasesT; simp
theorem storeT_len {f : Cx → List UInt8} (hf : ∀ z, (f z).length ≤ 90) : ∀ S : List Cx, (storeT f S).length ≤ 91 * S.length
  | [] => by simp [storeT]
  | z :: S => by
    have := storeT_len hf S
    have := hf z
    unfold storeT at *
    simp only [List.map_cons, List.flatten_cons, List.length_append, List.length_cons, List.length_nil] at *
    omega
theorem leaseT_len {x : Ls} (h : x.start ≤ 4194304 ∧ x.count ≤ 4194304 ∧ x.room ≤ 4194304) : (leaseT x).length ≤ 71 := by
  have l1 := itoa_len (n := (x.start : Int)) (by omega) (by omega)
  have l2 := itoa_len (n := (x.count : Int)) (by omega) (by omega)
  have l3 := itoa_len (n := (x.room : Int)) (by omega) (by omega)
  have l4 : (if x.free then ([32, 102, 114, 101, 101] : List UInt8) else []).length ≤ 5 := by split <;> simp
  unfold leaseT
  simp only [List.length_append, List.length_cons, List.length_nil] at l4 ⊢
  omega
theorem leasesT_len : ∀ L : List Ls, (∀ x ∈ L, x.start ≤ 4194304 ∧ x.count ≤ 4194304 ∧ x.room ≤ 4194304) → (leasesT L).length ≤ 71 * L.length
  | [], _ => by simp [leasesT]
  | x :: L, h => by
    have := leasesT_len L (fun y hy => h y (List.mem_cons_of_mem _ hy))
    have := leaseT_len (h x (List.mem_cons_self ..))
    unfold leasesT at *
    simp only [List.map_cons, List.flatten_cons, List.length_append, List.length_cons] at *
    omega

theorem VP.small {p : Pl} (h : VP p) : ∀ x ∈ p.2, x.start ≤ 256 ∧ x.count ≤ 256 ∧ x.room ≤ 256 := by
  intro x hx
  have := h.size
  cases hf : x.free with
  | true => obtain ⟨a, b, c⟩ := (h.ok x hx).fr hf; omega
  | false => obtain ⟨a, b, c⟩ := (h.ok x hx).lent hf; omega

theorem ba_semi (a b : List UInt8) : (⟨a.toArray⟩ : ByteArray) ++ ⟨b.toArray⟩ ++ ⟨#[59]⟩ = ⟨(a ++ b ++ [59]).toArray⟩ := by
  rw [show (⟨#[59]⟩ : ByteArray) = ⟨[59].toArray⟩ from rfl, ba_app, ba_app]

theorem ba_leaseT (a s c r : List UInt8) : (⟨a.toArray⟩ : ByteArray) ++ ⟨s.toArray⟩ ++ ⟨#[32]⟩ ++ ⟨c.toArray⟩ ++ ⟨#[32]⟩ ++ ⟨r.toArray⟩ ++ ⟨#[32, 102, 114, 101, 101]⟩ ++ ⟨#[59]⟩ = ⟨(a ++ (s ++ [32] ++ c ++ [32] ++ r ++ (if true = true then [32, 102, 114, 101, 101] else []) ++ [59])).toArray⟩ := by
  rw [show (⟨#[32]⟩ : ByteArray) = ⟨[32].toArray⟩ from rfl, show (⟨#[59]⟩ : ByteArray) = ⟨[59].toArray⟩ from rfl, show (⟨#[32, 102, 114, 101, 101]⟩ : ByteArray) = ⟨[32, 102, 114, 101, 101].toArray⟩ from rfl]
  simp only [ba_app, if_true, List.append_assoc]
theorem ba_leaseF (a s c r : List UInt8) : (⟨a.toArray⟩ : ByteArray) ++ ⟨s.toArray⟩ ++ ⟨#[32]⟩ ++ ⟨c.toArray⟩ ++ ⟨#[32]⟩ ++ ⟨r.toArray⟩ ++ ⟨#[59]⟩ = ⟨(a ++ (s ++ [32] ++ c ++ [32] ++ r ++ (if false = true then [32, 102, 114, 101, 101] else []) ++ [59])).toArray⟩ := by
  rw [show (⟨#[32]⟩ : ByteArray) = ⟨[32].toArray⟩ from rfl, show (⟨#[59]⟩ : ByteArray) = ⟨[59].toArray⟩ from rfl]
  simp only [ba_app, Bool.false_eq_true, if_false, List.nil_append, List.append_assoc]
end Go.Proofs.Ytlhocjoncblocaa
