/- The model's text of a single number, of any word. -/
import Derived.Test.YtfafkdpefdpnkaaJq52
import Derived.Test.YtfafkdpefdpnkaaJq7
import Derived.Test.YtfafkdpefdpnkaaJq8
namespace Go.Proofs.Ytfafkdpefdpnkaa
open Go.RowKit Ieee

theorem ba4 (p A B : List UInt8) : (⟨p.toArray⟩ : ByteArray) ++ ⟨A.toArray⟩ ++ ⟨#[112]⟩ ++ ⟨B.toArray⟩ = ⟨(p ++ (A ++ 112 :: B)).toArray⟩ := by
  rw [ba_app, show (⟨#[112]⟩ : ByteArray) = ⟨[112].toArray⟩ from rfl, ba_app, ba_app]
  congr 2
  simp

theorem itoa_len {n : Int} (h1 : -4611686018427387904 ≤ n) (h2 : n ≤ 4611686018427387904) : (Lib.itoa n).length ≤ 21 := by
  unfold Lib.itoa
  split
  · have := decDigits_len (n := n.natAbs) (by omega)
    simp; omega
  · have := decDigits_len (n := n.toNat) (by omega)
    omega

theorem widen_draws {x : Nat} (h : rungOf Ieee.single x < 2139095040) : fCd .f32 .f64 x = 0 := by
  obtain ⟨r, hr⟩ := widen_some (b := x) (not_nan_of_fin (by rw [s_inf]; exact h))
  unfold fCd
  rw [hr]; rfl

theorem cut_zero (neg : Bool) (n d : Nat) : Toward.zero.cut neg n d = n / 2 ^ d := by
  unfold Toward.cut
  by_cases hd : d ≤ n.log2 + 2
  · have hmin : min d (n.log2 + 2) = d := by omega
    simp only [hmin, Nat.one_shiftLeft]
    rfl
  · have hmin : min d (n.log2 + 2) = n.log2 + 2 := by omega
    simp only [hmin, Nat.one_shiftLeft]
    have h1 : n < 2 ^ (n.log2 + 1) := Nat.lt_log2_self
    have h2 : n / 2 ^ d = 0 := Nat.div_eq_of_lt (Nat.lt_of_lt_of_le h1 (Nat.pow_le_pow_right (by omega) (by omega)))
    have h3 : n / 2 ^ (n.log2 + 2) = 0 := Nat.div_eq_of_lt (Nat.lt_of_lt_of_le h1 (Nat.pow_le_pow_right (by omega) (by omega)))
    rw [h2]
    exact h3

/-- A number cut to an integer. -/
theorem toInt_floor {f : Format} {x : Nat} {s : Bool} {U K : Nat} (hL : f.leastPlace = -(K : Int)) (h : isU f x s U) : (f.read x).toInt .zero = some (sgn s (U / 2 ^ K)) := by
  obtain ⟨m, e, h1, h2⟩ := read_isU h
  rw [h1, hL]
  have hcut : Toward.zero.cut s (m <<< (-(K : Int) + (e : Int)).toNat) (-(-(K : Int) + (e : Int))).toNat = U / 2 ^ K := by
    rw [cut_zero, Nat.shiftLeft_eq, ← h2]
    by_cases hke : K ≤ e
    · have a1 : (-(K : Int) + (e : Int)).toNat = e - K := by omega
      have a2 : (-(-(K : Int) + (e : Int))).toNat = 0 := by omega
      rw [a1, a2, Nat.pow_zero, Nat.div_one, show e = (e - K) + K by omega, Nat.pow_add, ← Nat.mul_assoc, Nat.mul_div_cancel _ (Nat.two_pow_pos K), Nat.add_sub_cancel]
    · have a1 : (-(K : Int) + (e : Int)).toNat = 0 := by omega
      have a2 : (-(-(K : Int) + (e : Int))).toNat = K - e := by omega
      rw [a1, a2, Nat.pow_zero, Nat.mul_one]
      conv => rhs; rw [show K = (K - e) + e by omega, Nat.pow_add]
      rw [Nat.mul_div_mul_right _ _ (Nat.two_pow_pos e)]
  simp only [Datum.toInt, Datum.integral, hcut, signed, sgn, Nat.shiftLeft_zero]

theorem AtY.floor {z o N : Nat} (h : AtY z o N) (hk : o * 2 ^ N / 2 ^ 1074 < 16777216) : floatToIntVal .f64 z .i64 = some ((o * 2 ^ N / 2 ^ 1074 : Nat) : Int) := by
  have := toInt_floor (K := 1074) d_lp h
  generalize o * 2 ^ N / 2 ^ 1074 = q at *
  unfold floatToIntVal FloatKind.decode FloatKind.format
  simp only []
  rw [this]
  have e1 : IntKind.i64.min = -9223372036854775808 := by decide +kernel
  have e2 : IntKind.i64.max = 9223372036854775807 := by decide +kernel
  simp only [sgn, e1, e2]
  rw [if_pos ⟨by simp, by simp; omega⟩]
  simp

theorem isU_16m : isU Ieee.double 4715268809856909312 false (16777216 * 2 ^ 1074) := ⟨4715268809856909312, rfl, by rw [d_inf]; omega, by decide +kernel⟩

/-- Whether the number is at least 2^24. -/
theorem AtY.high {z o N : Nat} (h : AtY z o N) : (16777216 * 2 ^ 1074 ≤ o * 2 ^ N → FloatKind.f64.format.order z 4715268809856909312 = some .eq ∨ FloatKind.f64.format.order z 4715268809856909312 = some .gt) ∧
    (o * 2 ^ N < 16777216 * 2 ^ 1074 → FloatKind.f64.format.order z 4715268809856909312 = some .lt) := by
  have e : FloatKind.f64.format.order z 4715268809856909312 = some (compare (sgn false (o * 2 ^ N)) (sgn false (16777216 * 2 ^ 1074))) := order_isU h isU_16m
  generalize o * 2 ^ N = a at *
  generalize 16777216 * 2 ^ 1074 = b at *
  rw [e]
  simp only [sgn, Bool.false_eq_true, if_false]
  constructor
  · intro hab
    by_cases he : a = b
    · left; rw [he, (cmp_eq).2 rfl]
    · right; rw [(cmp_gt).2 (by omega)]
  · intro hab
    rw [(cmp_lt).2 (by omega)]

/-- Whether the number is whole. -/
theorem AtY.whole {z o N q : Nat} (h : AtY z o N) (hq : q = o * 2 ^ N / 2 ^ 1074) (hk : q < 16777216) :
    (o * 2 ^ N = q * 2 ^ 1074 → FloatKind.f64.format.order z (floatOfInt .f64 (q : Int)) = some .eq) ∧
    (o * 2 ^ N ≠ q * 2 ^ 1074 → FloatKind.f64.format.order z (floatOfInt .f64 (q : Int)) = some .gt) := by
  have e : FloatKind.f64.format.order z (floatOfInt .f64 (q : Int)) = some (compare (sgn false (o * 2 ^ N)) (sgn false (q * 2 ^ 1074))) := order_isU h (AtY.ofInt hk)
  have hle : q * 2 ^ 1074 ≤ o * 2 ^ N := by rw [hq]; exact Nat.div_mul_le_self _ _
  generalize o * 2 ^ N = a at *
  generalize q * 2 ^ 1074 = b at *
  rw [e]
  simp only [sgn, Bool.false_eq_true, if_false]
  exact ⟨fun hab => by rw [hab, (cmp_eq).2 rfl], fun hab => by rw [(cmp_gt).2 (by omega)]⟩

theorem odd_wholeK {o N K : Nat} (ho : o % 2 = 1) : (K ≤ N → o * 2 ^ N = o * 2 ^ (N - K) * 2 ^ K) ∧ (N < K → ∀ q, o * 2 ^ N ≠ q * 2 ^ K) := by
  constructor
  · intro h
    rw [Nat.mul_assoc, ← Nat.pow_add, Nat.sub_add_cancel h]
  · intro h q e
    obtain ⟨k, rfl⟩ : ∃ k, K = N + (k + 1) := ⟨K - N - 1, by omega⟩
    rw [Nat.pow_add, Nat.mul_comm (2 ^ N), ← Nat.mul_assoc] at e
    have e2 := Nat.eq_of_mul_eq_mul_right (Nat.two_pow_pos N) e
    rw [Nat.pow_succ, ← Nat.mul_assoc] at e2
    omega
theorem odd_whole {o N : Nat} (ho : o % 2 = 1) : (1074 ≤ N → o * 2 ^ N = o * 2 ^ (N - 1074) * 2 ^ 1074) ∧ (N < 1074 → ∀ q, o * 2 ^ N ≠ q * 2 ^ 1074) := odd_wholeK ho


theorem spec_formatSingle_not (x : Nat) (h : ¬ rungOf Ieee.single x < 2139095040) (w : World) : Calls Try.prog 76 #[.float .f32 x] w (GivesTxt (fmtL x) w) := by
  have e : fmtL x = [] := by unfold fmtL; rw [if_neg h]
  rw [e]
  have H : Hid (decide (rungOf Ieee.single x < 2139095040) = false) := by unfold Hid; rw [decide_eq_false_iff_not]; exact h
  clear h e
  go_enter Try.func76, Try.ntmps76
  go_wp2_with fail
  refine (l1Finite_any x _).mono ?_
  rintro _ _ ⟨n, rfl, rfl⟩
  rw [H.out]
  go_wp2_with fail
  go_ret
  exact ⟨rfl, (Span.refl _ _ _).drewN _⟩

theorem inv_zeroT (neg : Bool) : ∃ y, floatBits .quo .f32 1065353216 (if neg then 2147483648 else 0) = some y ∧ FloatKind.f32.format.order y 0 = some (if neg then .lt else .gt) := by
  cases neg
  · exact ⟨2139095040, by decide +kernel, by decide +kernel⟩
  · exact ⟨4286578688, by decide +kernel, by decide +kernel⟩

theorem read_zeroT {x : Nat} (h : rungOf Ieee.single x = 0) : Ieee.single.read x = Ieee.single.read (if negOf Ieee.single x then 2147483648 else 0) := by
  have e : Ieee.single.read x = .number (negOf Ieee.single x) 0 Ieee.single.leastPlace := by
    unfold Format.read
    simp only []
    rw [show x % Ieee.single.signWeight = 0 from h, if_pos (show (0 : Nat) < Ieee.single.binade by decide)]
    rfl
  rw [e]
  cases negOf Ieee.single x
  · first | rfl | decide +kernel
  · first | rfl | decide +kernel

set_option maxRecDepth 100000 in
theorem spec_formatSingle_zero (x : Nat) (h : rungOf Ieee.single x = 0) (w : World) : Calls Try.prog 76 #[.float .f32 x] w (GivesTxt (fmtL x) w) := by
  have h1 : rungOf Ieee.single x < 2139095040 := by omega
  have hw := read_zeroT h
  have ho2 := order_zero_fin (x := x) (by rw [s_inf]; exact h1)
  rw [if_pos h] at ho2
  obtain ⟨neg, hn⟩ : ∃ b, b = negOf Ieee.single x := ⟨_, rfl⟩
  have e : fmtL x = (if neg then [45] else []) ++ [48] := by unfold fmtL; rw [if_pos h1, h, ← hn]; rfl
  have H1 : Hid (decide (rungOf Ieee.single x < 2139095040) = true) := by unfold Hid; rw [decide_eq_true_iff]; exact h1
  rw [e]
  rw [← hn] at hw
  obtain ⟨y, hy, y3⟩ := inv_zeroT neg
  have hq : floatBits .quo .f32 1065353216 x = some y := by
    rw [← hy]
    show ((Ieee.single.read _).quotient _ (Ieee.single.read x)).map _ = ((Ieee.single.read _).quotient _ (Ieee.single.read _)).map _
    rw [hw]
  have y1 : ∀ w, fAr .quo .f32 1065353216 x w = y := by intro w; simp [fAr, hq]
  have y2 : fDr .quo .f32 1065353216 x = 0 := by simp [fDr, hq]
  have ho2 : FloatKind.f32.format.order x 0 = some .eq := ho2
  clear h e h1 hn hw hq hy
  cases neg
  all_goals
    go_enter Try.func76, Try.ntmps76
    go_wp2_with fail
    refine (l1Finite_any x _).mono ?_
    rintro _ _ ⟨n, rfl, rfl⟩
    rw [H1.out]
    go_wp2_with fail
    go_ret
    exact ⟨rfl, (Span.refl _ _ _).drewN _⟩

theorem aty_of {z o t u K : Nat} (h : isU Ieee.double z false (u * 2 ^ K)) (hu : u = o * 2 ^ t) : isU Ieee.double z false (o * 2 ^ (t + K)) := by
  rw [pow_shift, ← hu]; exact h
theorem div_lt_pow {a c K : Nat} (h : a < c * 2 ^ K) : a / 2 ^ K < c := by
  rw [Nat.div_lt_iff_lt_mul (Nat.two_pow_pos K)]; exact h

theorem low_pow {o c N K : Nat} (h : o < c) (hN : N ≤ K) : o * 2 ^ N < c * 2 ^ K :=
  Nat.lt_of_le_of_lt (Nat.mul_le_mul_left _ (Nat.pow_le_pow_right (by omega) hN)) (Nat.mul_lt_mul_of_pos_right h (Nat.two_pow_pos _))

theorem even_pow {o j : Nat} (hj : 0 < j) : o * 2 ^ j = 2 * (o * 2 ^ (j - 1)) := by
  obtain ⟨k, rfl⟩ : ∃ k, j = k + 1 := ⟨j - 1, by omega⟩
  rw [Nat.pow_succ, Nat.add_sub_cancel]
  simp only [Nat.mul_comm, Nat.mul_left_comm]

set_option maxRecDepth 100000 in
set_option maxHeartbeats 2000000 in
theorem spec_formatSingle_num (x : Nat) (h0 : 0 < rungOf Ieee.single x) (h1 : rungOf Ieee.single x < 2139095040) (w : World) : Calls Try.prog 76 #[.float .f32 x] w (GivesTxt (fmtL x) w) := by
  obtain ⟨r, hr⟩ : ∃ r, r = rungOf Ieee.single x := ⟨_, rfl⟩
  obtain ⟨neg, hn⟩ : ∃ b, b = negOf Ieee.single x := ⟨_, rfl⟩
  obtain ⟨o1, o2, o3, o4⟩ := oddR_lt h0 h1
  have e : fmtL x = (if neg then [45] else []) ++ (Lib.itoa (oddR r : Int) ++ [112] ++ Lib.itoa (powR r)) := by unfold fmtL; rw [if_pos h1, ← hn, ← hr, if_neg (show ¬ r = 0 by omega)]
  have H1 : Hid (decide (rungOf Ieee.single x < 2139095040) = true) := by unfold Hid; rw [decide_eq_true_iff]; exact h1
  have HR := Lib.hid hr
  have HN := Lib.hid hn
  have HF : Hid (rungOf Ieee.single x < 2139095040) := h1
  have ho := order_zero_fin (x := x) (by rw [s_inf]; exact h1)
  rw [e]
  rw [← hr] at h0 h1 o1 o2 o3 o4
  obtain ⟨t, ht⟩ : ∃ t, t = twos (units Ieee.single r) := ⟨_, rfl⟩
  rw [← ht] at o3 o4
  obtain ⟨p, hp⟩ : ∃ p, p = powR r := ⟨_, rfl⟩
  have hp2 : p = (t : Int) - 149 := by rw [hp, ht]; rfl
  obtain ⟨o, hoo⟩ : ∃ o, o = oddR r := ⟨_, rfl⟩
  rw [← hoo] at o1 o2 o4 ⊢
  obtain ⟨LA, hA⟩ : ∃ l, l = Lib.itoa (o : Int) := ⟨_, rfl⟩
  obtain ⟨LB, hB⟩ : ∃ l, l = Lib.itoa (powR r) := ⟨_, rfl⟩
  have l1 : LA.length ≤ 21 := by rw [hA]; exact itoa_len (by omega) (by omega)
  have l2 : LB.length ≤ 21 := by rw [hB]; exact itoa_len (by omega) (by omega)
  rw [← hA, ← hB]
  have HA := Lib.hid hA
  rw [← hp] at hB
  have HB := Lib.hid hB
  have HU := Lib.hid o4
  have HO2 := Lib.hid o2
  have HP := Lib.hid hp2
  rw [← hr, if_neg (show ¬ r = 0 by omega), ← hn] at ho
  have hnan := not_nan_of_fin (x := x) (by rw [s_inf]; exact HF.out)
  have hlt : o < 16777216 := by omega
  have hte : (t : Int) ≤ 277 := by omega
  have p0 : -149 ≤ p := by omega
  have p1 : p ≤ 128 := by omega
  clear e h1 hr hn h0 ht hp hp2 hoo o2 o4 hA hB o1
  cases neg
  all_goals
    simp only [if_true, if_false, Bool.false_eq_true] at ho
    have ho : FloatKind.f32.format.order x 0 = some _ := ho
    go_enter Try.func76, Try.ntmps76
    go_wp2_with fail
    refine (l1Finite_any x _).mono ?_
    rintro _ _ ⟨n, rfl, rfl⟩
    rw [H1.out]
    go_wp2_with fail
    refine (l1Abs_any x _).mono ?_
    rintro _ _ ⟨⟨y, rfl, _, hy⟩, rfl⟩
    obtain ⟨hy1, hy2⟩ := hy hnan
    have hyf : rungOf Ieee.single y < 2139095040 := by rw [hy1]; exact HF.out
    have hd := widen_draws hyf
    have hz : ∀ w, AtY (fCv .f32 .f64 y w) o (t + 925) := fun w => by
      have h := widen_fin w (x := y) (by rw [s_inf]; exact hyf)
      rw [hy1, hy2, ← HR.out] at h
      exact aty_of h HU.out
    have HZ := Lib.hid hz
    clear hz hy hy1 hy2 hyf hnan
    go_wp2_with fail
    clear ho hd
    go_loopw [4, 5] (fun v i wr => ∃ (N z : Nat) (e : Int), v = .float .f64 z ∧ AtY z o N ∧ i = .int .i64 e ∧ e = p + 1074 - (N : Int) ∧ N ≤ t + 925 ∧ (1074 ≤ N ∨ N = t + 925) ∧ wr = w.drewN n) (fun _ i _ => (1000 - intOf i).toNat)
    case atStart => exact ⟨t + 925, _, 0, rfl, HZ.out _, rfl, by have := HP.out; omega, Nat.le_refl _, .inr rfl, rfl⟩
    case round =>
      clear HZ
      obtain ⟨N, z, e, rfl, hz, rfl, he, hN, hN2, rfl⟩ := hrel
      obtain ⟨c1, c2⟩ := hz.high
      by_cases hbig : 16777216 * 2 ^ 1074 ≤ o * 2 ^ N
      · have hor := c1 hbig
        have hN3 : 1075 ≤ N := by
          by_cases h : 1075 ≤ N
          · exact h
          · exfalso
            exact absurd (Nat.lt_of_le_of_lt hbig (low_pow hlt (by omega))) (Nat.lt_irrefl _)
        obtain ⟨M, rfl⟩ : ∃ M, N = M + 1 := ⟨N - 1, by omega⟩
        obtain ⟨z', hq, hz2⟩ := hz.half hlt (by omega)
        have hq1 : ∀ w, fAr .quo .f64 z 4611686018427387904 w = z' := by intro w; simp [fAr, hq]
        have hq2 : fDr .quo .f64 z 4611686018427387904 = 0 := by simp [fDr, hq]
        have HZ2 := Lib.hid hz2
        have HE := Lib.hid he
        have e1 : -149 - 1074 ≤ e := by omega
        have e2 : e ≤ 128 := by omega
        clear hbig c1 c2 hq hz hz2 he
        rcases hor with ho | ho
        all_goals
          go_wp2_with fail
          go_roundw
          case rel => exact ⟨M, z', e + 1, rfl, HZ2.out, rfl, by have := HE.out; omega, by omega, .inl (by omega), by first | rfl | trivial⟩
          case measure => simp [intOf]; omega
      · have ho := c2 (by omega)
        have HZ1 := Lib.hid hz
        have HE := Lib.hid he
        have HS : Hid (o * 2 ^ N < 16777216 * 2 ^ 1074) := by unfold Hid; omega
        clear hbig c1 c2 hz he
        go_wp2_with fail
        obtain ⟨N0, hN0⟩ : ∃ N0, N0 = N := ⟨_, rfl⟩
        go_loopw [4, 5] (fun v i wr => ∃ (N z : Nat) (e : Int), v = .float .f64 z ∧ AtY z o N ∧ i = .int .i64 e ∧ e = p + 1074 - (N : Int) ∧ N ≤ 1300 ∧ o * 2 ^ N < 16777216 * 2 ^ 1074 ∧ wr = w.drewN n) (fun _ i _ => (2000 + intOf i).toNat)
        case atStart => exact ⟨N, z, e, rfl, HZ1.out, rfl, HE.out, by omega, HS.out, rfl⟩
        case round =>
          clear HZ1 HE HS ho hN0 hN hN2
          obtain ⟨N, z, e, rfl, hz, rfl, he, hN, hs, rfl⟩ := hrel
          obtain ⟨q, hq⟩ : ∃ q, q = o * 2 ^ N / 2 ^ 1074 := ⟨_, rfl⟩
          have hq24 : q < 16777216 := by rw [hq]; exact div_lt_pow (a := o * 2 ^ N) (c := 16777216) (K := 1074) hs
          have hti := hz.floor (by rw [← hq]; exact hq24)
          rw [← hq] at hti
          obtain ⟨c1, c2⟩ := hz.whole hq hq24
          obtain ⟨d1, d2⟩ := odd_whole (N := N) HO2.out
          have hcv := fun w' => run_convert_float_int (P := Try.prog) w' 121 3 .f64 .i64 z q (by rw [Try.underlying121]; rfl) Try.underlying3 hti
          by_cases hN4 : N < 1074
          · have ho := c2 (d2 hN4 q)
            obtain ⟨z', hm, hz2⟩ := hz.twice hlt (by omega)
            have hq1 : ∀ w, fAr .mul .f64 z 4611686018427387904 w = z' := by intro w; simp [fAr, hm]
            have hq2 : fDr .mul .f64 z 4611686018427387904 = 0 := by simp [fDr, hm]
            have HZ2 := Lib.hid hz2
            have HE := Lib.hid he
            have HS : Hid (o * 2 ^ (N + 1) < 16777216 * 2 ^ 1074) := low_pow (o := o) (c := 16777216) (N := N + 1) (K := 1074) hlt hN4
            have e1 : -149 ≤ e := by omega
            have e2 : e ≤ 2000 := by omega
            clear hq hti c1 c2 d1 d2 hm hz hz2 he hs
            go_wp2_with fail
            go_roundw
            case rel => exact ⟨N + 1, z', e - 1, rfl, HZ2.out, rfl, by have := HE.out; omega, by omega, HS.out, by first | rfl | trivial⟩
            case measure => simp [intOf]; omega
          · have hqe : q = o * 2 ^ (N - 1074) := by rw [hq, d1 (by omega), Nat.mul_div_cancel _ (Nat.two_pow_pos 1074)]
            have ho := c1 (by rw [hqe]; exact d1 (by omega))
            obtain ⟨j, rfl⟩ : ∃ j, N = j + 1074 := ⟨N - 1074, by omega⟩
            rw [Nat.add_sub_cancel] at hqe
            have HE := Lib.hid he
            have HQ := Lib.hid hqe
            clear hq hti c1 c2 d1 d2 hz he hs hqe
            go_wp2_with fail
            clear ho hcv
            go_loopw [5, 6] (fun i m wr => ∃ (j q : Nat) (e : Int), m = .int .i64 q ∧ q = o * 2 ^ j ∧ q < 16777216 ∧ i = .int .i64 e ∧ e = p - (j : Int) ∧ j ≤ 300 ∧ wr = w.drewN n) (fun i _ _ => (1000 - intOf i).toNat)
            case atStart => exact ⟨j, q, e, rfl, HQ.out, hq24, rfl, by have := HE.out; omega, by omega, rfl⟩
            case round =>
              clear HE HQ hq24 hN hN4
              obtain ⟨j, q, e, rfl, hq, hq24, rfl, he, hj, rfl⟩ := hrel
              by_cases hj0 : 0 < j
              · have hev := even_pow (o := o) hj0
                rw [← hq] at hev
                have b1 : ((q : Int) % 2 == 0) = true := by rw [beq_iff_eq]; omega
                have e1 : -149 - 300 ≤ e := by omega
                have e2 : e ≤ 128 := by omega
                have i0 : (0 : Int) ≤ (q : Int) := by omega
                have HEV := Lib.hid hev
                have HE := Lib.hid he
                clear hq hev he
                go_wp2_with fail
                go_roundw
                case rel => exact ⟨j - 1, q / 2, e + 1, by go_num, by have := HEV.out; omega, by omega, rfl, by have := HE.out; omega, by omega, by first | rfl | trivial⟩
                case measure => simp [intOf]; omega
              · have hj00 : j = 0 := by omega
                subst hj00
                rw [Nat.pow_zero, Nat.mul_one] at hq
                subst hq
                have b1 : ((q : Int) % 2 == 0) = false := by rw [beq_eq_false_iff_ne]; have := HO2.out; omega
                have he2 : e = p := by omega
                clear he hj
                subst he2
                have i0 : (0 : Int) ≤ (q : Int) := by omega
                go_wp2_with fail
                refine (l1Number_any _ (by omega) (by omega) _).mono ?_
                rintro _ w1 ⟨rfl, s1⟩
                have S1 := Lib.hid (s1.after ((Span.refl 0 0 w).drewN n))
                rw [← HA.out]
                clear s1
                go_wp2_with fail
                refine (l1Number_any _ (by omega) (by omega) _).mono ?_
                rintro _ w2 ⟨rfl, s2⟩
                have S2 := Lib.hid (s2.after S1.out)
                rw [← HB.out]
                clear s2
                go_wp2_with fail
                go_ret
                first | exact ⟨congrArg (fun b => Ending.returned (Value.string b)) (ba4 [] LA LB), S2.out⟩ | exact ⟨congrArg (fun b => Ending.returned (Value.string b)) (ba4 [45] LA LB), S2.out⟩

theorem spec_formatSingle (x : Nat) (w : World) : Calls Try.prog 76 #[.float .f32 x] w (GivesTxt (fmtL x) w) := by
  by_cases h1 : rungOf Ieee.single x < 2139095040
  · by_cases h0 : rungOf Ieee.single x = 0
    · exact spec_formatSingle_zero x h0 w
    · exact spec_formatSingle_num x (by omega) h1 w
  · exact spec_formatSingle_not x h1 w

theorem fmtL_len (x : Nat) : (fmtL x).length ≤ 44 := by
  unfold fmtL
  split
  · rename_i h
    have hn : (if negOf Ieee.single x then ([45] : List UInt8) else []).length ≤ 1 := by split <;> simp
    by_cases h0 : rungOf Ieee.single x = 0
    · rw [if_pos h0, List.length_append]
      simp
      omega
    · rw [if_neg h0]
      obtain ⟨o1, _, o3, _⟩ := oddR_lt (by omega) h
      have l1 := itoa_len (n := (oddR (rungOf Ieee.single x) : Int)) (by omega) (by omega)
      have l2 := itoa_len (n := powR (rungOf Ieee.single x)) (by unfold powR; omega) (by unfold powR; omega)
      simp only [List.length_append, List.length_cons, List.length_nil] at hn ⊢
      omega
  · simp
end Go.Proofs.Ytfafkdpefdpnkaa
