/- The program's own text of a single number. -/
import Derived.Test.YthcccliiokckjaaDoorSh
import Derived.Test.YthcccliiokckjaaDoorT2
import Derived.Test.YthcccliiokckjaaDoorC1
import Derived.Shelf.Spec.TrailingZeros
import Derived.Lib.LaidTab
import Derived.Lib.AppendIntMem
namespace Go.Proofs.YthcccliiokckjaaDoor
open Go.RowKit

/-- The library's tables are in place. -/
def Tabs (w : World) : Prop := TabAt 2 Lib.deBruijn64tab w ∧ Lib.TabIs Tryd.prog w "internal/strconv.uint64pow10" .u64 Lib.pow10Tab ∧ 7 ≤ w.heap.size

theorem pow10_global : Tryd.prog.globalNamed "internal/strconv.uint64pow10" = some 6 := by kernel_rfl

theorem var_span {P : Program} {g : Nat} {w w' : World} {n : String} {cs : Array Value} (h : Span 0 0 w w') (hg : P.globalNamed n = some g) (hgB : g < w.heap.size) (hv : w.var? P n = some cs) : w'.var? P n = some cs := by
  unfold World.var? at hv ⊢
  simp only [hg, Option.bind_some] at hv ⊢
  rw [h.block g hgB (by omega)]
  exact hv

theorem Tabs.span {w w' : World} (h : Tabs w) (s : Span 0 0 w w') : Tabs w' := by
  obtain ⟨h1, h2, h3⟩ := h
  refine ⟨fun j hj => ?_, var_span s pow10_global (by omega) h2, Nat.le_trans h3 s.size⟩
  exact ((s.cells (Nat.le_refl _)).1 _ j (by omega)).trans (h1 j hj)

theorem itoa_any (n : Int) (h0 : -9223372036854775808 ≤ n) (h1 : n ≤ 9223372036854775807) (w : World) (h : Tabs w) : Calls Tryd.prog 25 #[.int .i64 n] w (GivesS (Lib.itoa n) w) := by
  refine (Tryd.strconv_Itoa n h0 h1 w h.2.1).mono ?_
  rintro e w' ⟨rfl, k, os, rfl⟩
  exact ⟨rfl, Span.of_below (Lib.below_grow _ w (Nat.le_refl _) k os)⟩

theorem tz_any (x : Nat) (hx : x < 18446744073709551616) (w : World) (h : Tabs w) : Calls Tryd.prog 46 #[.int .u64 (x : Int)] w fun e w' => e = .returned (.int .i64 (Lib.ctz 64 x)) ∧ w = w' :=
  (Tryd.bits_TrailingZeros x hx w (fun _ => h.1)).mono fun _ _ ⟨h1, h2⟩ => ⟨h1, h2.symm⟩

theorem ctz_split {k : Nat} (h0 : 0 < k) (hk : k < 2 ^ 64) : ∃ z m, Lib.ctz 64 k = z ∧ z ≤ 63 ∧ k = 2 ^ z * (2 * m + 1) ∧ k / 2 ^ z = 2 * m + 1 := by
  have e : Lib.ctz 64 k = Lib.ctzFrom 64 k := by unfold Lib.ctz; rw [if_neg (by omega)]
  obtain ⟨m, hm, hl⟩ := Lib.ctzFrom_spec 64 k h0 hk
  rw [← e] at hm hl
  refine ⟨_, m, rfl, by omega, hm, ?_⟩
  conv => lhs; lhs; rw [hm]
  rw [Nat.mul_comm]
  exact Nat.mul_div_cancel _ (Nat.two_pow_pos _)

/-- Both parts come back. -/
def GivesOdd (k : Nat) (w : World) (e : Ending) (w' : World) : Prop := e = .returned (.tuple #[.int .i64 (oddR k), .int .i64 (powR k)]) ∧ w = w'

theorem odd_end {k m0 z m : Nat} {E : Nat} (hk : k < 2139095040) (hu : units Ieee.single k = m0 * 2 ^ E) (hm : m0 = 2 ^ z * (2 * m + 1)) (hd : m0 / 2 ^ z = 2 * m + 1) {a b : Int} (ha : a = (m0 : Int) / 2 ^ z) (hb : b = -149 + (E : Int) + (z : Int)) :
    Ending.returned (.tuple #[.int .i64 a, .int .i64 b]) = .returned (.tuple #[.int .i64 (oddR k), .int .i64 (powR k)]) := by
  have e : units Ieee.single k = 2 ^ (E + z) * (2 * m + 1) := by
    rw [hu, hm, Nat.pow_add]
    simp only [Nat.mul_assoc, Nat.mul_comm, Nat.mul_left_comm]
  obtain ⟨h1, h2⟩ := odd_of (units_lt hk) e
  have e1 : a = (oddR k : Int) := by
    rw [ha]; unfold oddR; rw [h2, ← hd]
    simp
  have e2 : b = powR k := by unfold powR; rw [h1, hb]; omega
  rw [e1, e2]

set_option maxRecDepth 100000 in
theorem oddParts_small (k : Nat) (h0 : 0 < k) (hk : k < 8388608) (w : World) (h : Tabs w) : Calls Tryd.prog 24 #[.int .i64 (k : Int)] w (GivesOdd k w) := by
  have HT := Lib.hid h
  have b0 : decide ((8388608 : Int) ≤ (k : Int)) = false := by rw [decide_eq_false_iff_not]; omega
  have i0 : (0 : Int) ≤ (k : Int) := by omega
  have i1 : (k : Int) ≤ 8388608 := by omega
  clear h
  obtain ⟨z, m, hz, hz63, hm, hd⟩ := ctz_split h0 (by omega)
  have HZ := Lib.hid hz
  have HM := Lib.hid hm
  have HD := Lib.hid hd
  clear hz hm hd
  have j0 : (z : Int) ≤ 63 := by omega
  go_enter Tryd.func24, Tryd.ntmps24
  go_wp2_with fail
  refine (tz_any k (by omega) _ HT.out).mono ?_
  rintro _ _ ⟨rfl, rfl⟩
  rw [HZ.out]
  go_wp2_with fail
  go_ret2
  exact ⟨odd_end (E := 0) (by omega) (by rw [units_small _ (by rw [s_bin]; exact hk)]; simp) HM.out HD.out rfl (by omega), rfl⟩

set_option maxRecDepth 100000 in
theorem oddParts_big (k : Nat) (h0 : 8388608 ≤ k) (hk : k < 2139095040) (w : World) (h : Tabs w) : Calls Tryd.prog 24 #[.int .i64 (k : Int)] w (GivesOdd k w) := by
  have HT := Lib.hid h
  have b0 : decide ((8388608 : Int) ≤ (k : Int)) = true := by rw [decide_eq_true_iff]; omega
  have i0 : (8388608 : Int) ≤ (k : Int) := by omega
  have i1 : (k : Int) ≤ 2139095040 := by omega
  clear h
  obtain ⟨q, hq⟩ : ∃ q, q = k / 8388608 := ⟨_, rfl⟩
  obtain ⟨m0, hm0⟩ : ∃ m, m = 8388608 + k % 8388608 := ⟨_, rfl⟩
  have e1 : (k : Int) % 8388608 = (m0 : Int) - 8388608 := by omega
  have e2 : (k : Int) / 8388608 = (q : Int) := by omega
  have m1 : 8388608 ≤ m0 := by omega
  have m2 : m0 < 16777216 := by omega
  have q1 : 1 ≤ q := by omega
  have q2 : q ≤ 255 := by omega
  have hu : units Ieee.single k = m0 * 2 ^ (q - 1) := by
    unfold units; rw [s_bin, if_neg (by omega), hm0, hq]
  obtain ⟨z, m, hz, hz63, hm, hd⟩ := ctz_split (k := m0) (by omega) (by omega)
  have HZ := Lib.hid hz
  have HM := Lib.hid hm
  have HD := Lib.hid hd
  have HU := Lib.hid hu
  have E1 := Lib.hid e1
  have E2 := Lib.hid e2
  clear hz hm hd hu e1 e2 hq hm0
  have j0 : (z : Int) ≤ 63 := by omega
  have j1 : (q : Int) ≤ 255 := by omega
  have j2 : (1 : Int) ≤ (q : Int) := by omega
  go_enter Tryd.func24, Tryd.ntmps24
  go_wp2_with fail
  rw [E1.out, E2.out, show (8388608 : Int) + ((m0 : Int) - 8388608) = (m0 : Int) by omega]
  refine (tz_any m0 (by omega) _ HT.out).mono ?_
  rintro _ _ ⟨rfl, rfl⟩
  rw [HZ.out]
  go_wp2_with fail
  go_ret2
  exact ⟨odd_end (E := q - 1) hk HU.out HM.out HD.out rfl (by omega), rfl⟩

theorem oddParts_any (k : Nat) (h0 : 0 < k) (hk : k < 2139095040) (w : World) (h : Tabs w) : Calls Tryd.prog 24 #[.int .i64 (k : Int)] w (GivesOdd k w) := by
  by_cases hs : k < 8388608
  · exact oddParts_small k h0 hs w h
  · exact oddParts_big k (by omega) hk w h

theorem run_float64bits (x : Nat) (w : World) : (callFunc 45 #[.float .f64 x]).run Tryd.prog w = .ok (.value (.int .u64 x)) w :=
  (run_callFunc_extern (P := Tryd.prog) (f := 45) (fn := Tryd.f45) (e := Extern.MathFloatBits.float64bits) Tryd.func45 (by kernel_rfl) (by kernel_rfl) (by kernel_rfl) (by kernel_rfl) #[.float .f64 x] w).trans rfl

set_option maxRecDepth 100000 in
theorem signbit_any (b : Nat) (c : Int) (neg : Bool) (hw : wrap64 (b : Int) = c) (hc : decide (c < 0) = neg) (w : World) : Calls Tryd.prog 23 #[.float .f64 b] w fun e w' => e = .returned (.bool neg) ∧ w = w' := by
  have hb := run_float64bits b
  go_enter Tryd.func23, Tryd.ntmps23
  go_wp2_with fail
  go_ret
  exact ⟨rfl, rfl⟩

theorem ba4 (p A B : List UInt8) : (⟨p.toArray⟩ : ByteArray) ++ ⟨A.toArray⟩ ++ ⟨#[112]⟩ ++ ⟨B.toArray⟩ = ⟨(p ++ (A ++ 112 :: B)).toArray⟩ := by
  rw [ba_app, show (⟨#[112]⟩ : ByteArray) = ⟨[112].toArray⟩ from rfl, ba_app, ba_app]
  congr 2
  simp

theorem itoa_len {n : Int} (h1 : -4611686018427387904 ≤ n) (h2 : n ≤ 4611686018427387904) : (Lib.itoa n).length ≤ 21 := by
  unfold Lib.itoa
  split
  · have := decDigits_len (n := n.natAbs) (by omega)
    simp; omega
  · have := decDigits_len (n := n.toNat) (by omega)
    omega

/-- The sign of a widened finite number. -/
theorem widen_sign {x : Nat} (w : World) (h : rungOf Ieee.single x < 2139095040) : ∃ c : Int, wrap64 ((fCv .f32 .f64 x w : Nat) : Int) = c ∧ decide (c < 0) = negOf Ieee.single x := by
  obtain ⟨r, hw, hr, _⟩ := widen_fin w (x := x) (by rw [s_inf]; exact h)
  rw [d_inf] at hr
  rw [hw]
  cases hn : negOf Ieee.single x with
  | false =>
    have e : Ieee.double.word false r = r := rfl
    rw [e]
    refine ⟨_, rfl, ?_⟩
    rw [decide_eq_false_iff_not]
    unfold wrap64
    omega
  | true =>
    have e : Ieee.double.word true r = Ieee.double.signWeight + r := rfl
    rw [e, d_sw]
    refine ⟨_, rfl, ?_⟩
    rw [decide_eq_true_iff]
    unfold wrap64
    omega

theorem signbit_widen {x : Nat} (w0 : World) (h : rungOf Ieee.single x < 2139095040) (w : World) : Calls Tryd.prog 23 #[.float .f64 (fCv .f32 .f64 x w0)] w fun e w' => e = .returned (.bool (negOf Ieee.single x)) ∧ w = w' := by
  obtain ⟨c, h1, h2⟩ := widen_sign w0 h
  exact signbit_any _ c _ h1 h2 w

theorem widen_draws {x : Nat} (h : rungOf Ieee.single x < 2139095040) : fCd .f32 .f64 x = 0 := by
  obtain ⟨r, hr⟩ := widen_some (b := x) (not_nan_of_fin (by rw [s_inf]; exact h))
  unfold fCd
  rw [hr]; rfl

set_option maxRecDepth 100000 in
theorem impl_formatSingle_not (x : Nat) (hx : x < 4294967296) (h : ¬ rungOf Ieee.single x < 2139095040) (w : World) : Calls Tryd.prog 10 #[.float .f32 x] w (GivesS (fmtL x) w) := by
  have e : fmtL x = [] := by unfold fmtL; rw [if_neg h]
  rw [e]
  have H := Lib.hid h
  clear h e
  go_enter Tryd.func10, Tryd.ntmps10
  go_wp2_with fail
  refine (impl_stepsOf x hx _).mono ?_
  rintro _ _ ⟨n, rfl, rfl⟩
  rw [if_neg H.out]
  go_wp2_with fail
  go_ret
  exact ⟨rfl, (Span.refl _ _ _).drewN _⟩

set_option maxRecDepth 100000 in
theorem impl_formatSingle_zero (x : Nat) (hx : x < 4294967296) (h : rungOf Ieee.single x = 0) (w : World) : Calls Tryd.prog 10 #[.float .f32 x] w (GivesS (fmtL x) w) := by
  have h1 : rungOf Ieee.single x < 2139095040 := by omega
  have hz : stepsZ x = 0 := by unfold stepsZ; rw [h]; split <;> rfl
  have H1 := Lib.hid h1
  have H := Lib.hid h
  have HZ := Lib.hid hz
  have hd := widen_draws h1
  obtain ⟨neg, hn⟩ : ∃ b, b = negOf Ieee.single x := ⟨_, rfl⟩
  have HN := Lib.hid hn
  have e : fmtL x = (if neg then [45] else []) ++ [48] := by unfold fmtL; rw [if_pos h1, h, ← hn]; rfl
  rw [e]
  clear h hz e hn h1
  cases neg
  all_goals
    go_enter Tryd.func10, Tryd.ntmps10
    go_wp2_with fail
    refine (impl_stepsOf x hx _).mono ?_
    rintro _ _ ⟨n, rfl, rfl⟩
    rw [if_pos H1.out, HZ.out]
    go_wp2_with fail
    refine (signbit_widen _ H1.out _).mono ?_
    rintro _ _ ⟨rfl, rfl⟩
    rw [← HN.out]
    go_wp2_with fail
    go_ret
    exact ⟨rfl, (Span.refl _ _ _).drewN _⟩

set_option maxRecDepth 100000 in
theorem impl_formatSingle_num (x : Nat) (hx : x < 4294967296) (h0 : 0 < rungOf Ieee.single x) (h1 : rungOf Ieee.single x < 2139095040) (w : World) (hT : Tabs w) : Calls Tryd.prog 10 #[.float .f32 x] w (GivesS (fmtL x) w) := by
  obtain ⟨r, hr⟩ : ∃ r, r = rungOf Ieee.single x := ⟨_, rfl⟩
  obtain ⟨neg, hn⟩ : ∃ b, b = negOf Ieee.single x := ⟨_, rfl⟩
  obtain ⟨o1, o2, o3, o4⟩ := oddR_lt h0 h1
  have e : fmtL x = (if neg then [45] else []) ++ (Lib.itoa (oddR r : Int) ++ [112] ++ Lib.itoa (powR r)) := by unfold fmtL; rw [if_pos h1, ← hn, ← hr, if_neg (show ¬ r = 0 by omega)]
  have hz : stepsZ x = if neg then -(r : Int) else (r : Int) := by unfold stepsZ; rw [← hn, ← hr]
  have HZ := Lib.hid hz
  have H1 := Lib.hid h1
  have HN := Lib.hid hn
  have HT := Lib.hid hT
  have hd := widen_draws h1
  rw [e]
  rw [← hr] at h0 h1 o1 o3
  have hp1 : -149 ≤ powR r := by unfold powR; omega
  have hp2 : powR r ≤ 128 := by unfold powR; omega
  obtain ⟨LA, hA⟩ : ∃ l, l = Lib.itoa (oddR r : Int) := ⟨_, rfl⟩
  obtain ⟨LB, hB⟩ : ∃ l, l = Lib.itoa (powR r) := ⟨_, rfl⟩
  have l1 : LA.length ≤ 21 := by rw [hA]; exact itoa_len (by omega) (by omega)
  have l2 : LB.length ≤ 21 := by rw [hB]; exact itoa_len (by omega) (by omega)
  rw [← hA, ← hB]
  have HA := Lib.hid hA
  have HB := Lib.hid hB
  clear hz e hn hr hT o2 o4 o3 hA hB
  cases neg
  all_goals
    go_enter Tryd.func10, Tryd.ntmps10
    go_wp2_with fail
    refine (impl_stepsOf x hx _).mono ?_
    rintro _ _ ⟨n, rfl, rfl⟩
    rw [if_pos H1.out, HZ.out]
    simp only [if_true, if_false, Bool.false_eq_true]
    have b1 : ((r : Int) == 0) = false := by simp; omega
    have b2 : (-(r : Int) == 0) = false := by simp; omega
    go_wp2_with fail
    refine (signbit_widen _ H1.out _).mono ?_
    rintro _ _ ⟨rfl, rfl⟩
    rw [← HN.out]
    go_wp2_with fail
    first | rw [show max (r : Int) (-(r : Int)) = (r : Int) by omega] | rw [show max (-(r : Int)) (r : Int) = (r : Int) by omega]
    refine (oddParts_any r h0 h1 _ (HT.out.span ((Span.refl 0 0 w).drewN n))).mono ?_
    rintro _ _ ⟨rfl, rfl⟩
    go_wp2_with fail
    refine (itoa_any _ (by omega) (by omega) _ (HT.out.span ((Span.refl 0 0 w).drewN n))).mono ?_
    rintro _ w1 ⟨rfl, s1⟩
    have S1 := Lib.hid (s1.after ((Span.refl 0 0 w).drewN n))
    rw [← HA.out]
    clear s1
    go_wp2_with fail
    refine (itoa_any _ (by omega) (by omega) _ (HT.out.span S1.out)).mono ?_
    rintro _ w2 ⟨rfl, s2⟩
    have S2 := Lib.hid (s2.after S1.out)
    rw [← HB.out]
    clear s2
    go_wp2_with fail
    go_ret
    first | exact ⟨congrArg (fun b => Ending.returned (Value.string b)) (ba4 [] LA LB), S2.out⟩ | exact ⟨congrArg (fun b => Ending.returned (Value.string b)) (ba4 [45] LA LB), S2.out⟩

theorem impl_formatSingle (x : Nat) (hx : x < 4294967296) (w : World) (hT : Tabs w) : Calls Tryd.prog 10 #[.float .f32 x] w (GivesS (fmtL x) w) := by
  by_cases h1 : rungOf Ieee.single x < 2139095040
  · by_cases h0 : rungOf Ieee.single x = 0
    · exact impl_formatSingle_zero x hx h0 w
    · exact impl_formatSingle_num x hx (by omega) h1 w hT
  · exact impl_formatSingle_not x hx h1 w
end Go.Proofs.YthcccliiokckjaaDoor
