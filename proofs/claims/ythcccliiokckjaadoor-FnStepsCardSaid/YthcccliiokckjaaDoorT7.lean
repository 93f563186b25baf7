/- Numbers read by the program. -/
import Derived.Test.YthcccliiokckjaaDoorSh2
import Derived.Test.YthcccliiokckjaaDoorT6
namespace Go.Proofs.YthcccliiokckjaaDoor
open Go.RowKit

theorem fCv32_lt (b : Nat) (w : World) : fCv .f64 .f32 b w < 4294967296 := by
  unfold fCv
  cases h : floatToFloatBits .f64 b .f32 with
  | some r =>
    simp only []
    unfold floatToFloatBits at h
    rw [if_neg (by decide)] at h
    refine f32_lt ?_
    split at h
    · cases h
    · cases h; exact encode_wf ..
    · split at h
      · cases h
      · cases h; exact encode_wf ..
  | none =>
    simp only []
    split
    · show (_ % 2) * 2 ^ 31 + 0x7f800000 + 1 + (_ / 2) % (2 ^ 23 - 1) < _
      omega
    · show _ % 2 ^ 32 < _
      omega

theorem negF_lt {x : Nat} (h : x < 4294967296) : Op.negFloat .f32 x < 4294967296 := by
  show x ^^^ 2 ^ 31 < 2 ^ 32
  exact Nat.xor_lt_two_pow h (by decide)

/-- What the library's variables hold. -/
def Env (w : World) : Prop := Tabs w ∧ (∃ m, w.cell? ⟨3, 0, none⟩ = some (.int .i64 m)) ∧ (∃ tp p, w.var? Tryd.prog "strconv.ErrSyntax" = some #[.iface tp p]) ∧ (∃ tp p, w.var? Tryd.prog "strconv.ErrRange" = some #[.iface tp p])

theorem errSyntax_global : Tryd.prog.globalNamed "strconv.ErrSyntax" = some 4 := by kernel_rfl
theorem errRange_global : Tryd.prog.globalNamed "strconv.ErrRange" = some 5 := by kernel_rfl

theorem Env.span {w w' : World} (h : Env w) (s : Span 0 0 w w') : Env w' := by
  obtain ⟨h1, ⟨m, h2⟩, ⟨t3, p3, h3⟩, ⟨t4, p4, h4⟩⟩ := h
  have hz := h1.2.2
  exact ⟨h1.span s, ⟨m, ((s.cells (Nat.le_refl _)).1 _ 0 (by omega)).trans h2⟩, ⟨t3, p3, var_span s errSyntax_global (by omega) h3⟩, ⟨t4, p4, var_span s errRange_global (by omega) h4⟩⟩

/-- An integer read, or an error. -/
def GivesAtoi (l : List UInt8) (w : World) (e : Ending) (w' : World) : Prop :=
  ∃ (n : Int) (err : Value), e = .returned (.tuple #[.int .i64 n, err]) ∧ (err = .nilIface ∨ ∃ t p, err = .iface t p) ∧ (∀ v, Lib.atoiAll l = .ok v → n = v ∧ err = .nilIface) ∧ Span 0 0 w w'

theorem size_list (l : List UInt8) : (⟨l.toArray⟩ : ByteArray).size = l.length := by
  show l.toArray.size = _
  simp

theorem atoi_any (l : List UInt8) (hl : l.length ≤ 4194304) (w : World) (h : Env w) : Calls Tryd.prog 42 #[.string ⟨l.toArray⟩] w (GivesAtoi l w) := by
  obtain ⟨_, _, ⟨t3, p3, h3⟩, ⟨t4, p4, h4⟩⟩ := h
  have hs := size_list l
  cases hh : Lib.atoiAll l with
  | ok v =>
    refine (Tryd.strconv_Atoi_ok ⟨l.toArray⟩ (by omega) v hh w).mono ?_
    rintro e w' ⟨rfl, hw⟩
    refine ⟨v, .nilIface, rfl, .inl rfl, fun u hu => ?_, ?_⟩
    · rw [hh] at hu; injection hu with hu; exact ⟨hu, rfl⟩
    · rcases hw with rfl | ⟨t, rfl⟩
      · exact Span.refl _ _ _
      · exact Span.of_below (Lib.bytesWorld_below _ _ _)
  | range =>
    refine (Tryd.strconv_Atoi_range_var ⟨l.toArray⟩ (by omega) hh t4 p4 w h4).mono ?_
    rintro e w' ⟨N, rfl, _, _, hb⟩
    exact ⟨_, _, rfl, .inr ⟨_, _, rfl⟩, (fun u hu => by rw [hh] at hu; cases hu), Span.of_below hb⟩
  | _ =>
    refine (Any.strconv_Atoi_syntax_var Tryd.laysC172 ⟨l.toArray⟩ (by omega) hh t3 p3 w h3).mono ?_
    rintro e w' ⟨N, rfl, _, _, hb⟩
    exact ⟨_, _, rfl, .inr ⟨_, _, rfl⟩, (fun u hu => by rw [hh] at hu; cases hu), Span.of_below hb⟩

theorem cut_len (l : List UInt8) : (Lib.cut l [112]).1.length ≤ l.length ∧ (Lib.cut l [112]).2.1.length ≤ l.length := by
  unfold Lib.cut
  split
  · refine ⟨?_, ?_⟩
    · show (List.take _ l).length ≤ _
      rw [List.length_take]; omega
    · show (List.drop _ l).length ≤ _
      rw [List.length_drop]; omega
  · exact ⟨Nat.le_refl _, Nat.zero_le _⟩

/-- A text cut at the first p. -/
theorem cut_any (l : List UInt8) (hl : l.length ≤ 4194304) (w : World) (h : Env w) : Calls Tryd.prog 41 #[.string ⟨l.toArray⟩, .string ⟨#[112]⟩] w fun e w' =>
    ∃ a b fd, Lib.cut l [112] = (a, b, fd) ∧ a.length ≤ l.length ∧ b.length ≤ l.length ∧ e = .returned (.tuple #[.string ⟨a.toArray⟩, .string ⟨b.toArray⟩, .bool fd]) ∧ ∃ n, w' = w.drewN n := by
  obtain ⟨_, ⟨m, h2⟩, _⟩ := h
  have hs := size_list l
  refine (Tryd.strings_Cut ⟨l.toArray⟩ ⟨#[112]⟩ m w (by omega) h2).mono ?_
  rintro e w' ⟨rfl, n, rfl⟩
  obtain ⟨c1, c2⟩ := cut_len l
  exact ⟨_, _, _, rfl, c1, c2, rfl, n, rfl⟩

/-- A number read without its sign. -/
def GivesSize (l : List UInt8) (w : World) (e : Ending) (w' : World) : Prop :=
  ∃ (y : Nat) (ok : Bool), e = .returned (.tuple #[.float .f32 y, .bool ok]) ∧ y < 4294967296 ∧ (ok = true → l ≠ []) ∧ (l = [48] → ok = true ∧ y = 0) ∧
    (∀ r, 0 < r → r < 2139095040 → l = bareL r → ok = true ∧ y = r) ∧ Span 0 0 w w'

theorem bitLen_range {m : Nat} (h1 : 1 ≤ m) (h2 : m < 16777216) : 1 ≤ Lib.bitLen m ∧ Lib.bitLen m ≤ 24 ∧ 2 ^ (Lib.bitLen m - 1) ≤ m := by
  obtain ⟨a, b, c⟩ := Lib.bitLenAux_bounds 64 m (by omega) (by omega)
  refine ⟨a, ?_, b⟩
  have : 2 ^ (Lib.bitLen m - 1) < 2 ^ 24 := Nat.lt_of_le_of_lt b h2
  have := (Nat.pow_lt_pow_iff_right (by omega : 1 < 2)).1 this
  have : 1 ≤ Lib.bitLen m := a
  omega

/-- A text's parts are in range. -/
theorem bare_range {r : Nat} (h0 : 0 < r) (h1 : r < 2139095040) : 1 ≤ oddR r ∧ oddR r < 16777216 ∧ -149 ≤ powR r ∧ powR r ≤ 128 - (Lib.bitLen (oddR r) : Int) ∧ Lib.cut (bareL r) [112] = (Lib.itoa (oddR r : Int), Lib.itoa (powR r), true) ∧ Lib.atoiAll (Lib.itoa (oddR r : Int)) = .ok (oddR r : Int) ∧ Lib.atoiAll (Lib.itoa (powR r)) = .ok (powR r) := by
  obtain ⟨o1, o2, o3, o4⟩ := oddR_lt h0 h1
  obtain ⟨b1, b2⟩ := powR_bound h0 h1
  obtain ⟨k1, k2, k3⟩ := bitLen_range (m := oddR r) (by omega) o1
  refine ⟨by omega, o1, b1, ?_, cut_text _ _ itoa_no_p, atoi_itoa (by omega) (by omega), atoi_itoa (by omega) (by omega)⟩
  obtain ⟨kept, E, hu, _, hk, _, hE⟩ := split_rung h1
  have a1 : 2 ^ (Lib.bitLen (oddR r) - 1) * 2 ^ twos (units Ieee.single r) ≤ units Ieee.single r := by
    conv => rhs; rw [o4]
    exact Nat.mul_le_mul_right _ k3
  have a2 : units Ieee.single r < 2 ^ 24 * 2 ^ E := by rw [hu]; exact Nat.mul_lt_mul_of_pos_right (show kept < 2 ^ 24 from hk) (Nat.two_pow_pos _)
  rw [← Nat.pow_add] at a1 a2
  have a3 := (Nat.pow_lt_pow_iff_right (by omega : 1 < 2)).1 (Nat.lt_of_le_of_lt a1 a2)
  unfold powR
  omega

theorem narrow_back {z m r : Nat} {k : Int} (h : AtY z m (1074 + k).toNat) (h0 : 0 < r) (h1 : r < 2139095040) (hm : m = oddR r) (hk : k = powR r) (w : World) : fCv .f64 .f32 z w = r := by
  obtain ⟨_, _, _, o4⟩ := oddR_lt h0 h1
  have e : (1074 + k).toNat = twos (units Ieee.single r) + 925 := by rw [hk]; unfold powR; omega
  rw [e, hm] at h
  have n := narrow h o4 (by rw [s_inf]; exact h1)
  unfold fCv
  rw [n]
  rfl

set_option maxRecDepth 100000 in
theorem readSize_zero (w : World) : Calls Tryd.prog 22 #[.string ⟨#[48]⟩] w (GivesSize [48] w) := by
  go_enter Tryd.func22, Tryd.ntmps22
  go_wp2_with fail
  go_ret2
  exact ⟨0, true, rfl, by omega, fun _ => by simp, fun _ => ⟨rfl, rfl⟩, fun r _ _ h => (zero_bare h).elim, Span.refl _ _ _⟩

set_option maxRecDepth 100000 in
set_option maxHeartbeats 2000000 in
theorem readSize_any (l : List UInt8) (hl : l.length ≤ 4194304) (h48 : l ≠ [48]) (w : World) (hE : Env w) : Calls Tryd.prog 22 #[.string ⟨l.toArray⟩] w (GivesSize l w) := by
  have HE := Lib.hid hE
  have H48 := Lib.hid h48
  have b48 : (l == [48]) = false := by rw [beq_eq_false_iff_ne]; exact h48
  clear hE h48
  go_enter Tryd.func22, Tryd.ntmps22
  go_wp2_with fail
  refine (cut_any l hl _ HE.out).mono ?_
  rintro _ _ ⟨a, b, fd, hc, ha, hb, rfl, n1, rfl⟩
  have HC := Lib.hid hc
  have S0 := Lib.hid ((Span.refl 0 0 w).drewN n1)
  clear hc
  go_wp2_with fail
  refine (atoi_any a (by omega) _ (HE.out.span S0.out)).mono ?_
  rintro _ w1 ⟨n, err, rfl, he, hv, s1⟩
  have S1 := Lib.hid (s1.after S0.out)
  have HV := Lib.hid hv
  clear hv s1
  have HE1 := Lib.hid he
  clear he
  go_wp2_with fail
  refine (atoi_any b (by omega) _ (HE.out.span S1.out)).mono ?_
  rintro _ w2 ⟨k, err2, rfl, he2, hv2, s2⟩
  have S2 := Lib.hid (s2.after S1.out)
  have HR : Hid (∀ r, 0 < r → r < 2139095040 → l = bareL r → fd = true ∧ err = .nilIface ∧ err2 = .nilIface ∧ n = (oddR r : Int) ∧ k = powR r) := by
    intro r h0 h1 hlr
    obtain ⟨_, _, _, _, h5, h6, h7⟩ := bare_range h0 h1
    have hc := HC.out
    rw [hlr, h5] at hc
    injection hc with e1 e2
    injection e2 with e2 e3
    subst e1 e2 e3
    obtain ⟨f1, f2⟩ := HV.out _ h6
    obtain ⟨f3, f4⟩ := hv2 _ h7
    exact ⟨rfl, f2, f4, f1, f3⟩
  have hne : Hid (fd = true → l ≠ []) := by
    intro hfd hl0
    have hc := HC.out
    rw [hl0] at hc
    have e0 : Lib.cut [] [112] = ([], [], false) := by decide +kernel
    rw [e0] at hc
    injection hc with _ e2
    injection e2 with _ e3
    rw [← e3] at hfd; cases hfd
  clear hv2 s2 HV HC
  have he := HE1.out
  clear HE1 HE S0 S1 ha hb hl
  cases fd with
  | false =>
    clear he he2
    go_wp2_with fail
    go_ret2
    exact ⟨0, false, rfl, by omega, (fun h => by cases h), fun h => absurd h H48.out, (fun r h0 h1 h => by have := (HR.out r h0 h1 h).1; cases this), S2.out⟩
  | true =>
    rcases he with rfl | ⟨t, p, rfl⟩
    · rcases he2 with rfl | ⟨t, p, rfl⟩
      · by_cases g1 : n < 1
        · have i1 : decide (n < 1) = true := by rw [decide_eq_true_iff]; exact g1
          go_wp2_with fail
          go_ret2
          exact ⟨0, false, rfl, by omega, (fun h => by cases h), fun h => absurd h H48.out, (fun r h0 h1 h => by have h2 := (HR.out r h0 h1 h).2.2.2.1; have := (bare_range h0 h1).1; omega), S2.out⟩
        · have i1 : decide (n < 1) = false := by rw [decide_eq_false_iff_not]; exact g1
          by_cases g2 : 16777216 ≤ n
          · have i2 : decide (16777216 ≤ n) = true := by rw [decide_eq_true_iff]; exact g2
            clear g1 g2
            go_wp2_with fail
            go_ret2
            have g2 := of_decide_eq_true i2
            exact ⟨0, false, rfl, by omega, (fun h => by cases h), fun h => absurd h H48.out, (fun r h0 h1 h => by have h2 := (HR.out r h0 h1 h).2.2.2.1; have := (bare_range h0 h1).2.1; omega), S2.out⟩
          · have i2 : decide (16777216 ≤ n) = false := by rw [decide_eq_false_iff_not]; exact g2
            obtain ⟨m, rfl⟩ := Int.eq_ofNat_of_zero_le (show 0 ≤ n by omega)
            by_cases g3 : k < -149
            · have i3 : decide (k < -149) = true := by rw [decide_eq_true_iff]; exact g3
              go_wp2_with fail
              go_ret2
              exact ⟨0, false, rfl, by omega, (fun h => by cases h), fun h => absurd h H48.out, (fun r h0 h1 h => by have h2 := (HR.out r h0 h1 h).2.2.2.2; have := (bare_range h0 h1).2.2.1; omega), S2.out⟩
            · have i3 : decide (k < -149) = false := by rw [decide_eq_false_iff_not]; exact g3
              obtain ⟨k1, k2, k3⟩ := bitLen_range (m := m) (by omega) (by omega)
              obtain ⟨bl, hbl⟩ : ∃ bl, bl = Lib.bitLen m := ⟨_, rfl⟩
              rw [← hbl] at k1 k2
              have HBL := Lib.hid hbl
              clear hbl k3
              have j1 : (1 : Int) ≤ (bl : Int) := by omega
              have j2 : (bl : Int) ≤ 24 := by omega
              have j3 : (m : Int) < 16777216 := by omega
              go_wp2_with fail
              refine (Tryd.bits_Len (m : Int) _ (by omega) (by omega)).mono ?_
              rintro _ _ ⟨rfl, rfl⟩
              rw [Int.toNat_natCast, ← HBL.out]
              by_cases g4 : 128 - (bl : Int) < k
              · have i4 : decide (128 - (bl : Int) < k) = true := by rw [decide_eq_true_iff]; exact g4
                go_wp2_with fail
                go_ret2
                exact ⟨0, false, rfl, by omega, (fun h => by cases h), fun h => absurd h H48.out, (fun r h0 h1 h => by
                  obtain ⟨_, _, _, h2, h3⟩ := HR.out r h0 h1 h
                  have h4 := (bare_range h0 h1).2.2.2.1
                  have h5 : m = oddR r := by omega
                  rw [← h5, ← HBL.out] at h4
                  omega), S2.out⟩
              · have i4 : decide (128 - (bl : Int) < k) = false := by rw [decide_eq_false_iff_not]; exact g4
                go_wp2_with fail
                refine (ldexp_any m (by omega) (by omega) k (by omega) (by omega) _).mono ?_
                rintro _ _ ⟨z', rfl, hz, rfl⟩
                have HZ := Lib.hid hz
                clear hz
                go_wp2_with fail
                go_ret2
                exact ⟨_, true, rfl, fCv32_lt _ _, fun _ => hne.out (by trivial), fun h => absurd h H48.out, (fun r h0 h1 h => by
                  obtain ⟨_, _, _, h2, h3⟩ := HR.out r h0 h1 h
                  refine ⟨rfl, narrow_back (m := m) (k := k) HZ.out h0 h1 (by omega) h3 _⟩), S2.out.drewN _⟩
      · go_wp2_with fail
        go_ret2
        exact ⟨0, false, rfl, by omega, (fun h => by cases h), fun h => absurd h H48.out, (fun r h0 h1 h => by have := (HR.out r h0 h1 h).2.2.1; cases this), S2.out⟩
    · clear he2
      go_wp2_with fail
      go_ret2
      exact ⟨0, false, rfl, by omega, (fun h => by cases h), fun h => absurd h H48.out, (fun r h0 h1 h => by have := (HR.out r h0 h1 h).2.1; cases this), S2.out⟩

end Go.Proofs.YthcccliiokckjaaDoor
