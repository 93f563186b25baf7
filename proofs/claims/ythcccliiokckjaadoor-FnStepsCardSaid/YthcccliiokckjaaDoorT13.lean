/- FnSteps, the walk. -/
import Derived.Test.YthcccliiokckjaaDoorT12
namespace Go.Proofs.YthcccliiokckjaaDoor
open Go.RowKit

theorem parse_fin {x : Nat} (hx : x < 4294967296) (hf : rungOf Ieee.single x < 2139095040) {w w' : World} {e : Ending} (h : GivesParse (fmtL x) w e w') : e = .returned (.tuple #[.float .f32 x, .bool true]) ∧ Span 0 0 w w' := by
  have hp : Parsed (fmtL x) x := ⟨hx, hf, rfl⟩
  obtain ⟨⟨y, hy, rfl⟩ | ⟨hn, _⟩, hs⟩ := h
  · rw [parsed_uniq hy hp]; exact ⟨rfl, hs⟩
  · exact absurd hp (hn x)
theorem parse_not {x : Nat} (hf : ¬ rungOf Ieee.single x < 2139095040) {w w' : World} {e : Ending} (h : GivesParse (fmtL x) w e w') : e = .returned (.tuple #[.float .f32 0, .bool false]) ∧ Span 0 0 w w' := by
  have he : fmtL x = [] := by unfold fmtL; rw [if_neg hf]
  obtain ⟨⟨y, hy, rfl⟩ | ⟨_, rfl⟩, hs⟩ := h
  · exfalso
    obtain ⟨c, l, _, h1, _⟩ := fmtL_parts hy.2.1
    rw [hy.2.2, he] at h1
    exact absurd h1 (by simp)
  · exact ⟨rfl, hs⟩

theorem fdr_sub {x : Nat} (hf : rungOf Ieee.single x < 2139095040) : (∀ w, fAr .sub .f32 x x w = 0) ∧ fDr .sub .f32 x x = 0 := by
  have h := sub_self_fin (x := x) (by rw [s_inf]; exact hf)
  exact ⟨fun w => by simp [fAr, h], by simp [fDr, h]⟩
theorem fdr_sub_not {x : Nat} (hf : ¬ rungOf Ieee.single x < 2139095040) : ∀ w, FloatKind.f32.format.order (fAr .sub .f32 x x w) 0 = none := by
  have h := sub_self_not (x := x) (by rw [s_inf]; exact hf)
  exact fun w => order_nan_left (fAr_nan w h)

/-- The steps of a number that may be none. -/
def StepsAre (y : Nat) (k : Int) (b : Bool) : Prop := (b = true ∧ rungOf Ieee.single y < 2139095040 ∧ k = stepsZ y) ∨ (b = false ∧ ¬ rungOf Ieee.single y < 2139095040 ∧ k = 0)
theorem steps_any (x : Nat) (hx : x < 4294967296) (w : World) : Calls Tryd.prog 8 #[.float .f32 x] w fun e w' => ∃ n k b, e = .returned (.tuple #[.int .i64 k, .bool b]) ∧ w' = w.drewN n ∧ StepsAre x k b := by
  refine (impl_stepsOf x hx w).mono ?_
  rintro e w' ⟨n, rfl, rfl⟩
  by_cases h : rungOf Ieee.single x < 2139095040
  · rw [if_pos h]; exact ⟨n, _, _, rfl, rfl, .inl ⟨rfl, h, rfl⟩⟩
  · rw [if_neg h]; exact ⟨n, _, _, rfl, rfl, .inr ⟨rfl, h, rfl⟩⟩

set_option maxRecDepth 100000 in
set_option maxHeartbeats 8000000 in
theorem law_steps (A : Option Addr) (n c : Nat) (w : World) (h : HasBy w.heap.size w A n) (hE : Env w) : Calls Tryd.prog 3 #[.slice A n c] w (Says w) := by
  by_cases hn : n ≤ 1048576
  · have HN := Lib.hid hn
    have HBy := Lib.hid h
    have HE := Lib.hid hE
    clear h hn hE
    have hn' : (n : Int) ≤ 1048576 := by have := HN.out; omega
    go_enter Tryd.func3, Tryd.ntmps3
    go_wp2_with fail
    refine (makeFloat_any A n c w HN.out HBy.out).mono ?_
    rintro _ w1 ⟨x, rfl, hx, hb1⟩
    have HX := Lib.hid hx
    have HB1 := Lib.hid hb1
    clear hx hb1
    go_wp2_with fail
    refine (fresh_any A n c 3 w1 (by omega) (by omega) HN.out (hby_up (HBy.out.below HB1.out) HB1.out.size)).mono ?_
    rintro _ w2 ⟨A2, n2, c2, rfl, hn2, hby2, hb2⟩
    have HBy2 := Lib.hid hby2
    have S2 := Lib.hid ((Span.of_below HB1.out).trans (Span.of_below hb2))
    clear hby2 hb2
    go_wp2_with fail
    refine (makeFloat_any A2 n2 c2 w2 (by omega) HBy2.out).mono ?_
    rintro _ w3 ⟨y, rfl, hy, hb3⟩
    have HY := Lib.hid hy
    have S3 := Lib.hid (S2.out.trans (Span.of_below hb3))
    clear hy hb3 HBy2 S2 HB1 HBy hn2 HN
    go_wp2_with fail
    refine (impl_stepsOf x HX.out _).mono ?_
    rintro _ _ ⟨n1, rfl, rfl⟩
    by_cases hfx : rungOf Ieee.single x < 2139095040
    · rw [if_pos hfx]
      obtain ⟨x1, x2⟩ := fdr_sub hfx
      have o00 : FloatKind.f32.format.order 0 0 = some .eq := by decide +kernel
      have sb := stepsZ_bound2 hfx
      obtain ⟨sx, hsx⟩ : ∃ sx, sx = stepsZ x := ⟨_, rfl⟩
      have HSX := Lib.hid hsx
      have HFX := Lib.hid hfx
      rw [← hsx] at sb ⊢
      obtain ⟨sb1, sb2⟩ := sb
      clear hsx hfx
      go_wp2_with fail
      refine (steps_any y HY.out _).mono ?_
      rintro _ _ ⟨n2, k, b, rfl, rfl, hst⟩
      have HST := Lib.hid hst
      clear hst
      go_upto_region 7 with fail
      go_cut [50] (fun v wx => v = .bool false ∧ ∃ m, wx = w3.drewN m)
      case first =>
        rcases HST.out with ⟨rfl, hfy, _⟩ | ⟨rfl, hfy, _⟩
        · obtain ⟨y1, y2⟩ := fdr_sub hfy
          clear hfy
          go_wp2_with fail
          go_meet
          exact ⟨rfl, _, rfl⟩
        · have y1 := fdr_sub_not hfy
          clear hfy
          go_wp2_with fail
          go_meet
          exact ⟨rfl, _, rfl⟩
      case rest =>
        obtain ⟨rfl, m, rfl⟩ := hcut
        clear x1 x2
        go_upto_region 9 with fail
        go_cut [72] (fun v wx => v = .bool false ∧ ∃ m, wx = w3.drewN m)
        case first =>
          rcases HST.out with ⟨rfl, hfy, hk⟩ | ⟨rfl, hfy, hk⟩
          · have ho := order_steps HX.out HY.out HFX.out hfy
            rw [← hk, ← HSX.out] at ho
            clear hk hfy HST
            rcases Int.lt_trichotomy sx k with hc | hc | hc
            · rw [(cmp_lt).2 hc] at ho
              have c1 : (sx == k) = false := by rw [beq_eq_false_iff_ne]; omega
              go_wp2_with fail
              go_meet
              exact ⟨rfl, _, rfl⟩
            · rw [(cmp_eq).2 hc] at ho
              subst hc
              go_wp2_with fail
              go_meet
              exact ⟨rfl, _, rfl⟩
            · rw [(cmp_gt).2 hc] at ho
              have c1 : (sx == k) = false := by rw [beq_eq_false_iff_ne]; omega
              have c2 : decide (sx < k) = false := by rw [decide_eq_false_iff_not]; omega
              go_wp2_with fail
              go_meet
              exact ⟨rfl, _, rfl⟩
          · clear hfy HST hk
            go_wp2_with fail
            go_meet
            exact ⟨rfl, _, rfl⟩
        case rest =>
          obtain ⟨rfl, m, rfl⟩ := hcut
          clear HST
          go_wp2_with fail
          refine (impl_formatSingle x HX.out _ (HE.out.1.span (S3.out.drewN _))).mono ?_
          rintro _ w4 ⟨rfl, s4⟩
          have S4 := Lib.hid (s4.after (S3.out.drewN m))
          clear s4
          go_wp2_with fail
          refine ((impl_parseSingle (fmtL x) (by have := fmtL_len (x := x); omega) _ (HE.out.span S4.out)).mono fun _ _ => parse_fin HX.out HFX.out).mono ?_
          rintro _ w5 ⟨rfl, s5⟩
          have S5 := Lib.hid (s5.after S4.out)
          clear s5
          go_wp2_with fail
          refine (impl_fromSteps sx (by omega) (by omega) _).mono ?_
          rintro _ _ ⟨m2, rfl, rfl⟩
          rw [if_pos (show -2139095039 ≤ sx ∧ sx ≤ 2139095039 by omega)]
          obtain ⟨fp1, fp2⟩ := fromB_parts (k := sx) (by omega)
          have fl := fromB_lt (k := sx) (by omega)
          have ob := order_steps fl HX.out (by rw [fp1]; omega) HFX.out
          rw [fp2, ← HSX.out, (cmp_eq).2 rfl] at ob
          have oxx := order_steps HX.out HX.out HFX.out HFX.out
          rw [(cmp_eq).2 rfl] at oxx
          have oz := order_steps HX.out (show 0 < 4294967296 by omega) HFX.out (by rw [rung_zero]; omega)
          rw [← HSX.out, show stepsZ 0 = 0 by decide +kernel] at oz
          obtain ⟨bk, hbk⟩ : ∃ bk, bk = fromB sx := ⟨_, rfl⟩
          rw [← hbk] at ob ⊢
          clear hbk fp1 fp2 fl
          go_wp2_with fail
          refine (impl_nextUp x HX.out _).mono ?_
          rintro _ _ ⟨m3, rfl, rfl⟩
          rw [← HSX.out]
          have HOZ : Hid (∀ s : Int, s = sx → s = 0 → ∃ r, (∀ w, fAr .quo .f32 1065353216 x w = r) ∧ fDr .quo .f32 1065353216 x = 0 ∧ ((FloatKind.f32.format.order r 0 = some .lt) ∨ (FloatKind.f32.format.order r 0 = some .gt))) := by
            intro s hs h0
            have hz : rungOf Ieee.single x = 0 := by
              have h1 := HSX.out
              unfold stepsZ at h1
              split at h1 <;> omega
            have hw := word_zero HX.out hz
            obtain ⟨r, r1, r2, r3⟩ := inv_zero (negOf Ieee.single x)
            rw [← hw] at r1 r2
            refine ⟨r, r1, r2, ?_⟩
            rw [r3]; cases negOf Ieee.single x <;> simp
          by_cases hmax : sx < 2139095039
          · rw [if_pos (show rungOf Ieee.single x < 2139095040 ∧ -2139095039 ≤ sx + 1 ∧ sx + 1 ≤ 2139095039 from ⟨HFX.out, by omega, by omega⟩)]
            obtain ⟨up1, up2⟩ := fromB_parts (k := sx + 1) (by omega)
            have ul := fromB_lt (k := sx + 1) (by omega)
            obtain ⟨up, hup⟩ : ∃ up, up = fromB (sx + 1) := ⟨_, rfl⟩
            rw [← hup] at up1 up2 ul ⊢
            have uf : rungOf Ieee.single up < 2139095040 := by rw [up1]; omega
            have ou := order_steps ul HX.out uf HFX.out
            rw [up2, ← HSX.out, (cmp_gt).2 (show sx < sx + 1 by omega)] at ou
            have UL := Lib.hid ul
            have UF := Lib.hid uf
            have UP2 := Lib.hid up2
            have OU := Lib.hid ou
            clear hup up1 up2 ul uf ou
            go_upto_region 18 with fail
            go_cut [124] (fun v wx => v = .bool false ∧ ∃ m, wx = w5.drewN m)
            case first =>
              rcases Int.lt_trichotomy sx 0 with hc | hc | hc
              · rw [(cmp_lt).2 hc] at oz
                go_wp2_with fail
                go_meet
                exact ⟨rfl, _, rfl⟩
              · obtain ⟨r, r1, r2, r3⟩ := HOZ.out sx rfl hc
                rw [(cmp_eq).2 hc] at oz
                rcases r3 with r3 | r3
                · go_wp2_with fail
                  go_meet
                  exact ⟨rfl, _, rfl⟩
                · go_wp2_with fail
                  go_meet
                  exact ⟨rfl, _, rfl⟩
              · rw [(cmp_gt).2 hc] at oz
                go_wp2_with fail
                go_meet
                exact ⟨rfl, _, rfl⟩
            case rest =>
              obtain ⟨rfl, m4, rfl⟩ := hcut
              clear oz oxx ob
              go_wp2_with fail
              refine (impl_nextDown up UL.out _).mono ?_
              rintro _ _ ⟨m5, rfl, rfl⟩
              rw [UP2.out, if_pos (show rungOf Ieee.single up < 2139095040 ∧ -2139095039 ≤ sx + 1 + -1 ∧ sx + 1 + -1 ≤ 2139095039 from ⟨UF.out, by omega, by omega⟩)]
              obtain ⟨dp1, dp2⟩ := fromB_parts (k := sx + 1 + -1) (by omega)
              have dl := fromB_lt (k := sx + 1 + -1) (by omega)
              have od := order_steps dl HX.out (by rw [dp1]; omega) HFX.out
              rw [dp2, ← HSX.out, (cmp_eq).2 (show sx + 1 + -1 = sx by omega)] at od
              generalize fromB (sx + 1 + -1) = dn at *
              clear dp1 dp2 dl
              go_wp2_with fail
              refine (impl_stepsBetween x HX.out up UL.out _).mono ?_
              rintro _ _ ⟨m6, rfl, rfl⟩
              rw [if_pos ⟨HFX.out, UF.out⟩, UP2.out, ← HSX.out, show sx + 1 - sx = 1 by omega]
              have ou := OU.out
              go_wp2_with fail
              go_ret
              exact ⟨rfl, (S5.out.drewN _).to_below (.inl (Nat.le_refl _))⟩
          · rw [if_neg (show ¬ (rungOf Ieee.single x < 2139095040 ∧ -2139095039 ≤ sx + 1 ∧ sx + 1 ≤ 2139095039) from fun h => by omega)]
            have hm : sx = 2139095039 := by omega
            have hc : 0 < sx := by omega
            rw [(cmp_gt).2 hc] at oz
            have hge : decide (sx < 2139095039) = false := by rw [decide_eq_false_iff_not]; exact hmax
            clear hm hmax
            go_wp2_with fail
            refine (impl_nextDown 0 (by omega) _).mono ?_
            rintro _ _ ⟨m5, rfl, rfl⟩
            rw [if_pos (show rungOf Ieee.single 0 < 2139095040 ∧ -2139095039 ≤ stepsZ 0 + -1 ∧ stepsZ 0 + -1 ≤ 2139095039 by decide +kernel)]
            generalize fromB (stepsZ 0 + -1) = dn
            go_wp2_with fail
            refine (impl_stepsBetween x HX.out 0 (by omega) _).mono ?_
            rintro _ _ ⟨m6, rfl, rfl⟩
            rw [if_pos ⟨HFX.out, by decide +kernel⟩]
            generalize stepsZ 0 - stepsZ x = kk
            go_wp2_with fail
            go_ret
            exact ⟨rfl, (S5.out.drewN _).to_below (.inl (Nat.le_refl _))⟩
    · rw [if_neg hfx]
      have x1 := fdr_sub_not hfx
      have HFX := Lib.hid hfx
      clear hfx
      go_wp2_with fail
      refine (steps_any y HY.out _).mono ?_
      rintro _ _ ⟨n2, k, b, rfl, rfl, hst⟩
      have HST := Lib.hid hst
      clear hst
      go_upto_region 7 with fail
      go_cut [50] (fun v wx => v = .bool false ∧ ∃ m, wx = w3.drewN m)
      case first =>
        rcases HST.out with ⟨rfl, hfy, _⟩ | ⟨rfl, hfy, _⟩
        · obtain ⟨y1, y2⟩ := fdr_sub hfy
          have o00 : FloatKind.f32.format.order 0 0 = some .eq := by decide +kernel
          clear hfy
          go_wp2_with fail
          go_meet
          exact ⟨rfl, _, rfl⟩
        · have y1 := fdr_sub_not hfy
          clear hfy
          go_wp2_with fail
          go_meet
          exact ⟨rfl, _, rfl⟩
      case rest =>
        obtain ⟨rfl, m, rfl⟩ := hcut
        clear HST
        clear x1
        go_wp2_with fail
        refine (impl_formatSingle x HX.out _ (HE.out.1.span (S3.out.drewN _))).mono ?_
        rintro _ w4 ⟨rfl, s4⟩
        have S4 := Lib.hid (s4.after (S3.out.drewN m))
        clear s4
        go_wp2_with fail
        refine ((impl_parseSingle (fmtL x) (by have := fmtL_len (x := x); omega) _ (HE.out.span S4.out)).mono fun _ _ => parse_not HFX.out).mono ?_
        rintro _ w5 ⟨rfl, s5⟩
        have S5 := Lib.hid (s5.after S4.out)
        clear s5
        go_wp2_with fail
        go_ret
        exact ⟨rfl, S5.out.to_below (.inl (Nat.le_refl _))⟩
  · have hgt : 1048576 < n := by omega
    clear h hn hE
    go_enter Tryd.func3, Tryd.ntmps3
    go_wp2_with fail
    go_ret
    exact ⟨rfl, Below.refl _ _⟩
end Go.Proofs.YthcccliiokckjaaDoor
