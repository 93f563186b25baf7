/- FnTables. -/
import Derived.Test.YthcccliiokckjaaU13
import Derived.Test.YthcccliiokckjaaF3
namespace Go.Proofs.Ythcccliiokckjaa
open Go.RowKit

theorem hasBy_span {w w' : World} {A : Option Addr} {n : Nat} (h : HasBy w.heap.size w A n) (s : Span 0 0 w w') : HasBy w'.heap.size w' A n := fun hp => by
  obtain ⟨b, off, rfl, hb, hc⟩ := h hp
  refine ⟨b, off, rfl, Nat.lt_of_lt_of_le hb s.size, fun j hj => ?_⟩
  obtain ⟨u, u0, u1, hu⟩ := hc j hj
  exact ⟨u, u0, u1, ((s.cells (Nat.le_refl _)).1 b _ hb).trans hu⟩

theorem put_some {t : Tab} {z : Cx} (hz : finC z) (n : Int) : ∃ u, putT t z n = some u := by
  unfold putT
  cases atC t.1 z with
  | some i => exact ⟨_, rfl⟩
  | none => exact ⟨_, by simp only []; rw [if_pos (finB_of hz)]⟩

theorem label_some {t : Tab} {z : Cx} {n : Int} (h : labelT t z = some n) : ∃ i, atC t.1 z = some i := by
  unfold labelT at h
  cases ha : atC t.1 z with
  | none => rw [ha] at h; cases h
  | some i => exact ⟨i, rfl⟩

theorem nan_eqC {x y : Nat} (hx : nanB .f32 x = true) (p : Cx) : eqC (x, y) p = false ∧ eqC p (x, y) = false := by
  unfold eqC ordEq
  rw [order_nan_left (y := p.1) hx, order_nan_right (x := p.1) hx]
  exact ⟨rfl, rfl⟩

theorem zero_quo : floatBits .quo .f32 0 0 = none := by decide +kernel

set_option maxRecDepth 100000 in
set_option maxHeartbeats 4000000 in
theorem law_tables (A : Option Addr) (n c : Nat) (w : World) (h : HasBy w.heap.size w A n) : Calls Try.prog 3 #[.slice A n c] w (Says w) := by
  by_cases hn : n ≤ 1048576
  · have HN := Lib.hid hn
    have HBy := Lib.hid h
    clear h hn
    have hn' : (n : Int) ≤ 1048576 := by have := HN.out; omega
    go_enter Try.func3, Try.ntmps3
    go_wp2_with fail
    refine (makeTable_any A n c w HN.out HBy.out).mono ?_
    rintro _ w1 ⟨t, v, rfl, hv, hl, ht, hb⟩
    obtain ⟨A1, q1, A2, q2, rfl⟩ := ht.form
    obtain ⟨lp, hlp⟩ : ∃ lp, lp = t.1.length := ⟨_, rfl⟩
    have hll : lp = t.2.length := by rw [hv.len]; exact hlp
    rw [← hlp, ← hll] at ht ⊢
    rw [← hlp] at hl
    have HLP := Lib.hid hlp
    have HV := Lib.hid hv
    have X3 := Lib.hid (Box.new w1 (.slice A1 lp q1) (.slice A2 lp q2) 26)
    have HT := Lib.hid (ht.span ((Span.refl 0 0 w1).alloc (.cells #[.slice A1 lp q1, .slice A2 lp q2] 26)) (.inl (Nat.le_refl _)))
    have HW := Lib.hid ((Span.of_below hb).alloc (.cells #[.slice A1 lp q1, .slice A2 lp q2] 26))
    have hlp15 : (lp : Int) ≤ 15 := by omega
    clear hlp hll hv ht hb
    go_wp2_with fail
    generalize w1.alloc (.cells #[.slice A1 lp q1, .slice A2 lp q2] 26) = w2 at *
    refine (fresh_any A n c 3 w2 (by omega) (by omega) HN.out (hasBy_span HBy.out HW.out)).mono ?_
    rintro _ w3 ⟨Ac, nc, cc, rfl, hnc, hbc, hb3⟩
    go_wp2_with fail
    refine (makePoint_any Ac nc cc w3 (by omega) hbc).mono ?_
    rintro _ w4 ⟨⟨z1, z2⟩, rfl, hz, hb4⟩
    have s4 : Span 0 0 w2 w4 := (Span.of_below hb4).after (Span.of_below hb3)
    have X4 := Lib.hid (X3.out.span s4 (.inl (Nat.le_refl _)))
    have HT4 := Lib.hid (HT.out.span s4 (.inl (Nat.le_refl _)))
    have HW4 := Lib.hid (s4.after HW.out)
    have HZ := Lib.hid hz
    clear X3 HT HW hb3 hb4 hbc hnc s4 hz
    obtain ⟨_, x0, x1, _, _⟩ := X4.out
    go_wp2_with fail
    refine (at_any w4.heap.size A n c 1 w4 (by omega) (by omega) HN.out (hasBy_span HBy.out HW4.out)).mono ?_
    rintro _ _ ⟨⟨lab, rfl, l0, l1⟩, rfl⟩
    go_wp2_with fail
    obtain ⟨u, hu⟩ := put_some (t := t) HZ.out lab
    have hlt : t.1.length < 64 := by rw [← HLP.out]; omega
    obtain ⟨hvu, hlu, hlu2⟩ := HV.out.put ⟨HZ.out.1.1, HZ.out.2.1⟩ hlt hu
    have hlab : labelT u (z1, z2) = some lab := by rw [label_put HV.out HZ.out hlt hu HZ.out, if_pos rfl]
    obtain ⟨i, hi⟩ := label_some hlab
    have HVU := Lib.hid hvu
    have HLAB := Lib.hid hlab
    have HI := Lib.hid hi
    have HU := Lib.hid hu
    have C1 := impl_putPoint t (z1, z2) lab true _ _ _ _ HT4.out HV.out hlt HZ.out
    rw [hu] at C1
    have HLT := Lib.hid hlt
    obtain ⟨up, hup⟩ : ∃ up, up = u.1.length := ⟨_, rfl⟩
    have hul : up = u.2.length := by rw [hvu.len]; exact hup
    have HUP := Lib.hid hup
    have HUL := Lib.hid hul
    have hu1 : lp ≤ up := by rw [hup, HLP.out]; exact hlu
    have hu2 : up ≤ lp + 1 := by rw [hup, HLP.out]; exact hlu2
    have HU1 := Lib.hid hu1
    have HU2 := Lib.hid hu2
    have HIU : Hid (i < up) := by unfold Hid; rw [hup]; exact atC_lt hi
    clear hvu hlab hi hu hlt hup hul hlu hlu2 hu1 hu2
    refine C1.mono ?_
    clear C1
    rintro _ w5 ⟨⟨v5, rfl, h5⟩, s5⟩
    obtain ⟨A3, q3, A4, q4, rfl⟩ := h5.form
    rw [← HUP.out, ← HUL.out] at h5 ⊢
    have X5 := Lib.hid ((X4.out.span s5 (.inl (Nat.le_refl _))).alloc (.cells #[.slice A3 up q3, .slice A4 up q4] 26))
    have HT5 := Lib.hid ((HT4.out.span s5 (.inl (Nat.le_refl _))).span ((Span.refl 0 0 w5).alloc (.cells #[.slice A3 up q3, .slice A4 up q4] 26)) (.inl (Nat.le_refl _)))
    have HW5 := Lib.hid ((s5.after HW4.out).alloc (.cells #[.slice A3 up q3, .slice A4 up q4] 26))
    have X6 := Lib.hid (Box.new w5 (.slice A3 up q3) (.slice A4 up q4) 26)
    have HU5 := Lib.hid (h5.span ((Span.refl 0 0 w5).alloc (.cells #[.slice A3 up q3, .slice A4 up q4] 26)) (.inl (Nat.le_refl _)))
    obtain ⟨_, y0, y1, _, _⟩ := X5.out
    clear s5 h5 x0 x1 X4 HT4 HW4
    go_wp2_with fail
    have C2 := spec_putPoint t (z1, z2) lab true _ _ _ _ HT5.out HV.out HLT.out ⟨HZ.out.1.1, HZ.out.2.1⟩
    rw [HU.out] at C2
    generalize w5.alloc (.cells #[.slice A3 up q3, .slice A4 up q4] 26) = w6 at *
    refine C2.mono ?_
    clear C2
    rintro _ w7 ⟨⟨v7, rfl, h7⟩, s7⟩
    obtain ⟨A5, q5, A6, q6, rfl⟩ := h7.form
    have s7' := s7.alloc (.cells #[.slice A5 u.1.length q5, .slice A6 u.2.length q6] 26)
    have X7 := Lib.hid (X5.out.span s7' (.inl (Nat.le_refl _)))
    have HT7 := Lib.hid (HT5.out.span s7' (.inl (Nat.le_refl _)))
    have HW7 := Lib.hid (s7'.after HW5.out)
    have Y7 := Lib.hid (X6.out.span s7' (.inl (Nat.le_refl _)))
    have HU7 := Lib.hid (HU5.out.span s7' (.inl (Nat.le_refl _)))
    obtain ⟨_, y2, y3, _, _⟩ := Y7.out
    clear s7 s7' h7 y0 y1 X5 HT5 HW5 HU5 X6
    go_wp2_with fail
    generalize w7.alloc (.cells #[.slice A5 u.1.length q5, .slice A6 u.2.length q6] 26) = w8 at *
    refine (impl_findPoint u (z1, z2) (fun p hp => eqC_sym (HVU.out.fin p hp) HZ.out) true _ _ _ _ HU7.out HVU.out).mono ?_
    rintro _ w9 ⟨rfl, s9⟩
    rw [HLAB.out]
    simp only [Option.getD_some, Option.isSome_some]
    have X9 := Lib.hid (X7.out.span s9 (.inl (Nat.le_refl _)))
    have HT9 := Lib.hid (HT7.out.span s9 (.inl (Nat.le_refl _)))
    have HW9 := Lib.hid (s9.after HW7.out)
    have Y9 := Lib.hid (Y7.out.span s9 (.inl (Nat.le_refl _)))
    have HU9 := Lib.hid (HU7.out.span s9 (.inl (Nat.le_refl _)))
    clear s9 X7 HT7 HW7 Y7 HU7 y2 y3
    obtain ⟨_, y2, y3, _, _⟩ := Y9.out
    go_wp2_with fail
    refine (impl_dropPoint u (z1, z2) i HI.out true _ _ _ _ HU9.out HVU.out HZ.out).mono ?_
    rintro _ w10 ⟨⟨v10, rfl, h10⟩, s10⟩
    obtain ⟨A7, q7, A8, q8, rfl⟩ := h10.form
    have hd1 : (dropT u i).1.length = up - 1 := by show (u.1.eraseIdx i).length = _; rw [List.length_eraseIdx_of_lt (by rw [← HUP.out]; exact HIU.out), ← HUP.out]
    have hd2 : (dropT u i).2.length = up - 1 := by show (u.2.eraseIdx i).length = _; rw [List.length_eraseIdx_of_lt (by rw [← HUL.out]; exact HIU.out), ← HUL.out]
    rw [hd1, hd2] at h10 ⊢
    have s10' := s10.alloc (.cells #[.slice A7 (up - 1) q7, .slice A8 (up - 1) q8] 26)
    have X11 := Lib.hid (X9.out.span s10' (.inl (Nat.le_refl _)))
    have HT11 := Lib.hid (HT9.out.span s10' (.inl (Nat.le_refl _)))
    have HW11 := Lib.hid (s10'.after HW9.out)
    have Y11 := Lib.hid (Y9.out.span s10' (.inl (Nat.le_refl _)))
    have Z11 := Lib.hid (Box.new w10 (.slice A7 (up - 1) q7) (.slice A8 (up - 1) q8) 26)
    have HD11 := Lib.hid (h10.span ((Span.refl 0 0 w10).alloc (.cells #[.slice A7 (up - 1) q7, .slice A8 (up - 1) q8] 26)) (.inl (Nat.le_refl _)))
    clear s10 s10' h10 hd1 hd2 y2 y3 X9 HT9 HW9 Y9 HU9
    go_wp2_with fail
    generalize w10.alloc (.cells #[.slice A7 (up - 1) q7, .slice A8 (up - 1) q8] 26) = w11 at *
    refine (impl_findPoint (dropT u i) (z1, z2) (fun p hp => eqC_sym ((HVU.out.drop i).fin p hp) HZ.out) true _ _ _ _ HD11.out (HVU.out.drop i)).mono ?_
    rintro _ w12 ⟨rfl, s12⟩
    rw [drop_gone HVU.out HZ.out HI.out]
    simp only [Option.getD_none, Option.isSome_none]
    obtain ⟨_, x0, x1, _, _⟩ := X11.out.span s12 (.inl (Nat.le_refl _))
    obtain ⟨_, y0, y1, _, _⟩ := Y11.out.span s12 (.inl (Nat.le_refl _))
    obtain ⟨_, k0, k1, _, _⟩ := Z11.out.span s12 (.inl (Nat.le_refl _))
    have X12 := Lib.hid (X11.out.span s12 (.inl (Nat.le_refl _)))
    have HT12 := Lib.hid (HT11.out.span s12 (.inl (Nat.le_refl _)))
    have HW12 := Lib.hid (s12.after HW11.out)
    have j1 : ((up - 1 : Nat) : Int) = (up : Int) - 1 := by have := HIU.out; omega
    have j2 : (lp : Int) ≤ (up : Int) := by have := HU1.out; omega
    have j3 : (up : Int) ≤ 16 := by have := HU2.out; omega
    clear s12 X11 HT11 HW11 Y11 Z11 HD11
    go_wp2_with fail
    have HNAN := Lib.hid (fAr_nan w12 zero_quo)
    generalize fAr BinOp.quo FloatKind.f32 0 0 w12 = nn at *
    clear x0 x1 y0 y1 k0 k1 j1 j2 j3
    refine (impl_findPoint t (nn, 0) (fun p _ => by rw [(nan_eqC HNAN.out p).1, (nan_eqC HNAN.out p).2]) true _ _ _ _ (HT12.out.span ((Span.refl 0 0 w12).drewN _) (.inl (Nat.le_refl _))) HV.out).mono ?_
    rintro _ w13 ⟨rfl, s13⟩
    have hno : labelT t (nn, 0) = none := by
      unfold labelT
      rw [atC_none.2 (fun p _ => (nan_eqC HNAN.out p).2)]
      rfl
    rw [hno]
    simp only [Option.getD_none, Option.isSome_none]
    have s13' := s13.after ((Span.refl 0 0 w12).drewN _)
    have X13 := Lib.hid (X12.out.span s13' (.inl (Nat.le_refl _)))
    have HT13 := Lib.hid (HT12.out.span s13' (.inl (Nat.le_refl _)))
    have HW13 := Lib.hid (s13'.after HW12.out)
    clear hno s13 s13' X12 HT12 HW12 HLAB HU HVU HI HUP HUL HU1 HU2 HIU HZ HNAN
    go_wp2_with fail
    refine (fresh_any A n c 5 w13 (by omega) (by omega) HN.out (hasBy_span HBy.out HW13.out)).mono ?_
    rintro _ w14 ⟨Ad, nd, cd, rfl, hnd, hbd, hb14⟩
    go_wp2_with fail
    refine (makeFloat_any Ad nd cd w14 (by omega) hbd).mono ?_
    rintro _ w15 ⟨r1, rfl, hr1, hb15⟩
    have s15 : Span 0 0 w13 w15 := (Span.of_below hb15).after (Span.of_below hb14)
    have HW15 := Lib.hid (s15.after HW13.out)
    go_wp2_with fail
    refine (fresh_any A n c 7 w15 (by omega) (by omega) HN.out (hasBy_span HBy.out HW15.out)).mono ?_
    rintro _ w16 ⟨Ae, ne, ce, rfl, hne, hbe, hb16⟩
    go_wp2_with fail
    refine (makeFloat_any Ae ne ce w16 (by omega) hbe).mono ?_
    rintro _ w17 ⟨r2, rfl, hr2, hb17⟩
    have s17 : Span 0 0 w13 w17 := (Span.of_below hb17).after ((Span.of_below hb16).after s15)
    have X17 := Lib.hid (X13.out.span s17 (.inl (Nat.le_refl _)))
    have HT17 := Lib.hid (HT13.out.span s17 (.inl (Nat.le_refl _)))
    have HW17 := Lib.hid (s17.after HW13.out)
    clear s15 s17 HW15 hb14 hb15 hb16 hb17 hbd hbe hnd hne X13 HT13 HW13 hr1 hr2
    obtain ⟨_, x0, x1, _, _⟩ := X17.out
    go_wp2_with fail
    refine (impl_nearestPoint t (r1, r2) true _ _ _ _ HT17.out HV.out).mono ?_
    rintro _ w18 ⟨rfl, s18⟩
    have X18 := Lib.hid (X17.out.span s18 (.inl (Nat.le_refl _)))
    have HT18 := Lib.hid (HT17.out.span s18 (.inl (Nat.le_refl _)))
    have HW18 := Lib.hid (s18.after HW17.out)
    have hne := nearC_to t.1 (r1, r2)
    clear s18 x0 x1 X17 HT17 HW17
    obtain ⟨_, x0, x1, _, _⟩ := X18.out
    obtain ⟨b1, b2, vP, vL, e, -, g1, -⟩ := HT18.out
    simp only [Value.agg.injEq, Array.mk.injEq, List.cons.injEq, and_true] at e
    obtain ⟨rfl, rfl⟩ := e
    obtain ⟨A9, q9, e9, -, hc⟩ := g1
    injection e9 with e9 el eq9
    subst e9 eq9
    clear el
    have HC := Lib.hid hc
    have i15 : (lp : Int) ≤ 15 := hlp15
    clear hc
    cases hs : nearC t.1 (r1, r2) with
    | none =>
      rw [hs] at hne
      have HNE : Hid (∀ j q, j < t.1.length → t.1[j]? = some q → nanB .f32 (distC q (r1, r2)) = true) := hne
      simp only [Option.map_none, Option.getD_none, Option.isSome_none]
      clear hs hne
      go_wp2_with fail
      go_loopw [146] (fun q wr => ∃ k m : Nat, k ≤ lp ∧ q = .int .i64 k ∧ wr = w18.drewN m) (fun q _ => lp - (intOf q).toNat)
      case atStart => exact ⟨0, 0, Nat.zero_le _, rfl, rfl⟩
      case round =>
        obtain ⟨k, m, hk, rfl, rfl⟩ := hrel
        by_cases hlt : k < lp
        · obtain ⟨p, hp⟩ := getElem?_some (xs := t.1) (j := k) (by rw [← HLP.out]; exact hlt)
          obtain ⟨off, rfl, _, _, _, hcell, _⟩ := HC.out (by rw [← HLP.out]; omega)
          have hck : w18.cell? ⟨b1, off + k, none⟩ = some (.complex .f32 p.1 p.2) := hcell k p hp
          have HD := Lib.hid (HNE.out k p (by rw [← HLP.out]; exact hlt) hp)
          clear hcell hp
          go_wp2_with fail
          refine (spec_distanceOf p (r1, r2) _).mono ?_
          rintro _ _ ⟨r, m2, rfl, rfl, hr⟩
          have hrn : nanB .f32 r = true := by
            rcases hr with rfl | h
            · exact HD.out
            · exact h.1
          have hro : FloatKind.f32.format.order r r = none := order_nan_left hrn
          clear hr hrn
          go_wp2_with fail
          go_roundw
          case rel => exact ⟨k + 1, _, by omega, by go_num, rfl⟩
          case measure => simp [intOf]; omega
        · have hke : k = lp := by omega
          have HK := Lib.hid hke
          clear hke
          go_wp2_with fail
          go_ret
          exact ⟨rfl, (HW18.out.drewN _).to_below (by omega)⟩
    | some im =>
      obtain ⟨i, mm⟩ := im
      rw [hs] at hne
      obtain ⟨h1, ⟨pi, hpi, hdi⟩, h3, h4⟩ := hne
      have H4 := Lib.hid h4
      have H3 := Lib.hid h3
      have HPI := Lib.hid hpi
      have HDI := Lib.hid hdi
      have hil : i < lp := by rw [HLP.out]; exact h1
      have i0 : (0 : Int) ≤ (i : Int) := by omega
      have i1 : (i : Int) < (lp : Int) := by omega
      simp only [Option.map_some, Option.getD_some, Option.isSome_some]
      clear hs h1 hpi hdi h3 h4
      go_wp2_with fail
      go_loopw [146] (fun q wr => ∃ k m : Nat, k ≤ lp ∧ q = .int .i64 k ∧ wr = w18.drewN m) (fun q _ => lp - (intOf q).toNat)
      case atStart => exact ⟨0, 0, Nat.zero_le _, rfl, rfl⟩
      case round =>
        obtain ⟨k, m, hk, rfl, rfl⟩ := hrel
        by_cases hlt : k < lp
        · obtain ⟨p, hp⟩ := getElem?_some (xs := t.1) (j := k) (by rw [← HLP.out]; exact hlt)
          obtain ⟨off, rfl, _, _, _, hcell, _⟩ := HC.out (by rw [← HLP.out]; omega)
          have hck : w18.cell? ⟨b1, off + k, none⟩ = some (.complex .f32 p.1 p.2) := hcell k p hp
          have hci : w18.cell? ⟨b1, off + i, none⟩ = some (.complex .f32 pi.1 pi.2) := hcell i pi HPI.out
          have HP := Lib.hid hp
          clear hcell hp
          cases hd : nanB .f32 (distC p (r1, r2)) with
          | true =>
            have HD := Lib.hid hd
            clear hd
            go_wp2_with fail
            refine (spec_distanceOf p (r1, r2) _).mono ?_
            rintro _ _ ⟨r, m2, rfl, rfl, hr⟩
            have hrn : nanB .f32 r = true := by
              rcases hr with rfl | h
              · exact HD.out
              · exact h.1
            have hro : FloatKind.f32.format.order r r = none := order_nan_left hrn
            clear hr hrn
            go_wp2_with fail
            go_roundw
            case rel => exact ⟨k + 1, _, by omega, by go_num, rfl⟩
            case measure => simp [intOf]; omega
          | false =>
            have HD := Lib.hid hd
            obtain ⟨g1, g2⟩ := H4.out k p (by rw [← HLP.out]; exact hlt) HP.out hd
            have hro : FloatKind.f32.format.order (distC p (r1, r2)) (distC p (r1, r2)) = some .eq := by rw [order_self, hd]; rfl
            have HO := Lib.hid g1
            have HO2 := Lib.hid g2
            generalize hdd : distC p (r1, r2) = d at *
            clear hd g1 g2
            go_wp2_with fail
            refine (spec_distanceOf p (r1, r2) _).mono ?_
            rintro _ _ ⟨r, m2, rfl, rfl, hr⟩
            obtain rfl : r = d := by
              rcases hr with h | h
              · rw [hdd] at h; exact h
              · have := HD.out; rw [← hdd, h.2] at this; cases this
            clear hr
            have e2 : (FloatKind.f32.format.order r mm == some .lt) = false := by
              cases h : (FloatKind.f32.format.order r mm == some .lt) with
              | false => rfl
              | true => exact absurd (by simpa using h) HO.out
            go_wp2_with fail
            refine (spec_distanceOf pi (r1, r2) _).mono ?_
            rintro _ _ ⟨r', m3, rfl, rfl, hr⟩
            obtain rfl : r' = mm := by
              rcases hr with h | h
              · exact h.trans HDI.out
              · have := H3.out; rw [← HDI.out, h.2] at this; cases this
            clear hr
            by_cases hki : k < i
            · have e3 : (FloatKind.f32.format.order r r' == some .eq) = false := by
                cases h : (FloatKind.f32.format.order r r' == some .eq) with
                | false => rfl
                | true => exact absurd (by simpa using h) (HO2.out hki)
              go_wp2_with fail
              refine (spec_distanceOf pi (r1, r2) _).mono ?_
              rintro _ _ ⟨r'', m4, rfl, rfl, hr⟩
              obtain rfl : r'' = r' := by
                rcases hr with h | h
                · exact h.trans HDI.out
                · have := H3.out; rw [← HDI.out, h.2] at this; cases this
              clear hr
              go_wp2_with fail
              go_roundw
              case rel => exact ⟨k + 1, _, by omega, by go_num, rfl⟩
              case measure => simp [intOf]; omega
            · go_wp2_with fail
              go_roundw
              case rel => exact ⟨k + 1, _, by omega, by go_num, rfl⟩
              case measure => simp [intOf]; omega
        · have hke : k = lp := by omega
          have HK := Lib.hid hke
          clear hke
          go_wp2_with fail
          go_ret
          exact ⟨rfl, (HW18.out.drewN _).to_below (by omega)⟩
  · have hn' : (1048576 : Int) < (n : Int) := by omega
    go_enter Try.func3, Try.ntmps3
    go_wp2
    go_ret
    exact ⟨rfl, Below.refl _ _⟩

end Go.Proofs.Ythcccliiokckjaa
