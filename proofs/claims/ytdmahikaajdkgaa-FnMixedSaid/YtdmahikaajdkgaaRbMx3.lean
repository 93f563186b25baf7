/- The law FnMixed. -/
import Derived.Test.YtdmahikaajdkgaaRbMx2
import Derived.Test.YtdmahikaajdkgaaRbMx1
import Derived.Outline
namespace Go.Proofs.Ytdmahikaajdkgaa
open Go.RowKit

theorem hbyUpW {B : Nat} {w : World} {A : Option Addr} {n : Nat} (h : HasBy B w A n) (hB : B ≤ w.heap.size) : HasBy w.heap.size w A n := fun hp => by
  obtain ⟨b, off, rfl, hb, hc⟩ := h hp
  exact ⟨b, off, rfl, by omega, hc⟩

set_option maxRecDepth 100000 in
set_option maxHeartbeats 16000000 in
theorem law_mixed (A : Option Addr) (n c : Nat) (w : World) (h : HasBy w.heap.size w A n) : Calls Try.prog 4 #[.slice A n c] w (Says w) := by
  by_cases hn : n ≤ 1048576
  · have Hn := Lib.hid hn
    have Hby := Lib.hid h
    have i0 : decide ((1048576 : Int) < (n : Int)) = false := by rw [decide_eq_false_iff_not]; omega
    clear hn h
    go_enter Try.func4, Try.ntmps4
    go_wp2_with fail
    refine (makeWhole_any 24 (by omega) (by omega) A n c w Hn.out Hby.out).mono ?_
    rintro _ w1 ⟨v, xs, rfl, hl, hq, ho, hb⟩
    obtain ⟨A1, q1, rfl⟩ := ownsRow_slice ho
    obtain ⟨bl, hs1, -, -⟩ := ownsRow_hasS ho
    obtain ⟨m, hm⟩ : ∃ t, t = xs.length := ⟨_, rfl⟩
    rw [← hm] at hl hs1 ⊢
    have HM := Lib.hid hm
    have HL := Lib.hid hl
    have HQ := Lib.hid hq
    have LS1 := Lib.hid hs1
    have B1 := Lib.hid hb
    have HY1 := Lib.hid (hbyUpW (Hby.out.below hb) hb.size)
    have iM : (m : Int) ≤ 24 := by omega
    clear hm hl hq ho hs1 hb
    go_upto_region 4 with fail
    go_cut [4] (fun s wx => ∃ t1 t2 U, s = .complex .f32 t1 t2 ∧ IsTurn U ∧ WholeC (t1, t2) U ∧ Span 0 0 w1 wx)
    case first =>
      go_wp2_with fail
      have SA := Lib.hid ((Span.refl 0 0 w1).alloc (.cells #[.complex .f32 0 1065353216, .complex .f32 0 3212836864, .complex .f32 3212836864 0] 27))
      refine (at_any w1.heap.size A n c 1 _ (by omega) (by omega) Hn.out (HY1.out.below (SA.out.below (Below.refl _ _) (.inl (Nat.le_refl _)) (Nat.le_refl _)))).mono ?_
      rintro _ _ ⟨⟨r, rfl, l, m'⟩, rfl⟩
      obtain ⟨r, rfl⟩ := Int.eq_ofNat_of_zero_le l
      have h3 : r % 3 = 0 ∨ r % 3 = 1 ∨ r % 3 = 2 := by omega
      have hr : (r : Int).tmod 3 = ((r % 3 : Nat) : Int) := by rw [Int.ofNat_tmod]; rfl
      clear l m'
      rcases h3 with h | h | h
      · rw [h] at hr
        have hr : (r : Int).tmod 3 = 0 := hr
        clear h
        go_wp2_with fail
        go_meet
        exact ⟨_, _, (0, 1), rfl, .inl rfl, turn_bits.1, SA.out⟩
      · rw [h] at hr
        have hr : (r : Int).tmod 3 = 1 := hr
        clear h
        go_wp2_with fail
        go_meet
        exact ⟨_, _, (0, -1), rfl, .inr (.inl rfl), turn_bits.2.1, SA.out⟩
      · rw [h] at hr
        have hr : (r : Int).tmod 3 = 2 := hr
        clear h
        go_wp2_with fail
        go_meet
        exact ⟨_, _, (-1, 0), rfl, .inr (.inr rfl), turn_bits.2.2, SA.out⟩
    case rest =>
      obtain ⟨t1, t2, U, rfl, hU, hT, hs⟩ := hcut
      have HU := Lib.hid hU
      have HT := Lib.hid hT
      have LSC := Lib.hid (LS1.out.span hs (.inl (Nat.le_refl _)))
      have HSC := Lib.hid hs.size
      have BC := Lib.hid (hs.below B1.out (.inl (Nat.le_refl _)) B1.out.size)
      obtain ⟨⟨s1, s2⟩, ⟨r1, r2⟩, e1, e2, hR⟩ := turn_back hU hT w
      have HE1 := Lib.hid e1
      have HE2 := Lib.hid e2
      have HR := Lib.hid hR
      clear hU hT hs e1 e2 hR HY1 LS1 B1
      go_wp2_with fail
      refine (impl_multiply_some (t1, t2) (t1, t2) (s1, s2) HE1.out _).mono ?_
      rintro _ _ ⟨rfl, rfl⟩
      go_wp2_with fail
      refine (impl_multiply_some (s1, s2) (t1, t2) (r1, r2) HE2.out _).mono ?_
      rintro _ _ ⟨rfl, rfl⟩
      go_wp2_with fail
      refine (newMixer_is t1 t2 _).mono ?_
      rintro _ w3 ⟨rfl, s3⟩
      have A3 := Bx.new w3 #[.int .i64 2, .complex .f32 t1 t2, .complex .f32 1065353216 0, .float .f32 0, .slice none 0 0, .int .i64 0, .int .i64 0, .slice none 0 0, .slice none 0 0, .int .i64 0, .int .i64 0] 35
      have LS3 := Lib.hid ((LSC.out.span s3 (.inl (Nat.le_refl _))).alloc (.cells #[.int .i64 2, .complex .f32 t1 t2, .complex .f32 1065353216 0, .float .f32 0, .slice none 0 0, .int .i64 0, .int .i64 0, .slice none 0 0, .slice none 0 0, .int .i64 0, .int .i64 0] 35))
      have B3 := Lib.hid ((s3.below BC.out (.inl (Nat.le_refl _)) BC.out.size).alloc (Nat.le_trans BC.out.size s3.size) (.cells #[.int .i64 2, .complex .f32 t1 t2, .complex .f32 1065353216 0, .float .f32 0, .slice none 0 0, .int .i64 0, .int .i64 0, .slice none 0 0, .slice none 0 0, .int .i64 0, .int .i64 0] 35))
      obtain ⟨ba, hba⟩ : ∃ t, t = w3.heap.size := ⟨_, rfl⟩
      have HBA := Lib.hid (show w1.heap.size ≤ ba ∧ w.heap.size ≤ ba from ⟨by have := HSC.out; have := s3.size; omega, by have := BC.out.size; have := s3.size; omega⟩)
      rw [← hba] at A3
      have A3 := Lib.hid A3
      clear s3 LSC BC
      go_wp2_with fail
      rw [← hba]
      clear hba
      generalize w3.alloc (.cells #[.int .i64 2, .complex .f32 t1 t2, .complex .f32 1065353216 0, .float .f32 0, .slice none 0 0, .int .i64 0, .int .i64 0, .slice none 0 0, .slice none 0 0, .int .i64 0, .int .i64 0] 35) = w4 at *
      refine (newMixer_is r1 r2 _).mono ?_
      rintro _ w5 ⟨rfl, s5⟩
      have A6 := Lib.hid ((A3.out.keep s5).alloc (.cells #[.int .i64 2, .complex .f32 r1 r2, .complex .f32 1065353216 0, .float .f32 0, .slice none 0 0, .int .i64 0, .int .i64 0, .slice none 0 0, .slice none 0 0, .int .i64 0, .int .i64 0] 35))
      have B6 := Bx.new w5 #[.int .i64 2, .complex .f32 r1 r2, .complex .f32 1065353216 0, .float .f32 0, .slice none 0 0, .int .i64 0, .int .i64 0, .slice none 0 0, .slice none 0 0, .int .i64 0, .int .i64 0] 35
      have LS6 := Lib.hid ((LS3.out.span s5 (.inl (Nat.le_refl _))).alloc (.cells #[.int .i64 2, .complex .f32 r1 r2, .complex .f32 1065353216 0, .float .f32 0, .slice none 0 0, .int .i64 0, .int .i64 0, .slice none 0 0, .slice none 0 0, .int .i64 0, .int .i64 0] 35))
      have BB6 := Lib.hid ((s5.below B3.out (.inl (Nat.le_refl _)) B3.out.size).alloc (Nat.le_trans B3.out.size s5.size) (.cells #[.int .i64 2, .complex .f32 r1 r2, .complex .f32 1065353216 0, .float .f32 0, .slice none 0 0, .int .i64 0, .int .i64 0, .slice none 0 0, .slice none 0 0, .int .i64 0, .int .i64 0] 35))
      obtain ⟨bb, hbb⟩ : ∃ t, t = w5.heap.size := ⟨_, rfl⟩
      have HBB := Lib.hid (show ba < bb by have := A3.out.1; have := s5.size; omega)
      rw [← hbb] at B6
      have B6 := Lib.hid B6
      clear s5 LS3 B3 A3
      go_wp2_with fail
      rw [← hbb]
      clear hbb
      generalize w5.alloc (.cells #[.int .i64 2, .complex .f32 r1 r2, .complex .f32 1065353216 0, .float .f32 0, .slice none 0 0, .int .i64 0, .int .i64 0, .slice none 0 0, .slice none 0 0, .int .i64 0, .int .i64 0] 35) = w6 at *
      go_loopw [8, 9, 10, 11, 12, 13, 14, 15, 42] (fun _ _ _ _ _ _ _ _ i wr => ∃ (k a1 a2 b1 b2 : Nat), k ≤ m ∧ i = .int .i64 k ∧ WholeC (a1, a2) (upow U k) ∧ WholeC (b1, b2) ((upow U k).1, -(upow U k).2) ∧ Bx ba #[.int .i64 2, .complex .f32 t1 t2, .complex .f32 a1 a2, .float .f32 0, .slice none 0 0, .int .i64 0, .int .i64 0, .slice none 0 0, .slice none 0 0, .int .i64 0, .int .i64 0] wr ∧ Bx bb #[.int .i64 2, .complex .f32 r1 r2, .complex .f32 b1 b2, .float .f32 0, .slice none 0 0, .int .i64 0, .int .i64 0, .slice none 0 0, .slice none 0 0, .int .i64 0, .int .i64 0] wr ∧ Span ba (bb + 1) w6 wr) (fun _ _ _ _ _ _ _ _ i _ => m - (intOf i).toNat)
      case atStart => exact ⟨0, 1065353216, 0, 1065353216, 0, Nat.zero_le _, rfl, wholeC_one, wholeC_one, A6.out, B6.out, Span.refl _ _ _⟩
      case round =>
        obtain ⟨k, a1, a2, b1, b2, hk, rfl, hsa, hsb, hxa, hxb, hs⟩ := hrel
        have XA := Lib.hid hxa
        have XB := Lib.hid hxb
        have HS := Lib.hid hs
        have ca := hxa.cells
        by_cases hlt : k < m
        · have hkx : k < xs.length := by rw [← HM.out]; exact hlt
          obtain ⟨⟨z1, z2⟩, hz⟩ := getElem?_some hkx
          obtain ⟨a, b, hze, g1, g2, g3, g4⟩ := HQ.out _ (List.mem_of_getElem? hz)
          have hzw : WholeC (z1, z2) (a, b) := by
            rw [hze]; exact ⟨whole_fi (by omega), whole_fi (by omega)⟩
          obtain ⟨⟨y1, y2⟩, ⟨x1, x2⟩, ⟨c1, c2⟩, ⟨d1, d2⟩, m1, m2, m3, m4, v1, v2, v3, v4⟩ := mixed_step HU.out (t := (t1, t2)) (r := (r1, r2)) (sa := (a1, a2)) (sb := (b1, b2)) (z := (z1, z2)) k HT.out HR.out hsa hsb hzw (by omega) (by omega) w
          have hLr := LS6.out.span hs (.inr (.inl HBA.out.1))
          obtain ⟨A', cap', e, _, hc⟩ := hLr
          injection e with e1 e2 e3
          subst e1
          obtain ⟨off, rfl, _, _, _, hcell, _⟩ := hc (by omega)
          have hck : wr.cell? ⟨bl, off + k, none⟩ = some (.complex .f32 z1 z2) := hcell k _ hz
          have ST1 := Lib.hid (fun w => stepModule_mixer t1 t2 a1 a2 c1 c2 z1 z2 y1 y2 m1 m3 w)
          have ST2 := Lib.hid (fun w => stepModule_mixer r1 r2 b1 b2 d1 d2 y1 y2 x1 x2 m2 m4 w)
          have V1 := Lib.hid (eq_whole v1 hzw)
          have V2 := Lib.hid (fun h => eq_whole (v2 h) hzw)
          have V3 := Lib.hid v3
          have V4 := Lib.hid v4
          have HLT := Lib.hid hlt
          have i2 : (0 : Int) ≤ (k : Int) := by omega
          have i3 : (k : Int) < (m : Int) := by omega
          have i4 : (k : Int).tmod 4 = ((k % 4 : Nat) : Int) := by rw [Int.ofNat_tmod]; rfl
          obtain ⟨q4, hq4⟩ : ∃ t, t = k % 4 := ⟨_, rfl⟩
          rw [← hq4] at i4
          have HQ4 := Lib.hid hq4
          have iq : (q4 : Int) ≤ 3 := by omega
          have NEA := Lib.hid (show ba < wr.heap.size ∧ bb < wr.heap.size from ⟨hxa.1, hxb.1⟩)
          clear hkx hz hze g1 g2 g3 g4 hzw m1 m2 m3 m4 v1 v2 v3 v4 hc e2 e3 hcell hxa hxb hs hsa hsb hk hlt hq4
          go_wp2_with fail
          refine (ST1.out _).mono ?_
          rintro _ wa ⟨rfl, sa⟩
          have S1 := Lib.hid (sa.alloc (.cells #[.int .i64 2, .complex .f32 t1 t2, .complex .f32 c1 c2, .float .f32 0, .slice none 0 0, .int .i64 0, .int .i64 0, .slice none 0 0, .slice none 0 0, .int .i64 0, .int .i64 0] 35))
          have N1 := Lib.hid (Bx.new wa #[.int .i64 2, .complex .f32 t1 t2, .complex .f32 c1 c2, .float .f32 0, .slice none 0 0, .int .i64 0, .int .i64 0, .slice none 0 0, .slice none 0 0, .int .i64 0, .int .i64 0] 35)
          have cb := ((XB.out.keep sa).alloc (.cells #[.int .i64 2, .complex .f32 t1 t2, .complex .f32 c1 c2, .float .f32 0, .slice none 0 0, .int .i64 0, .int .i64 0, .slice none 0 0, .slice none 0 0, .int .i64 0, .int .i64 0] 35)).cells
          have Z1 := Lib.hid sa.size
          clear sa ca hck
          go_wp2_with fail
          refine (ST2.out _).mono ?_
          rintro _ wb ⟨rfl, sb⟩
          have S2 := Lib.hid ((S1.out.trans sb).alloc (.cells #[.int .i64 2, .complex .f32 r1 r2, .complex .f32 d1 d2, .float .f32 0, .slice none 0 0, .int .i64 0, .int .i64 0, .slice none 0 0, .slice none 0 0, .int .i64 0, .int .i64 0] 35))
          have N2 := Lib.hid ((N1.out.keep sb).alloc (.cells #[.int .i64 2, .complex .f32 r1 r2, .complex .f32 d1 d2, .float .f32 0, .slice none 0 0, .int .i64 0, .int .i64 0, .slice none 0 0, .slice none 0 0, .int .i64 0, .int .i64 0] 35))
          have O2 := Lib.hid (Bx.new wb #[.int .i64 2, .complex .f32 r1 r2, .complex .f32 d1 d2, .float .f32 0, .slice none 0 0, .int .i64 0, .int .i64 0, .slice none 0 0, .slice none 0 0, .int .i64 0, .int .i64 0] 35)
          have XA2 := Lib.hid (XA.out.keep S2.out)
          have XB2 := Lib.hid (XB.out.keep S2.out)
          have hn := NEA.out
          have z1' := Z1.out
          have z2' := sb.size
          have z3' : wa.heap.size + 1 ≤ wb.heap.size := by simpa using z2'
          have n1 : ¬ ba = wa.heap.size := by omega
          have n2 : ¬ wa.heap.size = ba := by omega
          have n3 : ¬ ba = wb.heap.size := by omega
          have n4 : ¬ wb.heap.size = ba := by omega
          have n5 : ¬ bb = wb.heap.size := by omega
          have n6 : ¬ wb.heap.size = bb := by omega
          have NN := Lib.hid (show ba ≠ wb.heap.size ∧ bb ≠ wb.heap.size ∧ wa.heap.size ≠ wb.heap.size from ⟨n3, n5, by omega⟩)
          have ox1 : FloatKind.f32.format.order x1 z1 = some .eq := V1.out.1
          have ox2 : FloatKind.f32.format.order x2 z2 = some .eq := V1.out.2
          clear sb cb hn z1' z2' z3' n1 n2 n3 n4 n5 n6 S1 N1
          go_upto_region 13 with fail
          go_cut [81] (fun s wx => s = .bool false ∧ wx = wb.alloc (.cells #[.int .i64 2, .complex .f32 r1 r2, .complex .f32 d1 d2, .float .f32 0, .slice none 0 0, .int .i64 0, .int .i64 0, .slice none 0 0, .slice none 0 0, .int .i64 0, .int .i64 0] 35))
          case first =>
            by_cases h4 : q4 = 0
            · have oy := V2.out (by rw [← HQ4.out]; exact h4)
              have oy1 : FloatKind.f32.format.order y1 z1 = some .eq := oy.1
              have oy2 : FloatKind.f32.format.order y2 z2 = some .eq := oy.2
              have i6 : (k : Int).tmod 4 = 0 := by rw [i4, h4]; rfl
              clear oy i4 h4
              go_wp2_with fail
              go_meet
              exact ⟨rfl, rfl⟩
            · have i5 : ¬ ((q4 : Int) = 0) := by omega
              go_wp2_with fail
              go_meet
              exact ⟨rfl, rfl⟩
          case rest =>
            obtain ⟨rfl, rfl⟩ := hcut
            clear ox1 ox2 i4
            have n2c := N2.out.cells
            have xac := XA2.out.cells
            have xaf := XA2.out.thaw
            go_upto_region 16 with fail
            have hne := NN.out
            have XA3 := Lib.hid (XA2.out.set11 (.int .i64 2) (.complex .f32 t1 t2) (.complex .f32 c1 c2) (.float .f32 0) (.slice none 0 0) (.int .i64 0) (.int .i64 0) (.slice none 0 0) (.slice none 0 0) (.int .i64 0) (.int .i64 0))
            have T1 := (Span.refl ba (ba + 1) (wb.alloc (.cells #[.int .i64 2, .complex .f32 r1 r2, .complex .f32 d1 d2, .float .f32 0, .slice none 0 0, .int .i64 0, .int .i64 0, .slice none 0 0, .slice none 0 0, .int .i64 0, .int .i64 0] 35))).put11 (b := ba) ⟨Nat.le_refl _, Nat.lt_succ_self _⟩ (.int .i64 2) (.complex .f32 t1 t2) (.complex .f32 c1 c2) (.float .f32 0) (.slice none 0 0) (.int .i64 0) (.int .i64 0) (.slice none 0 0) (.slice none 0 0) (.int .i64 0) (.int .i64 0)
            have hbb := HBB.out
            have O3 := Lib.hid (O2.out.span T1 (by omega))
            have XB3 := Lib.hid (XB2.out.span T1 (by omega))
            have S3 := Lib.hid ((HS.out.trans (S2.out.wide (fun _ _ h => by omega))).put11 (b := ba) ⟨Nat.le_refl _, by omega⟩ (.int .i64 2) (.complex .f32 t1 t2) (.complex .f32 c1 c2) (.float .f32 0) (.slice none 0 0) (.int .i64 0) (.int .i64 0) (.slice none 0 0) (.slice none 0 0) (.int .i64 0) (.int .i64 0))
            clear n2c xac xaf T1 hne hbb XA2 XB2 O2 N2 S2 XA XB HS
            generalize ((((((((((((wb.alloc (.cells #[.int .i64 2, .complex .f32 r1 r2, .complex .f32 d1 d2, .float .f32 0, .slice none 0 0, .int .i64 0, .int .i64 0, .slice none 0 0, .slice none 0 0, .int .i64 0, .int .i64 0] 35)).setCell ⟨ba, 0, none⟩ (.int .i64 2)).setCell ⟨ba, 1, none⟩ (.complex .f32 t1 t2)).setCell ⟨ba, 2, none⟩ (.complex .f32 c1 c2)).setCell ⟨ba, 3, none⟩ (.float .f32 0)).setCell ⟨ba, 4, none⟩ (.slice none 0 0)).setCell ⟨ba, 5, none⟩ (.int .i64 0)).setCell ⟨ba, 6, none⟩ (.int .i64 0)).setCell ⟨ba, 7, none⟩ (.slice none 0 0)).setCell ⟨ba, 8, none⟩ (.slice none 0 0)).setCell ⟨ba, 9, none⟩ (.int .i64 0)).setCell ⟨ba, 10, none⟩ (.int .i64 0)) = w8 at *
            have o3c := O3.out.cells
            have xbc := XB3.out.cells
            have xbf := XB3.out.thaw
            go_wp2_with fail
            have hbb := HBB.out
            have XB4 := Lib.hid (XB3.out.set11 (.int .i64 2) (.complex .f32 r1 r2) (.complex .f32 d1 d2) (.float .f32 0) (.slice none 0 0) (.int .i64 0) (.int .i64 0) (.slice none 0 0) (.slice none 0 0) (.int .i64 0) (.int .i64 0))
            have T2 := (Span.refl bb (bb + 1) w8).put11 (b := bb) ⟨Nat.le_refl _, Nat.lt_succ_self _⟩ (.int .i64 2) (.complex .f32 r1 r2) (.complex .f32 d1 d2) (.float .f32 0) (.slice none 0 0) (.int .i64 0) (.int .i64 0) (.slice none 0 0) (.slice none 0 0) (.int .i64 0) (.int .i64 0)
            have XA4 := Lib.hid (XA3.out.span T2 (by omega))
            have S4 := Lib.hid (S3.out.put11 (b := bb) ⟨by omega, Nat.lt_succ_self _⟩ (.int .i64 2) (.complex .f32 r1 r2) (.complex .f32 d1 d2) (.float .f32 0) (.slice none 0 0) (.int .i64 0) (.int .i64 0) (.slice none 0 0) (.slice none 0 0) (.int .i64 0) (.int .i64 0))
            clear T2 hbb
            go_roundw
            case rel => exact ⟨k + 1, c1, c2, d1, d2, HLT.out, by first | rfl | go_num | simp, V3.out, V4.out, XA4.out, XB4.out, S4.out⟩
            case measure => have := HLT.out; simp [intOf]; omega
        · have hkm : k = m := by omega
          have i3 : ¬ ((k : Int) < (m : Int)) := by omega
          have on1 : FloatKind.f32.format.order 1065353216 1065353216 = some .eq := by decide +kernel
          have oz : FloatKind.f32.format.order 0 0 = some .eq := by decide +kernel
          have BR := Lib.hid (hs.below BB6.out (.inr HBA.out.2) BB6.out.size)
          clear hkm hxa hxb hs hsa hsb hk
          go_wp2_with fail
          refine (resetModule_mixer t1 t2 a1 a2 _).mono ?_
          rintro _ v1 ⟨rfl, sp1⟩
          have BV1 := Lib.hid ((sp1.below BR.out (.inl (Nat.le_refl _)) BR.out.size).alloc (Nat.le_trans BR.out.size sp1.size) (.cells #[.int .i64 2, .complex .f32 t1 t2, .complex .f32 1065353216 0, .float .f32 0, .slice none 0 0, .int .i64 0, .int .i64 0, .slice none 0 0, .slice none 0 0, .int .i64 0, .int .i64 0] 35))
          clear sp1 ca
          go_wp2_with fail
          refine (tellModule_mixer t1 t2 1065353216 0 _).mono ?_
          rintro _ v2 ⟨rfl, sp2⟩
          have BV2 := Lib.hid (sp2.below BV1.out (.inl (Nat.le_refl _)) BV1.out.size)
          clear sp2
          go_wp2_with fail
          go_ret
          exact ⟨rfl, BV2.out⟩
  · have i0 : decide ((1048576 : Int) < (n : Int)) = true := by rw [decide_eq_true_iff]; omega
    clear hn h
    go_enter Try.func4, Try.ntmps4
    go_wp2_with fail
    go_ret
    exact ⟨rfl, Below.refl _ _⟩

end Go.Proofs.Ytdmahikaajdkgaa
