/- The law FnSliced. -/
import Derived.Test.YtfafkdpefdpnkaaGreatJq39
import Derived.Test.YtfafkdpefdpnkaaGreatJq44
import Derived.Test.YtfafkdpefdpnkaaGreatJq46
import Derived.Test.YtfafkdpefdpnkaaGreatJq47
import Derived.Test.YtfafkdpefdpnkaaGreatJq49
import Derived.Test.YtfafkdpefdpnkaaGreatJq50
import Derived.Deep.RegionHeld3
import Derived.Deep.QuietTactic
import Derived.BigQuiet
import Derived.Deep.DeepCutAuto
import Derived.Outline
namespace Go.Proofs.YtfafkdpefdpnkaaGreat
open Go.RowKit

theorem hbyUpS {B : Nat} {w : World} {A : Option Addr} {n : Nat} (h : HasBy B w A n) (hB : B ≤ w.heap.size) : HasBy w.heap.size w A n := fun hp => by
  obtain ⟨b, off, rfl, hb, hc⟩ := h hp
  exact ⟨b, off, rfl, by omega, hc⟩
theorem one_hasSS (w : World) (x y : Nat) : HasS cxV false w.heap.size 0 (w.heap.size + 1) (w.alloc (.cells #[.complex .f32 x y] 28)) (.slice (some ⟨w.heap.size, 0, none⟩) 1 1) [(x, y)] := by
  refine ⟨_, 1, rfl, Nat.le_refl _, fun _ => ⟨0, rfl, Nat.zero_le _, Nat.lt_succ_self _, by simp, fun j z hj => ?_, fun h => by cases h⟩⟩
  cases j with
  | zero =>
    simp at hj
    subst hj
    rw [World.cell?_alloc_new]
    rfl
  | succ j => simp at hj

/-- What stays: the table in its box, the samples. -/
def SlK (w : World) (t : Tab) (lp T : Nat) (A1 : Option Addr) (q1 : Nat) (A2 : Option Addr) (q2 gb L6 H6 m : Nat) (A6 : Option Addr) (q6 : Nat) (xs : List Cx) (wr : World) : Prop :=
  Bx T #[.slice A1 lp q1, .slice A2 lp q2] wr ∧ HasTab true w.heap.size T wr (.agg #[.slice A1 lp q1, .slice A2 lp q2]) t ∧ HasS cxV true gb L6 H6 wr (.slice A6 m q6) xs ∧ Span 0 0 w wr
theorem SlK.keep {w : World} {t : Tab} {lp T : Nat} {A1 : Option Addr} {q1 : Nat} {A2 : Option Addr} {q2 gb L6 H6 m : Nat} {A6 : Option Addr} {q6 : Nat} {xs : List Cx} {wr w' : World} (h : SlK w t lp T A1 q1 A2 q2 gb L6 H6 m A6 q6 xs wr) (s : Span 0 0 wr w') : SlK w t lp T A1 q1 A2 q2 gb L6 H6 m A6 q6 xs w' :=
  ⟨h.1.keep s, h.2.1.keepS s, h.2.2.1.span s (.inl (Nat.le_refl _)), h.2.2.2.trans s⟩
theorem SlK.put {w : World} {t : Tab} {lp T : Nat} {A1 : Option Addr} {q1 : Nat} {A2 : Option Addr} {q2 gb L6 H6 m : Nat} {A6 : Option Addr} {q6 : Nat} {xs : List Cx} {wr w' : World} {X : Nat} (h : SlK w t lp T A1 q1 A2 q2 gb L6 H6 m A6 q6 xs wr) (s : Span X (X + 1) wr w') (h1 : w.heap.size ≤ X) (h2 : T < X) (h3 : X < L6) : SlK w t lp T A1 q1 A2 q2 gb L6 H6 m A6 q6 xs w' :=
  ⟨h.1.span s (by omega), h.2.1.span s (by omega), h.2.2.1.span s (by omega), ⟨s.os.trans h.2.2.2.os, s.tape.trans h.2.2.2.tape, s.output.trans h.2.2.2.output, Nat.le_trans h.2.2.2.size s.size, fun k hk _ => (s.block k (Nat.lt_of_lt_of_le hk h.2.2.2.size) (by omega)).trans (h.2.2.2.block k hk (by omega))⟩⟩
/-- The slicer in its box. -/
def SlX (t : Tab) (lp X : Nat) (c : Int) (wr : World) : Prop :=
  ∃ A p B q lo hi, (hi ≤ X ∨ X < lo) ∧ Bx X #[.int .i64 6, .complex .f32 0 0, .complex .f32 0 0, .float .f32 0, .slice none 0 0, .int .i64 0, .int .i64 0, .slice A lp p, .slice B lp q, .int .i64 c, .int .i64 0] wr ∧ HasTab true lo hi wr (.agg #[.slice A lp p, .slice B lp q]) t

/-- A grid's points are their own nearest ones. -/
theorem slicO_grid {s k : Nat} (h8 : s ≤ 8) (h1 : 1 ≤ s) {z : Cx} (hz : (gridP s (s * s))[k]? = some z) : slicO (gridT s) z = (z, (k : Int)) ∧ FloatKind.f32.format.order z.1 z.1 = some .eq ∧ FloatKind.f32.format.order z.2 z.2 = some .eq := by
  have hk := (List.getElem?_eq_some_iff.1 hz).1
  have hw := (grid_placed h8 h1).whole k z hz
  have hn := (grid_placed h8 h1).near hk hw
  have hl : (gridL (s * s))[k]? = some (k : Int) := gridL_get (by rw [gridP_length] at hk; exact hk)
  have hf := (grid_valid h8 h1).fin z (List.mem_of_getElem? hz)
  refine ⟨?_, ?_, ?_⟩
  · unfold slicO
    rw [show nearC (gridT s).1 z = some (k, fi 0) from hn]
    simp only [gridT, List.getD_eq_getElem?_getD, hz, hl, Option.getD_some]
  · rw [order_self, not_nan_of_fin (by rw [s_inf]; exact hf.1.2)]; rfl
  · rw [order_self, not_nan_of_fin (by rw [s_inf]; exact hf.2.2)]; rfl

set_option maxRecDepth 100000 in
set_option maxHeartbeats 8000000 in
theorem law_sliced (A : Option Addr) (n c : Nat) (w : World) (h : HasBy w.heap.size w A n) : Calls Tryz.prog 3 #[.slice A n c] w (Says w) := by
  by_cases hn : n ≤ 1048576
  · have Hn := Lib.hid hn
    have HBy := Lib.hid h
    have i0 : decide ((1048576 : Int) < (n : Int)) = false := by rw [decide_eq_false_iff_not]; omega
    clear hn h
    go_enter Tryz.func3, Tryz.ntmps3
    go_wp2_with fail
    refine (makeTable_any A n c w Hn.out HBy.out).mono ?_
    rintro _ w1 ⟨t, v, rfl, hv, hl, ht, hb⟩
    obtain ⟨A1, q1, A2, q2, rfl⟩ := ht.form
    obtain ⟨lp, hlp⟩ : ∃ lp, lp = t.1.length := ⟨_, rfl⟩
    have hll : lp = t.2.length := by rw [hv.len]; exact hlp
    rw [← hlp, ← hll] at ht ⊢
    rw [← hlp] at hl
    have HLP := Lib.hid hlp
    have HV := Lib.hid hv
    have HL15 := Lib.hid hl
    have Z1 := Lib.hid hb.size
    obtain ⟨T, hT⟩ : ∃ b, b = w1.heap.size := ⟨_, rfl⟩
    have X3 := Lib.hid (Bx.new w1 #[.slice A1 lp q1, .slice A2 lp q2] 26)
    have HT := Lib.hid (ht.allocS (.cells #[.slice A1 lp q1, .slice A2 lp q2] 26))
    have HW := Lib.hid ((Span.of_below hb).alloc (.cells #[.slice A1 lp q1, .slice A2 lp q2] 26))
    have ZT := Lib.hid (show T < (w1.alloc (.cells #[.slice A1 lp q1, .slice A2 lp q2] 26)).heap.size by rw [hT]; simp)
    rw [← hT] at X3 HT Z1
    clear hlp hll hv ht hb hl
    go_wp2_with fail
    rw [← hT]
    clear hT
    generalize w1.alloc (.cells #[.slice A1 lp q1, .slice A2 lp q2] 26) = w2 at *
    refine (newSlicer_any t HV.out A1 A2 lp q1 q2 HLP.out true _ _ w2 HT.out).mono ?_
    rintro _ w3 ⟨A3, p3, B3, q3, rfl, t3, s3⟩
    obtain ⟨X, hX⟩ : ∃ b, b = w3.heap.size := ⟨_, rfl⟩
    have X4 := Lib.hid ((X3.out.keep s3).alloc (.cells #[.int .i64 6, .complex .f32 0 0, .complex .f32 0 0, .float .f32 0, .slice none 0 0, .int .i64 0, .int .i64 0, .slice A3 lp p3, .slice B3 lp q3, .int .i64 0, .int .i64 0] 33))
    have HT4 := Lib.hid ((HT.out.keepS s3).allocS (.cells #[.int .i64 6, .complex .f32 0 0, .complex .f32 0 0, .float .f32 0, .slice none 0 0, .int .i64 0, .int .i64 0, .slice A3 lp p3, .slice B3 lp q3, .int .i64 0, .int .i64 0] 33))
    have HW4 := Lib.hid ((HW.out.trans s3).alloc (.cells #[.int .i64 6, .complex .f32 0 0, .complex .f32 0 0, .float .f32 0, .slice none 0 0, .int .i64 0, .int .i64 0, .slice A3 lp p3, .slice B3 lp q3, .int .i64 0, .int .i64 0] 33))
    have B4 := Lib.hid (Bx.new w3 #[.int .i64 6, .complex .f32 0 0, .complex .f32 0 0, .float .f32 0, .slice none 0 0, .int .i64 0, .int .i64 0, .slice A3 lp p3, .slice B3 lp q3, .int .i64 0, .int .i64 0] 33)
    have T4 := Lib.hid (t3.allocS (.cells #[.int .i64 6, .complex .f32 0 0, .complex .f32 0 0, .float .f32 0, .slice none 0 0, .int .i64 0, .int .i64 0, .slice A3 lp p3, .slice B3 lp q3, .int .i64 0, .int .i64 0] 33))
    have ZX := Lib.hid (show T < X ∧ w.heap.size ≤ X by have := ZT.out; have := s3.size; have := Z1.out; omega)
    have ZX4 := Lib.hid (show X < (w3.alloc (.cells #[.int .i64 6, .complex .f32 0 0, .complex .f32 0 0, .float .f32 0, .slice none 0 0, .int .i64 0, .int .i64 0, .slice A3 lp p3, .slice B3 lp q3, .int .i64 0, .int .i64 0] 33)).heap.size by rw [hX]; simp)
    have HY4 := Lib.hid (hbyUpS (HBy.out.below (HW4.out.to_below (.inl (Nat.le_refl _)))) HW4.out.size)
    rw [← hX] at B4 T4
    clear s3 t3 X3 HT HW
    go_wp2_with fail
    rw [← hX]
    clear hX
    generalize w3.alloc (.cells #[.int .i64 6, .complex .f32 0 0, .complex .f32 0 0, .float .f32 0, .slice none 0 0, .int .i64 0, .int .i64 0, .slice A3 lp p3, .slice B3 lp q3, .int .i64 0, .int .i64 0] 33) = w4 at *
    refine (fresh_any A n c 3 w4 (by omega) (by omega) Hn.out HY4.out).mono ?_
    rintro _ w5 ⟨A5, n5, c5, rfl, hn5, hy5, hb5⟩
    have s5 := Span.of_below hb5
    have X5 := Lib.hid (X4.out.keep s5)
    have HT5 := Lib.hid (HT4.out.keepS s5)
    have HW5 := Lib.hid (HW4.out.trans s5)
    have B5 := Lib.hid (B4.out.keep s5)
    have T5 := Lib.hid (T4.out.keepS s5)
    have Z5 := Lib.hid s5.size
    have HN5 := Lib.hid hn5
    have HY5 := Lib.hid hy5
    clear hn5 hy5 hb5 s5 X4 HT4 HW4 B4 T4 HY4
    go_wp2_with fail
    refine (makeSamples_any 12 (by omega) (by omega) A5 n5 c5 w5 (by have := HN5.out; omega) HY5.out).mono ?_
    rintro _ w6 ⟨v6, xs, rfl, hl6, -, ho6, hb6⟩
    obtain ⟨A6, q6, rfl⟩ := ownsRow_slice ho6
    obtain ⟨gb, hs6, -, -⟩ := ownsRow_hasS ho6
    obtain ⟨m, hm⟩ : ∃ t, t = xs.length := ⟨_, rfl⟩
    have HM := Lib.hid hm
    rw [← hm] at hl6 hs6 ⊢
    have s6 := Span.of_below hb6
    obtain ⟨L6, hL6⟩ : ∃ b, b = w5.heap.size := ⟨_, rfl⟩
    obtain ⟨H6, hH6⟩ : ∃ b, b = w6.heap.size := ⟨_, rfl⟩
    rw [← hL6, ← hH6] at hs6
    have ZL := Lib.hid (show X < L6 by have := ZX4.out; have := Z5.out; omega)
    have HK6 : Hid (SlK w t lp T A1 q1 A2 q2 gb L6 H6 m A6 q6 xs w6) := ⟨X5.out.keep s6, HT5.out.keepS s6, hs6, HW5.out.trans s6⟩
    have HX6 : Hid (SlX t lp X 0 w6) := ⟨A3, p3, B3, q3, _, _, .inl (Nat.le_refl _), B5.out.keep s6, T5.out.keepS s6⟩
    have i1 : (m : Int) ≤ 12 := by omega
    clear hm hs6 hb6 ho6 s6 hL6 hH6 X5 HT5 HW5 B5 T5 HN5 HY5 Z5 ZX4 hl6
    go_wp2_with fail
    go_loopw [38] (fun q wr => ∃ (k : Nat) (c : Int), k ≤ m ∧ q = .int .i64 k ∧ SlK w t lp T A1 q1 A2 q2 gb L6 H6 m A6 q6 xs wr ∧ SlX t lp X c wr) (fun q _ => m - (intOf q).toNat)
    case atStart => exact ⟨0, 0, Nat.zero_le _, rfl, HK6.out, HX6.out⟩
    case round =>
      clear HK6 HX6
      obtain ⟨k, c8, hk, rfl, hK, hX⟩ := hrel
      by_cases hlt : k < m
      · obtain ⟨A8, p8, B8, q8, lo8, hi8, hd8, bx8, tx8⟩ := hX
        obtain ⟨⟨z1, z2⟩, hz⟩ := getElem?_some (xs := xs) (j := k) (by rw [← HM.out]; exact hlt)
        obtain ⟨off, hoff⟩ := hK.2.2.1.addr (by rw [← HM.out]; omega)
        subst hoff
        have hck : wr.cell? ⟨gb, off + k, none⟩ = some (.complex .f32 z1 z2) := hK.2.2.1.at_ hz
        have cx := bx8.cells
        have ST := stepModule_slicer t HV.out A8 B8 lp p8 q8 c8 z1 z2 HLP.out true lo8 hi8 wr tx8
        unfold StepS at ST
        obtain ⟨⟨⟨o1, o2⟩, l⟩, hO⟩ : ∃ o, o = slicO t (z1, z2) := ⟨_, rfl⟩
        simp only [← hO] at ST
        have HO := Lib.hid hO
        have HST := Lib.hid ST
        have HK := Lib.hid hK
        have HB8 := Lib.hid bx8
        have ZB := Lib.hid bx8.1
        have i2 : (0 : Int) ≤ (k : Int) := by omega
        have i3 : (k : Int) < (m : Int) := by omega
        clear hz hK bx8 tx8 ST hO hd8
        go_wp2_with fail
        refine HST.out.mono ?_
        rintro _ wa ⟨A9, p9, B9, q9, rfl, t9, s9⟩
        have KA := Lib.hid (HK.out.keep s9)
        have XA := Lib.hid (HB8.out.keep s9)
        have cT := KA.out.1.cellsA
        obtain ⟨Y, hY⟩ : ∃ b, b = wa.heap.size := ⟨_, rfl⟩
        have YB := Lib.hid (Bx.new wa #[.int .i64 6, .complex .f32 0 0, .complex .f32 0 0, .float .f32 0, .slice none 0 0, .int .i64 0, .int .i64 0, .slice A9 lp p9, .slice B9 lp q9, .int .i64 l, .int .i64 0] 33)
        have TY := Lib.hid (t9.allocS (.cells #[.int .i64 6, .complex .f32 0 0, .complex .f32 0 0, .float .f32 0, .slice none 0 0, .int .i64 0, .int .i64 0, .slice A9 lp p9, .slice B9 lp q9, .int .i64 l, .int .i64 0] 33))
        have SB := Lib.hid ((Span.refl 0 0 wa).alloc (.cells #[.int .i64 6, .complex .f32 0 0, .complex .f32 0 0, .float .f32 0, .slice none 0 0, .int .i64 0, .int .i64 0, .slice A9 lp p9, .slice B9 lp q9, .int .i64 l, .int .i64 0] 33))
        rw [← hY] at YB TY
        clear s9 t9 HST hck cx
        go_wp2_with fail
        rw [← hY]
        clear hY cT
        have KB := Lib.hid (KA.out.keep SB.out)
        have XB := Lib.hid (XA.out.keep SB.out)
        generalize wa.alloc (.cells #[.int .i64 6, .complex .f32 0 0, .complex .f32 0 0, .float .f32 0, .slice none 0 0, .int .i64 0, .int .i64 0, .slice A9 lp p9, .slice B9 lp q9, .int .i64 l, .int .i64 0] 33) = wb at *
        refine (spec_nearestPoint t (z1, z2) true _ _ _ wb KB.out.2.1 HV.out).mono ?_
        rintro _ wc ⟨rfl, sc⟩
        have KC := Lib.hid (KB.out.keep sc)
        have XC := Lib.hid (XB.out.keep sc)
        have YC := Lib.hid (YB.out.keep sc)
        have TC := Lib.hid (TY.out.keepS sc)
        have HO2 : Hid (((o1, o2), l) = match nearC t.1 (z1, z2) with | none => ((0, 0), -1) | some (i, _) => (t.1.getD i (0, 0), t.2.getD i 0)) := HO.out
        have HLT : Hid (∀ i d, nearC t.1 (z1, z2) = some (i, d) → i < t.1.length) := near_lt t.1 (z1, z2)
        clear sc KB XB YB TY HO SB KA XA
        generalize nearC t.1 (z1, z2) = s at *
        go_upto_region 12 with fail
        go_cut [94] (fun s94 wx => s94 = .bool false ∧ SlK w t lp T A1 q1 A2 q2 gb L6 H6 m (some ⟨gb, off, none⟩) q6 xs wx ∧ Bx X #[.int .i64 6, .complex .f32 0 0, .complex .f32 0 0, .float .f32 0, .slice none 0 0, .int .i64 0, .int .i64 0, .slice A8 lp p8, .slice B8 lp q8, .int .i64 c8, .int .i64 0] wx ∧ Bx Y #[.int .i64 6, .complex .f32 0 0, .complex .f32 0 0, .float .f32 0, .slice none 0 0, .int .i64 0, .int .i64 0, .slice A9 lp p9, .slice B9 lp q9, .int .i64 l, .int .i64 0] wx ∧ HasTab true wr.heap.size Y wx (.agg #[.slice A9 lp p9, .slice B9 lp q9]) t)
        case first => as_aux_lemma =>
          have cY := YC.out.cells
          cases s with
          | none =>
            have hO := HO2.out
            simp only at hO
            cases hO
            simp only [Option.map_none, Option.getD_none, Option.isSome_none]
            have o00 : FloatKind.f32.format.order 0 0 = some .eq := by decide +kernel
            go_quiet (fail)
            all_goals go_wp2_with fail
            all_goals go_meet
            all_goals refine ⟨rfl, KC.out.keep ?_, XC.out.keep ?_, YC.out.keep ?_, TC.out.keepS ?_⟩
            all_goals first | exact Span.refl _ _ _ | exact (Span.refl _ _ _).drewN _ | exact (Span.refl _ _ _).drew
          | some im =>
            obtain ⟨i, d⟩ := im
            have hi := HLT.out i d rfl
            have hO := HO2.out
            simp only at hO
            obtain ⟨⟨x1, x2⟩, hx1⟩ := getElem?_some (xs := t.1) hi
            obtain ⟨y, hy1⟩ := getElem?_some (xs := t.2) (j := i) (by rw [HV.out.len]; exact hi)
            simp only [List.getD_eq_getElem?_getD, hx1, hy1, Option.getD_some] at hO
            cases hO
            obtain ⟨b1, b2, vP, vL, e, -, g1, g2⟩ := KC.out.2.1
            cases e
            obtain ⟨off1, h1⟩ := g1.addr (by omega)
            subst h1
            obtain ⟨off2, h2⟩ := g2.addr (by rw [HV.out.len]; omega)
            subst h2
            have DW : Hid (∀ w', Span 0 0 wc w' → w'.cell? ⟨T, 0, none⟩ = some (.slice (some ⟨b1, off1, none⟩) lp q1) ∧ w'.cell? ⟨T, 1, none⟩ = some (.slice (some ⟨b2, off2, none⟩) lp q2) ∧ w'.cell? ⟨b1, off1 + i, none⟩ = some (.complex .f32 o1 o2) ∧ w'.cell? ⟨b2, off2 + i, none⟩ = some (.int .i64 l) ∧ w'.cell? ⟨Y, 9, none⟩ = some (.int .i64 l)) := fun w' sp =>
              ⟨(KC.out.1.keep sp).cells 0, (KC.out.1.keep sp).cells 1, (g1.span sp (.inl (Nat.le_refl _))).at_ hx1, (g2.span sp (.inl (Nat.le_refl _))).at_ hy1, (YC.out.keep sp).cells 9⟩
            have hil : i < lp := by rw [HLP.out]; exact hi
            have hij : (i : Int) < (lp : Int) := by omega
            have h0i : (0 : Int) ≤ (i : Int) := by omega
            have u1 := (one_hasSS wc o1 o2).alloc (.cells #[.complex .f32 o1 o2] 28)
            have u2 := one_hasSS (wc.alloc (.cells #[.complex .f32 o1 o2] 28)) o1 o2
            rw [show (wc.alloc (.cells #[.complex .f32 o1 o2] 28)).heap.size = wc.heap.size + 1 by simp] at u2
            have HMS := Lib.hid (makeSame_self [(o1, o2)] _ _ _ _ _ _ _ _ (.slice (some ⟨wc.heap.size, 0, none⟩) 1 1) (.slice (some ⟨wc.heap.size + 1, 0, none⟩) 1 1) (((wc.alloc (.cells #[.complex .f32 o1 o2] 28)).alloc (.cells #[.complex .f32 o1 o2] 28)).drew) (u1.span ((Span.refl 0 0 _).drew) (.inl (Nat.le_refl _))) (u2.span ((Span.refl 0 0 _).drew) (.inl (Nat.le_refl _))) (by simp))
            have HMT := Lib.hid (makeSame_self [(o1, o2)] _ _ _ _ _ _ _ _ (.slice (some ⟨wc.heap.size + 1, 0, none⟩) 1 1) (.slice (some ⟨wc.heap.size, 0, none⟩) 1 1) (((wc.alloc (.cells #[.complex .f32 o1 o2] 28)).alloc (.cells #[.complex .f32 o1 o2] 28)).drew) (u2.span ((Span.refl 0 0 _).drew) (.inl (Nat.le_refl _))) (u1.span ((Span.refl 0 0 _).drew) (.inl (Nat.le_refl _))) (by simp))
            simp only [Option.map_some, Option.getD_some, Option.isSome_some]
            clear g1 g2 u1 u2 hx1 hy1 hi cY
            refine wp_region_noPanic ?_
            refine wp_region_held_drew (S := (fun w' => w'.cell? ⟨T, 0, none⟩ = some (.slice (some ⟨b1, off1, none⟩) lp q1) ∧ w'.cell? ⟨T, 1, none⟩ = some (.slice (some ⟨b2, off2, none⟩) lp q2) ∧ w'.cell? ⟨b1, off1 + i, none⟩ = some (.complex .f32 o1 o2) ∧ w'.cell? ⟨b2, off2 + i, none⟩ = some (.int .i64 l) ∧ w'.cell? ⟨Y, 9, none⟩ = some (.int .i64 l))) (by kernel_rfl) ?_ (fun hHeld => ?_)
            · (try dsimp only)
              refine DW.out _ ?_; repeat' (first | with_reducible exact Span.refl _ _ _ | with_reducible apply Span.drew | with_reducible apply Span.drewN | with_reducible apply Span.alloc)
            refine wpAnyH_take (i := 0) (oi := { dst := some 55, op := Op.move (Operand.tmp 10), type := 4, pos := "laws.go:970", after := #[], guard := none }) (v := ?_) rfl (by kernel_rfl) (by kernel_rfl) (by kernel_rfl) (fun _ _ _ h => h) (Or.inl ⟨by rfl, ?_⟩) (by assumption) ?_
            rotate_left
            · intro w hSw
              (try dsimp only at hSw)
              go_simp
              try with_reducible rfl
            try simp only [Act.put, List.setIfInBounds_toArray, List.set_cons_zero, List.set_cons_succ]
            refine wpAnyH_take (i := 1) (oi := { dst := some 56, op := Op.unOp UnOp.not 4 (Operand.tmp 55), type := 4, pos := "laws.go:970", after := #[{ on := 0, ground := Ground.data }], guard := none }) (v := ?_) rfl (by kernel_rfl) (by kernel_rfl) (by kernel_rfl) (fun _ _ _ h => h) (Or.inl ⟨by rfl, ?_⟩) (by assumption) ?_
            rotate_left
            · intro w hSw
              (try dsimp only at hSw)
              go_simp
              try with_reducible rfl
            try simp only [Act.put, List.setIfInBounds_toArray, List.set_cons_zero, List.set_cons_succ]
            refine wpAnyH_take (i := 2) (oi := { dst := some 57, op := Op.move (Operand.tmp 56), type := 4, pos := "laws.go:970", after := #[{ on := 1, ground := Ground.data }], guard := none }) (v := ?_) rfl (by kernel_rfl) (by kernel_rfl) (by kernel_rfl) (fun _ _ _ h => h) (Or.inl ⟨by rfl, ?_⟩) (by assumption) ?_
            rotate_left
            · intro w hSw
              (try dsimp only at hSw)
              go_simp
              try with_reducible rfl
            try simp only [Act.put, List.setIfInBounds_toArray, List.set_cons_zero, List.set_cons_succ]
            refine wpAnyH_take (i := 3) (oi := { dst := some 58, op := Op.move (Operand.tmp 12), type := 4, pos := "laws.go:970", after := #[{ on := 2, ground := Ground.guard }], guard := some (2, false) }) (v := ?_) rfl (by kernel_rfl) (by kernel_rfl) (by kernel_rfl) (fun _ _ _ h => h) (Or.inl ⟨by rfl, ?_⟩) (by assumption) ?_
            rotate_left
            · intro w hSw
              (try dsimp only at hSw)
              go_simp
              try with_reducible rfl
            try simp only [Act.put, List.setIfInBounds_toArray, List.set_cons_zero, List.set_cons_succ]
            refine wpAnyH_take (i := 4) (oi := { dst := some 59, op := Op.move (Operand.tmp 58), type := 4, pos := "laws.go:970", after := #[{ on := 3, ground := Ground.data }, { on := 2, ground := Ground.chain }, { on := 2, ground := Ground.guard }], guard := some (2, false) }) (v := ?_) rfl (by kernel_rfl) (by kernel_rfl) (by kernel_rfl) (fun _ _ _ h => h) (Or.inl ⟨by rfl, ?_⟩) (by assumption) ?_
            rotate_left
            · intro w hSw
              (try dsimp only at hSw)
              go_simp
              try with_reducible rfl
            try simp only [Act.put, List.setIfInBounds_toArray, List.set_cons_zero, List.set_cons_succ]
            refine wpAnyH_take (i := 5) (oi := { dst := some 60, op := Op.move (Operand.tmp 9), type := 28, pos := "laws.go:970", after := #[{ on := 4, ground := Ground.guard }], guard := some (4, true) }) (v := ?_) rfl (by kernel_rfl) (by kernel_rfl) (by kernel_rfl) (fun _ _ _ h => h) (Or.inl ⟨by rfl, ?_⟩) (by assumption) ?_
            rotate_left
            · intro w hSw
              (try dsimp only at hSw)
              go_simp
              try with_reducible rfl
            try simp only [Act.put, List.setIfInBounds_toArray, List.set_cons_zero, List.set_cons_succ]
            refine wpAnyH_take (i := 7) (oi := { dst := some 62, op := Op.fieldAddr 26 (Operand.tmp 3) 0, type := 0, pos := "laws.go:970", after := #[{ on := 4, ground := Ground.guard }], guard := some (4, true) }) (v := ?_) rfl (by kernel_rfl) (by kernel_rfl) (by kernel_rfl) (fun _ _ _ h => h) (Or.inl ⟨by rfl, ?_⟩) (by assumption) ?_
            rotate_left
            · intro w hSw
              (try dsimp only at hSw)
              go_simp
              try with_reducible rfl
            try simp only [Act.put, List.setIfInBounds_toArray, List.set_cons_zero, List.set_cons_succ]
            refine wpAnyH_take (i := 8) (oi := { dst := some 63, op := Op.load 23 (Operand.tmp 62), type := 23, pos := "laws.go:970", after := #[{ on := 7, ground := Ground.data }, { on := 4, ground := Ground.guard }], guard := some (4, true) }) (v := ?_) rfl (by kernel_rfl) (by kernel_rfl) (by kernel_rfl) (fun _ _ _ h => h) (Or.inl ⟨by rfl, ?_⟩) (by assumption) ?_
            rotate_left
            · intro w hSw
              (try dsimp only at hSw)
              go_simp
              try with_reducible rfl
            try simp only [Act.put, List.setIfInBounds_toArray, List.set_cons_zero, List.set_cons_succ]
            refine wpAnyH_take (i := 9) (oi := { dst := some 64, op := Op.move (Operand.tmp 11), type := 3, pos := "laws.go:970", after := #[{ on := 4, ground := Ground.guard }], guard := some (4, true) }) (v := ?_) rfl (by kernel_rfl) (by kernel_rfl) (by kernel_rfl) (fun _ _ _ h => h) (Or.inl ⟨by rfl, ?_⟩) (by assumption) ?_
            rotate_left
            · intro w hSw
              (try dsimp only at hSw)
              go_simp
              try with_reducible rfl
            try simp only [Act.put, List.setIfInBounds_toArray, List.set_cons_zero, List.set_cons_succ]
            refine wpAnyH_take (i := 10) (oi := { dst := some 65, op := Op.indexAddr 23 (Operand.tmp 63) (Operand.tmp 64), type := 0, pos := "laws.go:970", after := #[{ on := 8, ground := Ground.data }, { on := 9, ground := Ground.data }, { on := 4, ground := Ground.guard }], guard := some (4, true) }) (v := ?_) rfl (by kernel_rfl) (by kernel_rfl) (by kernel_rfl) (fun _ _ _ h => h) (Or.inl ⟨by rfl, ?_⟩) (by assumption) ?_
            rotate_left
            · intro w hSw
              (try dsimp only at hSw)
              go_simp
              try with_reducible rfl
            try simp only [Act.put, List.setIfInBounds_toArray, List.set_cons_zero, List.set_cons_succ]
            refine wpAnyH_take (i := 11) (oi := { dst := some 66, op := Op.load 28 (Operand.tmp 65), type := 28, pos := "laws.go:970", after := #[{ on := 10, ground := Ground.data }, { on := 4, ground := Ground.guard }], guard := some (4, true) }) (v := ?_) rfl (by kernel_rfl) (by kernel_rfl) (by kernel_rfl) (fun _ _ _ h => h) (Or.inl ⟨by rfl, ?_⟩) (by assumption) ?_
            rotate_left
            · intro w hSw
              (try dsimp only at hSw)
              go_simp
              try with_reducible rfl
            try simp only [Act.put, List.setIfInBounds_toArray, List.set_cons_zero, List.set_cons_succ]
            refine wpAnyH_ready (rs := [6, 12]) (by kernel_rfl) (by simp) ?_
            refine AllReadyH.cons (o := { dst := some 61, op := Op.buildSlice 23 1 #[(0, Operand.tmp 60)], type := 23, pos := "laws.go:970", after := #[{ on := 5, ground := Ground.data }, { on := 4, ground := Ground.guard }], guard := some (4, true) }) rfl (fun K hK => ?_) (AllReadyH.cons (o := { dst := some 67, op := Op.buildSlice 23 1 #[(0, Operand.tmp 66)], type := 23, pos := "laws.go:970", after := #[{ on := 11, ground := Ground.data }, { on := 4, ground := Ground.guard }], guard := some (4, true) }) rfl (fun K hK => ?_) AllReadyH.nil)
            · go_simp
              clear hHeld
              refine hK.out _ _ ?_ (fun hHeld => ?_)
              · (try dsimp only)
                refine DW.out _ ?_; repeat' (first | with_reducible exact Span.refl _ _ _ | with_reducible apply Span.drew | with_reducible apply Span.drewN | with_reducible apply Span.alloc)
              clear hK K
              try simp only [Act.put, List.setIfInBounds_toArray, List.set_cons_zero, List.set_cons_succ]
              refine wpAnyH_ready (rs := [12]) (by kernel_rfl) (by simp) ?_
              refine AllReadyH.cons (o := { dst := some 67, op := Op.buildSlice 23 1 #[(0, Operand.tmp 66)], type := 23, pos := "laws.go:970", after := #[{ on := 11, ground := Ground.data }, { on := 4, ground := Ground.guard }], guard := some (4, true) }) rfl (fun K hK => ?_) AllReadyH.nil
              go_simp
              clear hHeld
              refine hK.out _ _ ?_ (fun hHeld => ?_)
              · (try dsimp only)
                refine DW.out _ ?_; repeat' (first | with_reducible exact Span.refl _ _ _ | with_reducible apply Span.drew | with_reducible apply Span.drewN | with_reducible apply Span.alloc)
              clear hK K
              try simp only [Act.put, List.setIfInBounds_toArray, List.set_cons_zero, List.set_cons_succ]
              refine wpAnyH_ready (rs := [13]) (by kernel_rfl) (by simp) ?_
              refine AllReadyH.cons (o := { dst := some 68, op := Op.call { callee := Callee.value (Operand.func 10), args := #[Operand.tmp 61, Operand.tmp 67], argTypes := #[23, 23] }, type := 4, pos := "laws.go:970", after := #[{ on := 6, ground := Ground.data }, { on := 12, ground := Ground.data }, { on := 4, ground := Ground.chain }, { on := 4, ground := Ground.guard }], guard := some (4, true) }) rfl (fun K hK => ?_) AllReadyH.nil
              go_simp
              refine HMS.out.mono ?_
              rintro _ _ ⟨nd, rfl, rfl⟩
              go_wp2_with fail
              clear hHeld
              refine hK.out _ _ ?_ (fun hHeld => ?_)
              · (try dsimp only)
                refine DW.out _ ?_; repeat' (first | with_reducible exact Span.refl _ _ _ | with_reducible apply Span.drew | with_reducible apply Span.drewN | with_reducible apply Span.alloc)
              clear hK K
              try simp only [Act.put, List.setIfInBounds_toArray, List.set_cons_zero, List.set_cons_succ]
              refine wpAnyH_take (i := 14) (oi := { dst := some 69, op := Op.unOp UnOp.not 4 (Operand.tmp 68), type := 4, pos := "laws.go:970", after := #[{ on := 13, ground := Ground.data }, { on := 4, ground := Ground.guard }], guard := some (4, true) }) (v := ?_) rfl (by kernel_rfl) (by kernel_rfl) (by kernel_rfl) (fun _ _ _ h => h) (Or.inl ⟨by rfl, ?_⟩) (by assumption) ?_
              rotate_left
              · intro w hSw
                (try dsimp only at hSw)
                go_simp
                try with_reducible rfl
              try simp only [Act.put, List.setIfInBounds_toArray, List.set_cons_zero, List.set_cons_succ]
              refine wpAnyH_take (i := 15) (oi := { dst := some 70, op := Op.move (Operand.tmp 69), type := 4, pos := "laws.go:970", after := #[{ on := 14, ground := Ground.data }, { on := 13, ground := Ground.chain }, { on := 4, ground := Ground.guard }], guard := some (4, true) }) (v := ?_) rfl (by kernel_rfl) (by kernel_rfl) (by kernel_rfl) (fun _ _ _ h => h) (Or.inl ⟨by rfl, ?_⟩) (by assumption) ?_
              rotate_left
              · intro w hSw
                (try dsimp only at hSw)
                go_simp
                try with_reducible rfl
              try simp only [Act.put, List.setIfInBounds_toArray, List.set_cons_zero, List.set_cons_succ]
              refine wpAnyH_take (i := 16) (oi := { dst := some 71, op := Op.fieldAddr 33 (Operand.tmp 8) 6, type := 0, pos := "laws.go:970", after := #[{ on := 15, ground := Ground.guard }], guard := some (15, false) }) (v := ?_) rfl (by kernel_rfl) (by kernel_rfl) (by kernel_rfl) (fun _ _ _ h => h) (Or.inl ⟨by rfl, ?_⟩) (by assumption) ?_
              rotate_left
              · intro w hSw
                (try dsimp only at hSw)
                go_simp
                try with_reducible rfl
              try simp only [Act.put, List.setIfInBounds_toArray, List.set_cons_zero, List.set_cons_succ]
              refine wpAnyH_take (i := 17) (oi := { dst := some 72, op := Op.load 3 (Operand.tmp 71), type := 3, pos := "laws.go:970", after := #[{ on := 16, ground := Ground.data }, { on := 15, ground := Ground.guard }], guard := some (15, false) }) (v := ?_) rfl (by kernel_rfl) (by kernel_rfl) (by kernel_rfl) (fun _ _ _ h => h) (Or.inl ⟨by rfl, ?_⟩) (by assumption) ?_
              rotate_left
              · intro w hSw
                (try dsimp only at hSw)
                go_simp
                try with_reducible rfl
              try simp only [Act.put, List.setIfInBounds_toArray, List.set_cons_zero, List.set_cons_succ]
              refine wpAnyH_take (i := 18) (oi := { dst := some 73, op := Op.fieldAddr 26 (Operand.tmp 3) 1, type := 0, pos := "laws.go:970", after := #[{ on := 15, ground := Ground.guard }], guard := some (15, false) }) (v := ?_) rfl (by kernel_rfl) (by kernel_rfl) (by kernel_rfl) (fun _ _ _ h => h) (Or.inl ⟨by rfl, ?_⟩) (by assumption) ?_
              rotate_left
              · intro w hSw
                (try dsimp only at hSw)
                go_simp
                try with_reducible rfl
              try simp only [Act.put, List.setIfInBounds_toArray, List.set_cons_zero, List.set_cons_succ]
              refine wpAnyH_take (i := 19) (oi := { dst := some 74, op := Op.load 24 (Operand.tmp 73), type := 24, pos := "laws.go:970", after := #[{ on := 18, ground := Ground.data }, { on := 15, ground := Ground.guard }], guard := some (15, false) }) (v := ?_) rfl (by kernel_rfl) (by kernel_rfl) (by kernel_rfl) (fun _ _ _ h => h) (Or.inl ⟨by rfl, ?_⟩) (by assumption) ?_
              rotate_left
              · intro w hSw
                (try dsimp only at hSw)
                go_simp
                try with_reducible rfl
              try simp only [Act.put, List.setIfInBounds_toArray, List.set_cons_zero, List.set_cons_succ]
              refine wpAnyH_take (i := 20) (oi := { dst := some 75, op := Op.move (Operand.tmp 11), type := 3, pos := "laws.go:970", after := #[{ on := 15, ground := Ground.guard }], guard := some (15, false) }) (v := ?_) rfl (by kernel_rfl) (by kernel_rfl) (by kernel_rfl) (fun _ _ _ h => h) (Or.inl ⟨by rfl, ?_⟩) (by assumption) ?_
              rotate_left
              · intro w hSw
                (try dsimp only at hSw)
                go_simp
                try with_reducible rfl
              try simp only [Act.put, List.setIfInBounds_toArray, List.set_cons_zero, List.set_cons_succ]
              refine wpAnyH_take (i := 21) (oi := { dst := some 76, op := Op.indexAddr 24 (Operand.tmp 74) (Operand.tmp 75), type := 0, pos := "laws.go:970", after := #[{ on := 19, ground := Ground.data }, { on := 20, ground := Ground.data }, { on := 15, ground := Ground.guard }], guard := some (15, false) }) (v := ?_) rfl (by kernel_rfl) (by kernel_rfl) (by kernel_rfl) (fun _ _ _ h => h) (Or.inl ⟨by rfl, ?_⟩) (by assumption) ?_
              rotate_left
              · intro w hSw
                (try dsimp only at hSw)
                go_simp
                try with_reducible rfl
              try simp only [Act.put, List.setIfInBounds_toArray, List.set_cons_zero, List.set_cons_succ]
              refine wpAnyH_take (i := 22) (oi := { dst := some 77, op := Op.load 3 (Operand.tmp 76), type := 3, pos := "laws.go:970", after := #[{ on := 21, ground := Ground.data }, { on := 15, ground := Ground.guard }], guard := some (15, false) }) (v := ?_) rfl (by kernel_rfl) (by kernel_rfl) (by kernel_rfl) (fun _ _ _ h => h) (Or.inl ⟨by rfl, ?_⟩) (by assumption) ?_
              rotate_left
              · intro w hSw
                (try dsimp only at hSw)
                go_simp
                try with_reducible rfl
              try simp only [Act.put, List.setIfInBounds_toArray, List.set_cons_zero, List.set_cons_succ]
              refine wpAnyH_take (i := 23) (oi := { dst := some 78, op := Op.binOp BinOp.neq 3 (Operand.tmp 72) (Operand.tmp 77) 3, type := 4, pos := "laws.go:970", after := #[{ on := 17, ground := Ground.data }, { on := 22, ground := Ground.data }, { on := 15, ground := Ground.guard }], guard := some (15, false) }) (v := ?_) rfl (by kernel_rfl) (by kernel_rfl) (by kernel_rfl) (fun _ _ _ h => h) (Or.inl ⟨by rfl, ?_⟩) (by assumption) ?_
              rotate_left
              · intro w hSw
                (try dsimp only at hSw)
                go_simp
                try with_reducible rfl
              try simp only [Act.put, List.setIfInBounds_toArray, List.set_cons_zero, List.set_cons_succ]
              refine wpAnyH_take (i := 24) (oi := { dst := some 79, op := Op.pick (Operand.tmp 70) (Operand.const (Value.bool true)) (Operand.tmp 78), type := 4, pos := "laws.go:970", after := #[{ on := 15, ground := Ground.data }, { on := 23, ground := Ground.data }, { on := 4, ground := Ground.guard }], guard := some (4, true) }) (v := ?_) rfl (by kernel_rfl) (by kernel_rfl) (by kernel_rfl) (fun _ _ _ h => h) (Or.inl ⟨by rfl, ?_⟩) (by assumption) ?_
              rotate_left
              · intro w hSw
                (try dsimp only at hSw)
                go_simp
                try with_reducible rfl
              try simp only [Act.put, List.setIfInBounds_toArray, List.set_cons_zero, List.set_cons_succ]
              refine wpAnyH_take (i := 25) (oi := { dst := some 80, op := Op.pick (Operand.tmp 59) (Operand.tmp 79) (Operand.const (Value.bool false)), type := 4, pos := "laws.go:970", after := #[{ on := 4, ground := Ground.data }, { on := 24, ground := Ground.data }, { on := 2, ground := Ground.guard }], guard := some (2, false) }) (v := ?_) rfl (by kernel_rfl) (by kernel_rfl) (by kernel_rfl) (fun _ _ _ h => h) (Or.inl ⟨by rfl, ?_⟩) (by assumption) ?_
              rotate_left
              · intro w hSw
                (try dsimp only at hSw)
                go_simp
                try with_reducible rfl
              try simp only [Act.put, List.setIfInBounds_toArray, List.set_cons_zero, List.set_cons_succ]
              refine wpAnyH_take (i := 26) (oi := { dst := some 81, op := Op.pick (Operand.tmp 57) (Operand.const (Value.bool true)) (Operand.tmp 80), type := 4, pos := "laws.go:970", after := #[{ on := 2, ground := Ground.data }, { on := 25, ground := Ground.data }], guard := none }) (v := ?_) rfl (by kernel_rfl) (by kernel_rfl) (by kernel_rfl) (fun _ _ _ h => h) (Or.inl ⟨by rfl, ?_⟩) (by assumption) ?_
              rotate_left
              · intro w hSw
                (try dsimp only at hSw)
                go_simp
                try with_reducible rfl
              try simp only [Act.put, List.setIfInBounds_toArray, List.set_cons_zero, List.set_cons_succ]
              refine wpAnyH_take (i := 27) (oi := { dst := some 82, op := Op.move (Operand.tmp 81), type := 4, pos := "laws.go:970", after := #[{ on := 26, ground := Ground.data }, { on := 15, ground := Ground.chain }], guard := none }) (v := ?_) rfl (by kernel_rfl) (by kernel_rfl) (by kernel_rfl) (fun _ _ _ h => h) (Or.inl ⟨by rfl, ?_⟩) (by assumption) ?_
              rotate_left
              · intro w hSw
                (try dsimp only at hSw)
                go_simp
                try with_reducible rfl
              try simp only [Act.put, List.setIfInBounds_toArray, List.set_cons_zero, List.set_cons_succ]
              refine wpAnyH_take (i := 28) (oi := { dst := some 83, op := Op.move (Operand.tmp 12), type := 4, pos := "laws.go:970", after := #[{ on := 27, ground := Ground.guard }], guard := some (27, false) }) (v := ?_) rfl (by kernel_rfl) (by kernel_rfl) (by kernel_rfl) (fun _ _ _ h => h) (Or.inl ⟨by rfl, ?_⟩) (by assumption) ?_
              rotate_left
              · intro w hSw
                (try dsimp only at hSw)
                go_simp
                try with_reducible rfl
              try simp only [Act.put, List.setIfInBounds_toArray, List.set_cons_zero, List.set_cons_succ]
              refine wpAnyH_take (i := 29) (oi := { dst := some 84, op := Op.unOp UnOp.not 4 (Operand.tmp 83), type := 4, pos := "laws.go:970", after := #[{ on := 28, ground := Ground.data }, { on := 27, ground := Ground.guard }], guard := some (27, false) }) (v := ?_) rfl (by kernel_rfl) (by kernel_rfl) (by kernel_rfl) (fun _ _ _ h => h) (Or.inl ⟨by rfl, ?_⟩) (by assumption) ?_
              rotate_left
              · intro w hSw
                (try dsimp only at hSw)
                go_simp
                try with_reducible rfl
              try simp only [Act.put, List.setIfInBounds_toArray, List.set_cons_zero, List.set_cons_succ]
              refine wpAnyH_take (i := 30) (oi := { dst := some 85, op := Op.move (Operand.tmp 84), type := 4, pos := "laws.go:970", after := #[{ on := 29, ground := Ground.data }, { on := 27, ground := Ground.chain }, { on := 27, ground := Ground.guard }], guard := some (27, false) }) (v := ?_) rfl (by kernel_rfl) (by kernel_rfl) (by kernel_rfl) (fun _ _ _ h => h) (Or.inl ⟨by rfl, ?_⟩) (by assumption) ?_
              rotate_left
              · intro w hSw
                (try dsimp only at hSw)
                go_simp
                try with_reducible rfl
              try simp only [Act.put, List.setIfInBounds_toArray, List.set_cons_zero, List.set_cons_succ]
              refine wpAnyH_take (i := 31) (oi := { dst := some 86, op := Op.move (Operand.tmp 9), type := 28, pos := "laws.go:970", after := #[{ on := 30, ground := Ground.guard }], guard := some (30, true) }) (v := undef) rfl (by kernel_rfl) (by kernel_rfl) (by kernel_rfl) (fun _ _ _ h => h) (Or.inr ⟨by rfl, rfl⟩) (by assumption) ?_
              try simp only [Act.put, List.setIfInBounds_toArray, List.set_cons_zero, List.set_cons_succ]
              refine wpAnyH_take (i := 32) (oi := { dst := some 87, op := Op.binOp BinOp.neq 28 (Operand.tmp 86) (Operand.const (Value.complex FloatKind.f32 0 0)) 28, type := 4, pos := "laws.go:970", after := #[{ on := 31, ground := Ground.data }, { on := 30, ground := Ground.guard }], guard := some (30, true) }) (v := undef) rfl (by kernel_rfl) (by kernel_rfl) (by kernel_rfl) (fun _ _ _ h => h) (Or.inr ⟨by rfl, rfl⟩) (by assumption) ?_
              try simp only [Act.put, List.setIfInBounds_toArray, List.set_cons_zero, List.set_cons_succ]
              refine wpAnyH_take (i := 33) (oi := { dst := some 88, op := Op.move (Operand.tmp 87), type := 4, pos := "laws.go:970", after := #[{ on := 32, ground := Ground.data }, { on := 30, ground := Ground.chain }, { on := 30, ground := Ground.guard }], guard := some (30, true) }) (v := undef) rfl (by kernel_rfl) (by kernel_rfl) (by kernel_rfl) (fun _ _ _ h => h) (Or.inr ⟨by rfl, rfl⟩) (by assumption) ?_
              try simp only [Act.put, List.setIfInBounds_toArray, List.set_cons_zero, List.set_cons_succ]
              refine wpAnyH_take (i := 34) (oi := { dst := some 89, op := Op.fieldAddr 33 (Operand.tmp 8) 6, type := 0, pos := "laws.go:970", after := #[{ on := 33, ground := Ground.guard }], guard := some (33, false) }) (v := undef) rfl (by kernel_rfl) (by kernel_rfl) (by kernel_rfl) (fun _ _ _ h => h) (Or.inr ⟨by rfl, rfl⟩) (by assumption) ?_
              try simp only [Act.put, List.setIfInBounds_toArray, List.set_cons_zero, List.set_cons_succ]
              refine wpAnyH_take (i := 35) (oi := { dst := some 90, op := Op.load 3 (Operand.tmp 89), type := 3, pos := "laws.go:970", after := #[{ on := 34, ground := Ground.data }, { on := 33, ground := Ground.guard }], guard := some (33, false) }) (v := undef) rfl (by kernel_rfl) (by kernel_rfl) (by kernel_rfl) (fun _ _ _ h => h) (Or.inr ⟨by rfl, rfl⟩) (by assumption) ?_
              try simp only [Act.put, List.setIfInBounds_toArray, List.set_cons_zero, List.set_cons_succ]
              refine wpAnyH_take (i := 36) (oi := { dst := some 91, op := Op.binOp BinOp.neq 3 (Operand.tmp 90) (Operand.const (Value.int IntKind.i64 (-1))) 3, type := 4, pos := "laws.go:970", after := #[{ on := 35, ground := Ground.data }, { on := 33, ground := Ground.guard }], guard := some (33, false) }) (v := undef) rfl (by kernel_rfl) (by kernel_rfl) (by kernel_rfl) (fun _ _ _ h => h) (Or.inr ⟨by rfl, rfl⟩) (by assumption) ?_
              try simp only [Act.put, List.setIfInBounds_toArray, List.set_cons_zero, List.set_cons_succ]
              refine wpAnyH_take (i := 37) (oi := { dst := some 92, op := Op.pick (Operand.tmp 88) (Operand.const (Value.bool true)) (Operand.tmp 91), type := 4, pos := "laws.go:970", after := #[{ on := 33, ground := Ground.data }, { on := 36, ground := Ground.data }, { on := 30, ground := Ground.guard }], guard := some (30, true) }) (v := undef) rfl (by kernel_rfl) (by kernel_rfl) (by kernel_rfl) (fun _ _ _ h => h) (Or.inr ⟨by rfl, rfl⟩) (by assumption) ?_
              try simp only [Act.put, List.setIfInBounds_toArray, List.set_cons_zero, List.set_cons_succ]
              refine wpAnyH_take (i := 38) (oi := { dst := some 93, op := Op.pick (Operand.tmp 85) (Operand.tmp 92) (Operand.const (Value.bool false)), type := 4, pos := "laws.go:970", after := #[{ on := 30, ground := Ground.data }, { on := 37, ground := Ground.data }, { on := 27, ground := Ground.guard }], guard := some (27, false) }) (v := ?_) rfl (by kernel_rfl) (by kernel_rfl) (by kernel_rfl) (fun _ _ _ h => h) (Or.inl ⟨by rfl, ?_⟩) (by assumption) ?_
              rotate_left
              · intro w hSw
                (try dsimp only at hSw)
                go_simp
                try with_reducible rfl
              try simp only [Act.put, List.setIfInBounds_toArray, List.set_cons_zero, List.set_cons_succ]
              refine wpAnyH_take (i := 39) (oi := { dst := some 94, op := Op.pick (Operand.tmp 82) (Operand.const (Value.bool true)) (Operand.tmp 93), type := 4, pos := "laws.go:970", after := #[{ on := 27, ground := Ground.data }, { on := 38, ground := Ground.data }], guard := none }) (v := ?_) rfl (by kernel_rfl) (by kernel_rfl) (by kernel_rfl) (fun _ _ _ h => h) (Or.inl ⟨by rfl, ?_⟩) (by assumption) ?_
              rotate_left
              · intro w hSw
                (try dsimp only at hSw)
                go_simp
                try with_reducible rfl
              try simp only [Act.put, List.setIfInBounds_toArray, List.set_cons_zero, List.set_cons_succ]
              refine wpAnyH_done (by kernel_rfl) ?_ _
              refine NoPanic.normal ?_
              go_wp2_with fail
              go_meet
              refine ⟨rfl, KC.out.keep ?_, XC.out.keep ?_, YC.out.keep ?_, TC.out.keepS ?_⟩
              all_goals (repeat' (first | with_reducible exact Span.refl _ _ _ | with_reducible apply Span.drew | with_reducible apply Span.drewN | with_reducible apply Span.alloc))
            · go_simp
              clear hHeld
              refine hK.out _ _ ?_ (fun hHeld => ?_)
              · (try dsimp only)
                refine DW.out _ ?_; repeat' (first | with_reducible exact Span.refl _ _ _ | with_reducible apply Span.drew | with_reducible apply Span.drewN | with_reducible apply Span.alloc)
              clear hK K
              try simp only [Act.put, List.setIfInBounds_toArray, List.set_cons_zero, List.set_cons_succ]
              refine wpAnyH_ready (rs := [6]) (by kernel_rfl) (by simp) ?_
              refine AllReadyH.cons (o := { dst := some 61, op := Op.buildSlice 23 1 #[(0, Operand.tmp 60)], type := 23, pos := "laws.go:970", after := #[{ on := 5, ground := Ground.data }, { on := 4, ground := Ground.guard }], guard := some (4, true) }) rfl (fun K hK => ?_) AllReadyH.nil
              go_simp
              clear hHeld
              refine hK.out _ _ ?_ (fun hHeld => ?_)
              · (try dsimp only)
                refine DW.out _ ?_; repeat' (first | with_reducible exact Span.refl _ _ _ | with_reducible apply Span.drew | with_reducible apply Span.drewN | with_reducible apply Span.alloc)
              clear hK K
              try simp only [Act.put, List.setIfInBounds_toArray, List.set_cons_zero, List.set_cons_succ]
              refine wpAnyH_ready (rs := [13]) (by kernel_rfl) (by simp) ?_
              refine AllReadyH.cons (o := { dst := some 68, op := Op.call { callee := Callee.value (Operand.func 10), args := #[Operand.tmp 61, Operand.tmp 67], argTypes := #[23, 23] }, type := 4, pos := "laws.go:970", after := #[{ on := 6, ground := Ground.data }, { on := 12, ground := Ground.data }, { on := 4, ground := Ground.chain }, { on := 4, ground := Ground.guard }], guard := some (4, true) }) rfl (fun K hK => ?_) AllReadyH.nil
              go_simp
              refine HMT.out.mono ?_
              rintro _ _ ⟨nd, rfl, rfl⟩
              go_wp2_with fail
              clear hHeld
              refine hK.out _ _ ?_ (fun hHeld => ?_)
              · (try dsimp only)
                refine DW.out _ ?_; repeat' (first | with_reducible exact Span.refl _ _ _ | with_reducible apply Span.drew | with_reducible apply Span.drewN | with_reducible apply Span.alloc)
              clear hK K
              try simp only [Act.put, List.setIfInBounds_toArray, List.set_cons_zero, List.set_cons_succ]
              refine wpAnyH_take (i := 14) (oi := { dst := some 69, op := Op.unOp UnOp.not 4 (Operand.tmp 68), type := 4, pos := "laws.go:970", after := #[{ on := 13, ground := Ground.data }, { on := 4, ground := Ground.guard }], guard := some (4, true) }) (v := ?_) rfl (by kernel_rfl) (by kernel_rfl) (by kernel_rfl) (fun _ _ _ h => h) (Or.inl ⟨by rfl, ?_⟩) (by assumption) ?_
              rotate_left
              · intro w hSw
                (try dsimp only at hSw)
                go_simp
                try with_reducible rfl
              try simp only [Act.put, List.setIfInBounds_toArray, List.set_cons_zero, List.set_cons_succ]
              refine wpAnyH_take (i := 15) (oi := { dst := some 70, op := Op.move (Operand.tmp 69), type := 4, pos := "laws.go:970", after := #[{ on := 14, ground := Ground.data }, { on := 13, ground := Ground.chain }, { on := 4, ground := Ground.guard }], guard := some (4, true) }) (v := ?_) rfl (by kernel_rfl) (by kernel_rfl) (by kernel_rfl) (fun _ _ _ h => h) (Or.inl ⟨by rfl, ?_⟩) (by assumption) ?_
              rotate_left
              · intro w hSw
                (try dsimp only at hSw)
                go_simp
                try with_reducible rfl
              try simp only [Act.put, List.setIfInBounds_toArray, List.set_cons_zero, List.set_cons_succ]
              refine wpAnyH_take (i := 16) (oi := { dst := some 71, op := Op.fieldAddr 33 (Operand.tmp 8) 6, type := 0, pos := "laws.go:970", after := #[{ on := 15, ground := Ground.guard }], guard := some (15, false) }) (v := ?_) rfl (by kernel_rfl) (by kernel_rfl) (by kernel_rfl) (fun _ _ _ h => h) (Or.inl ⟨by rfl, ?_⟩) (by assumption) ?_
              rotate_left
              · intro w hSw
                (try dsimp only at hSw)
                go_simp
                try with_reducible rfl
              try simp only [Act.put, List.setIfInBounds_toArray, List.set_cons_zero, List.set_cons_succ]
              refine wpAnyH_take (i := 17) (oi := { dst := some 72, op := Op.load 3 (Operand.tmp 71), type := 3, pos := "laws.go:970", after := #[{ on := 16, ground := Ground.data }, { on := 15, ground := Ground.guard }], guard := some (15, false) }) (v := ?_) rfl (by kernel_rfl) (by kernel_rfl) (by kernel_rfl) (fun _ _ _ h => h) (Or.inl ⟨by rfl, ?_⟩) (by assumption) ?_
              rotate_left
              · intro w hSw
                (try dsimp only at hSw)
                go_simp
                try with_reducible rfl
              try simp only [Act.put, List.setIfInBounds_toArray, List.set_cons_zero, List.set_cons_succ]
              refine wpAnyH_take (i := 18) (oi := { dst := some 73, op := Op.fieldAddr 26 (Operand.tmp 3) 1, type := 0, pos := "laws.go:970", after := #[{ on := 15, ground := Ground.guard }], guard := some (15, false) }) (v := ?_) rfl (by kernel_rfl) (by kernel_rfl) (by kernel_rfl) (fun _ _ _ h => h) (Or.inl ⟨by rfl, ?_⟩) (by assumption) ?_
              rotate_left
              · intro w hSw
                (try dsimp only at hSw)
                go_simp
                try with_reducible rfl
              try simp only [Act.put, List.setIfInBounds_toArray, List.set_cons_zero, List.set_cons_succ]
              refine wpAnyH_take (i := 19) (oi := { dst := some 74, op := Op.load 24 (Operand.tmp 73), type := 24, pos := "laws.go:970", after := #[{ on := 18, ground := Ground.data }, { on := 15, ground := Ground.guard }], guard := some (15, false) }) (v := ?_) rfl (by kernel_rfl) (by kernel_rfl) (by kernel_rfl) (fun _ _ _ h => h) (Or.inl ⟨by rfl, ?_⟩) (by assumption) ?_
              rotate_left
              · intro w hSw
                (try dsimp only at hSw)
                go_simp
                try with_reducible rfl
              try simp only [Act.put, List.setIfInBounds_toArray, List.set_cons_zero, List.set_cons_succ]
              refine wpAnyH_take (i := 20) (oi := { dst := some 75, op := Op.move (Operand.tmp 11), type := 3, pos := "laws.go:970", after := #[{ on := 15, ground := Ground.guard }], guard := some (15, false) }) (v := ?_) rfl (by kernel_rfl) (by kernel_rfl) (by kernel_rfl) (fun _ _ _ h => h) (Or.inl ⟨by rfl, ?_⟩) (by assumption) ?_
              rotate_left
              · intro w hSw
                (try dsimp only at hSw)
                go_simp
                try with_reducible rfl
              try simp only [Act.put, List.setIfInBounds_toArray, List.set_cons_zero, List.set_cons_succ]
              refine wpAnyH_take (i := 21) (oi := { dst := some 76, op := Op.indexAddr 24 (Operand.tmp 74) (Operand.tmp 75), type := 0, pos := "laws.go:970", after := #[{ on := 19, ground := Ground.data }, { on := 20, ground := Ground.data }, { on := 15, ground := Ground.guard }], guard := some (15, false) }) (v := ?_) rfl (by kernel_rfl) (by kernel_rfl) (by kernel_rfl) (fun _ _ _ h => h) (Or.inl ⟨by rfl, ?_⟩) (by assumption) ?_
              rotate_left
              · intro w hSw
                (try dsimp only at hSw)
                go_simp
                try with_reducible rfl
              try simp only [Act.put, List.setIfInBounds_toArray, List.set_cons_zero, List.set_cons_succ]
              refine wpAnyH_take (i := 22) (oi := { dst := some 77, op := Op.load 3 (Operand.tmp 76), type := 3, pos := "laws.go:970", after := #[{ on := 21, ground := Ground.data }, { on := 15, ground := Ground.guard }], guard := some (15, false) }) (v := ?_) rfl (by kernel_rfl) (by kernel_rfl) (by kernel_rfl) (fun _ _ _ h => h) (Or.inl ⟨by rfl, ?_⟩) (by assumption) ?_
              rotate_left
              · intro w hSw
                (try dsimp only at hSw)
                go_simp
                try with_reducible rfl
              try simp only [Act.put, List.setIfInBounds_toArray, List.set_cons_zero, List.set_cons_succ]
              refine wpAnyH_take (i := 23) (oi := { dst := some 78, op := Op.binOp BinOp.neq 3 (Operand.tmp 72) (Operand.tmp 77) 3, type := 4, pos := "laws.go:970", after := #[{ on := 17, ground := Ground.data }, { on := 22, ground := Ground.data }, { on := 15, ground := Ground.guard }], guard := some (15, false) }) (v := ?_) rfl (by kernel_rfl) (by kernel_rfl) (by kernel_rfl) (fun _ _ _ h => h) (Or.inl ⟨by rfl, ?_⟩) (by assumption) ?_
              rotate_left
              · intro w hSw
                (try dsimp only at hSw)
                go_simp
                try with_reducible rfl
              try simp only [Act.put, List.setIfInBounds_toArray, List.set_cons_zero, List.set_cons_succ]
              refine wpAnyH_take (i := 24) (oi := { dst := some 79, op := Op.pick (Operand.tmp 70) (Operand.const (Value.bool true)) (Operand.tmp 78), type := 4, pos := "laws.go:970", after := #[{ on := 15, ground := Ground.data }, { on := 23, ground := Ground.data }, { on := 4, ground := Ground.guard }], guard := some (4, true) }) (v := ?_) rfl (by kernel_rfl) (by kernel_rfl) (by kernel_rfl) (fun _ _ _ h => h) (Or.inl ⟨by rfl, ?_⟩) (by assumption) ?_
              rotate_left
              · intro w hSw
                (try dsimp only at hSw)
                go_simp
                try with_reducible rfl
              try simp only [Act.put, List.setIfInBounds_toArray, List.set_cons_zero, List.set_cons_succ]
              refine wpAnyH_take (i := 25) (oi := { dst := some 80, op := Op.pick (Operand.tmp 59) (Operand.tmp 79) (Operand.const (Value.bool false)), type := 4, pos := "laws.go:970", after := #[{ on := 4, ground := Ground.data }, { on := 24, ground := Ground.data }, { on := 2, ground := Ground.guard }], guard := some (2, false) }) (v := ?_) rfl (by kernel_rfl) (by kernel_rfl) (by kernel_rfl) (fun _ _ _ h => h) (Or.inl ⟨by rfl, ?_⟩) (by assumption) ?_
              rotate_left
              · intro w hSw
                (try dsimp only at hSw)
                go_simp
                try with_reducible rfl
              try simp only [Act.put, List.setIfInBounds_toArray, List.set_cons_zero, List.set_cons_succ]
              refine wpAnyH_take (i := 26) (oi := { dst := some 81, op := Op.pick (Operand.tmp 57) (Operand.const (Value.bool true)) (Operand.tmp 80), type := 4, pos := "laws.go:970", after := #[{ on := 2, ground := Ground.data }, { on := 25, ground := Ground.data }], guard := none }) (v := ?_) rfl (by kernel_rfl) (by kernel_rfl) (by kernel_rfl) (fun _ _ _ h => h) (Or.inl ⟨by rfl, ?_⟩) (by assumption) ?_
              rotate_left
              · intro w hSw
                (try dsimp only at hSw)
                go_simp
                try with_reducible rfl
              try simp only [Act.put, List.setIfInBounds_toArray, List.set_cons_zero, List.set_cons_succ]
              refine wpAnyH_take (i := 27) (oi := { dst := some 82, op := Op.move (Operand.tmp 81), type := 4, pos := "laws.go:970", after := #[{ on := 26, ground := Ground.data }, { on := 15, ground := Ground.chain }], guard := none }) (v := ?_) rfl (by kernel_rfl) (by kernel_rfl) (by kernel_rfl) (fun _ _ _ h => h) (Or.inl ⟨by rfl, ?_⟩) (by assumption) ?_
              rotate_left
              · intro w hSw
                (try dsimp only at hSw)
                go_simp
                try with_reducible rfl
              try simp only [Act.put, List.setIfInBounds_toArray, List.set_cons_zero, List.set_cons_succ]
              refine wpAnyH_take (i := 28) (oi := { dst := some 83, op := Op.move (Operand.tmp 12), type := 4, pos := "laws.go:970", after := #[{ on := 27, ground := Ground.guard }], guard := some (27, false) }) (v := ?_) rfl (by kernel_rfl) (by kernel_rfl) (by kernel_rfl) (fun _ _ _ h => h) (Or.inl ⟨by rfl, ?_⟩) (by assumption) ?_
              rotate_left
              · intro w hSw
                (try dsimp only at hSw)
                go_simp
                try with_reducible rfl
              try simp only [Act.put, List.setIfInBounds_toArray, List.set_cons_zero, List.set_cons_succ]
              refine wpAnyH_take (i := 29) (oi := { dst := some 84, op := Op.unOp UnOp.not 4 (Operand.tmp 83), type := 4, pos := "laws.go:970", after := #[{ on := 28, ground := Ground.data }, { on := 27, ground := Ground.guard }], guard := some (27, false) }) (v := ?_) rfl (by kernel_rfl) (by kernel_rfl) (by kernel_rfl) (fun _ _ _ h => h) (Or.inl ⟨by rfl, ?_⟩) (by assumption) ?_
              rotate_left
              · intro w hSw
                (try dsimp only at hSw)
                go_simp
                try with_reducible rfl
              try simp only [Act.put, List.setIfInBounds_toArray, List.set_cons_zero, List.set_cons_succ]
              refine wpAnyH_take (i := 30) (oi := { dst := some 85, op := Op.move (Operand.tmp 84), type := 4, pos := "laws.go:970", after := #[{ on := 29, ground := Ground.data }, { on := 27, ground := Ground.chain }, { on := 27, ground := Ground.guard }], guard := some (27, false) }) (v := ?_) rfl (by kernel_rfl) (by kernel_rfl) (by kernel_rfl) (fun _ _ _ h => h) (Or.inl ⟨by rfl, ?_⟩) (by assumption) ?_
              rotate_left
              · intro w hSw
                (try dsimp only at hSw)
                go_simp
                try with_reducible rfl
              try simp only [Act.put, List.setIfInBounds_toArray, List.set_cons_zero, List.set_cons_succ]
              refine wpAnyH_take (i := 31) (oi := { dst := some 86, op := Op.move (Operand.tmp 9), type := 28, pos := "laws.go:970", after := #[{ on := 30, ground := Ground.guard }], guard := some (30, true) }) (v := undef) rfl (by kernel_rfl) (by kernel_rfl) (by kernel_rfl) (fun _ _ _ h => h) (Or.inr ⟨by rfl, rfl⟩) (by assumption) ?_
              try simp only [Act.put, List.setIfInBounds_toArray, List.set_cons_zero, List.set_cons_succ]
              refine wpAnyH_take (i := 32) (oi := { dst := some 87, op := Op.binOp BinOp.neq 28 (Operand.tmp 86) (Operand.const (Value.complex FloatKind.f32 0 0)) 28, type := 4, pos := "laws.go:970", after := #[{ on := 31, ground := Ground.data }, { on := 30, ground := Ground.guard }], guard := some (30, true) }) (v := undef) rfl (by kernel_rfl) (by kernel_rfl) (by kernel_rfl) (fun _ _ _ h => h) (Or.inr ⟨by rfl, rfl⟩) (by assumption) ?_
              try simp only [Act.put, List.setIfInBounds_toArray, List.set_cons_zero, List.set_cons_succ]
              refine wpAnyH_take (i := 33) (oi := { dst := some 88, op := Op.move (Operand.tmp 87), type := 4, pos := "laws.go:970", after := #[{ on := 32, ground := Ground.data }, { on := 30, ground := Ground.chain }, { on := 30, ground := Ground.guard }], guard := some (30, true) }) (v := undef) rfl (by kernel_rfl) (by kernel_rfl) (by kernel_rfl) (fun _ _ _ h => h) (Or.inr ⟨by rfl, rfl⟩) (by assumption) ?_
              try simp only [Act.put, List.setIfInBounds_toArray, List.set_cons_zero, List.set_cons_succ]
              refine wpAnyH_take (i := 34) (oi := { dst := some 89, op := Op.fieldAddr 33 (Operand.tmp 8) 6, type := 0, pos := "laws.go:970", after := #[{ on := 33, ground := Ground.guard }], guard := some (33, false) }) (v := undef) rfl (by kernel_rfl) (by kernel_rfl) (by kernel_rfl) (fun _ _ _ h => h) (Or.inr ⟨by rfl, rfl⟩) (by assumption) ?_
              try simp only [Act.put, List.setIfInBounds_toArray, List.set_cons_zero, List.set_cons_succ]
              refine wpAnyH_take (i := 35) (oi := { dst := some 90, op := Op.load 3 (Operand.tmp 89), type := 3, pos := "laws.go:970", after := #[{ on := 34, ground := Ground.data }, { on := 33, ground := Ground.guard }], guard := some (33, false) }) (v := undef) rfl (by kernel_rfl) (by kernel_rfl) (by kernel_rfl) (fun _ _ _ h => h) (Or.inr ⟨by rfl, rfl⟩) (by assumption) ?_
              try simp only [Act.put, List.setIfInBounds_toArray, List.set_cons_zero, List.set_cons_succ]
              refine wpAnyH_take (i := 36) (oi := { dst := some 91, op := Op.binOp BinOp.neq 3 (Operand.tmp 90) (Operand.const (Value.int IntKind.i64 (-1))) 3, type := 4, pos := "laws.go:970", after := #[{ on := 35, ground := Ground.data }, { on := 33, ground := Ground.guard }], guard := some (33, false) }) (v := undef) rfl (by kernel_rfl) (by kernel_rfl) (by kernel_rfl) (fun _ _ _ h => h) (Or.inr ⟨by rfl, rfl⟩) (by assumption) ?_
              try simp only [Act.put, List.setIfInBounds_toArray, List.set_cons_zero, List.set_cons_succ]
              refine wpAnyH_take (i := 37) (oi := { dst := some 92, op := Op.pick (Operand.tmp 88) (Operand.const (Value.bool true)) (Operand.tmp 91), type := 4, pos := "laws.go:970", after := #[{ on := 33, ground := Ground.data }, { on := 36, ground := Ground.data }, { on := 30, ground := Ground.guard }], guard := some (30, true) }) (v := undef) rfl (by kernel_rfl) (by kernel_rfl) (by kernel_rfl) (fun _ _ _ h => h) (Or.inr ⟨by rfl, rfl⟩) (by assumption) ?_
              try simp only [Act.put, List.setIfInBounds_toArray, List.set_cons_zero, List.set_cons_succ]
              refine wpAnyH_take (i := 38) (oi := { dst := some 93, op := Op.pick (Operand.tmp 85) (Operand.tmp 92) (Operand.const (Value.bool false)), type := 4, pos := "laws.go:970", after := #[{ on := 30, ground := Ground.data }, { on := 37, ground := Ground.data }, { on := 27, ground := Ground.guard }], guard := some (27, false) }) (v := ?_) rfl (by kernel_rfl) (by kernel_rfl) (by kernel_rfl) (fun _ _ _ h => h) (Or.inl ⟨by rfl, ?_⟩) (by assumption) ?_
              rotate_left
              · intro w hSw
                (try dsimp only at hSw)
                go_simp
                try with_reducible rfl
              try simp only [Act.put, List.setIfInBounds_toArray, List.set_cons_zero, List.set_cons_succ]
              refine wpAnyH_take (i := 39) (oi := { dst := some 94, op := Op.pick (Operand.tmp 82) (Operand.const (Value.bool true)) (Operand.tmp 93), type := 4, pos := "laws.go:970", after := #[{ on := 27, ground := Ground.data }, { on := 38, ground := Ground.data }], guard := none }) (v := ?_) rfl (by kernel_rfl) (by kernel_rfl) (by kernel_rfl) (fun _ _ _ h => h) (Or.inl ⟨by rfl, ?_⟩) (by assumption) ?_
              rotate_left
              · intro w hSw
                (try dsimp only at hSw)
                go_simp
                try with_reducible rfl
              try simp only [Act.put, List.setIfInBounds_toArray, List.set_cons_zero, List.set_cons_succ]
              refine wpAnyH_done (by kernel_rfl) ?_ _
              refine NoPanic.normal ?_
              go_wp2_with fail
              go_meet
              refine ⟨rfl, KC.out.keep ?_, XC.out.keep ?_, YC.out.keep ?_, TC.out.keepS ?_⟩
              all_goals (repeat' (first | with_reducible exact Span.refl _ _ _ | with_reducible apply Span.drew | with_reducible apply Span.drewN | with_reducible apply Span.alloc))
        case rest =>
          obtain ⟨rfl, hK, hX, hY, hT⟩ := hcut
          have cY := hY.cells
          have fX := hX.thaw
          have cX := hX.cells
          have XS := Lib.hid (hX.set11 (.int .i64 6) (.complex .f32 0 0) (.complex .f32 0 0) (.float .f32 0) (.slice none 0 0) (.int .i64 0) (.int .i64 0) (.slice A9 lp p9) (.slice B9 lp q9) (.int .i64 l) (.int .i64 0))
          have zx := ZX.out
          have zl := ZL.out
          have zb := ZB.out
          have SP := fun (wx : World) => (Span.refl X (X + 1) wx).put11 (b := X) (by omega) (.int .i64 6) (.complex .f32 0 0) (.complex .f32 0 0) (.float .f32 0) (.slice none 0 0) (.int .i64 0) (.int .i64 0) (.slice A9 lp p9) (.slice B9 lp q9) (.int .i64 l) (.int .i64 0)
          have KX := Lib.hid (hK.put (SP _) zx.2 zx.1 zl)
          have TX := Lib.hid (hT.span (SP _) (by omega))
          have zlo := Lib.hid (show X < wr.heap.size from zb)
          clear hK hX hY hT KC XC YC TC SP HO2 HLT zx zl zb HK HB8
          go_wp2_with fail
          go_roundw
          case rel => exact ⟨k + 1, l, by omega, by go_num, KX.out, A9, p9, B9, q9, _, _, .inr zlo.out, XS.out, TX.out⟩
          case measure => simp [intOf]; omega
      · have hS := hK.2.2.2
        have HS := Lib.hid hS
        clear hK hX hS ZX ZL ZT Z1
        go_wp2_with fail
        refine (at_any w.heap.size A n c 1 wr (by omega) (by omega) Hn.out (HBy.out.below (HS.out.to_below (.inl (Nat.le_refl _))))).mono ?_
        rintro _ _ ⟨⟨v, rfl, v0, v1⟩, rfl⟩
        go_wp2_with fail
        obtain ⟨s, hs, hs8⟩ : ∃ s : Nat, (s : Int) = 1 + v % 8 ∧ 1 ≤ s ∧ s ≤ 8 := ⟨(1 + v % 8).toNat, by omega, by omega⟩
        rw [← hs]
        clear hs v0 v1
        obtain ⟨s1', s8⟩ := hs8
        refine (spec_gridTable_in s s1' s8 _).mono ?_
        rintro _ wg ⟨⟨vg, rfl, xg⟩, sg⟩
        obtain ⟨mg, hmg⟩ : ∃ m, m = s * s := ⟨_, rfl⟩
        have HMG := Lib.hid hmg
        have e1 : (gridT s).1.length = mg := by rw [hmg]; exact gridP_length _ _
        have e2 : (gridT s).2.length = mg := by rw [hmg]; exact gridL_length _
        have m64 : s * s ≤ 8 * 8 := Nat.mul_le_mul s8 s8
        rw [← hmg] at m64
        obtain ⟨AG, cG, BG, dG, rfl⟩ := xg.form
        rw [e1, e2] at xg ⊢
        have HE1 := Lib.hid e1.symm
        have HG := Lib.hid (xg.allocS (.cells #[.slice AG mg cG, .slice BG mg dG] 26))
        have SG := Lib.hid ((HS.out.trans sg).alloc (.cells #[.slice AG mg cG, .slice BG mg dG] 26))
        have BG0 := Lib.hid (Bx.new wg #[.slice AG mg cG, .slice BG mg dG] 26)
        obtain ⟨G, hG⟩ : ∃ b, b = wg.heap.size := ⟨_, rfl⟩
        rw [← hG] at BG0
        have m65 : (mg : Int) ≤ 64 := by omega
        clear xg sg e1 e2 hmg HS
        go_wp2_with fail
        rw [← hG]
        clear hG
        generalize wg.alloc (.cells #[.slice AG mg cG, .slice BG mg dG] 26) = wh at *
        refine (newSlicer_any (gridT s) (grid_valid s8 s1') AG BG mg cG dG HE1.out true _ _ wh HG.out).mono ?_
        rintro _ wi ⟨AI, pI, CI, qI, rfl, ti, si⟩
        have HGI := Lib.hid ((HG.out.keepS si).allocS (.cells #[.int .i64 6, .complex .f32 0 0, .complex .f32 0 0, .float .f32 0, .slice none 0 0, .int .i64 0, .int .i64 0, .slice AI mg pI, .slice CI mg qI, .int .i64 0, .int .i64 0] 33))
        have SI := Lib.hid ((SG.out.trans si).alloc (.cells #[.int .i64 6, .complex .f32 0 0, .complex .f32 0 0, .float .f32 0, .slice none 0 0, .int .i64 0, .int .i64 0, .slice AI mg pI, .slice CI mg qI, .int .i64 0, .int .i64 0] 33))
        have BGI := Lib.hid ((BG0.out.keep si).alloc (.cells #[.int .i64 6, .complex .f32 0 0, .complex .f32 0 0, .float .f32 0, .slice none 0 0, .int .i64 0, .int .i64 0, .slice AI mg pI, .slice CI mg qI, .int .i64 0, .int .i64 0] 33))
        have TI := Lib.hid (ti.allocS (.cells #[.int .i64 6, .complex .f32 0 0, .complex .f32 0 0, .float .f32 0, .slice none 0 0, .int .i64 0, .int .i64 0, .slice AI mg pI, .slice CI mg qI, .int .i64 0, .int .i64 0] 33))
        have BI := Lib.hid (Bx.new wi #[.int .i64 6, .complex .f32 0 0, .complex .f32 0 0, .float .f32 0, .slice none 0 0, .int .i64 0, .int .i64 0, .slice AI mg pI, .slice CI mg qI, .int .i64 0, .int .i64 0] 33)
        obtain ⟨S, hS⟩ : ∃ b, b = wi.heap.size := ⟨_, rfl⟩
        rw [← hS] at BI
        have cG2 := BGI.out.cells
        obtain ⟨bP, hP⟩ := HGI.out.points
        have HP := Lib.hid hP
        clear ti si HG SG BG0 hP BGI HGI
        go_wp2_with fail
        clear cG2
        rw [← hS]
        clear hS
        generalize wi.alloc (.cells #[.int .i64 6, .complex .f32 0 0, .complex .f32 0 0, .float .f32 0, .slice none 0 0, .int .i64 0, .int .i64 0, .slice AI mg pI, .slice CI mg qI, .int .i64 0, .int .i64 0] 33) = wj at *
        go_loopw [113] (fun q wr => ∃ (k : Nat), k ≤ mg ∧ q = .int .i64 k ∧ Span 0 0 wj wr) (fun q _ => mg - (intOf q).toNat)
        case atStart => exact ⟨0, Nat.zero_le _, rfl, Span.refl _ _ _⟩
        case round =>
          obtain ⟨k, hk, rfl, hs⟩ := hrel
          by_cases hlt : k < mg
          · obtain ⟨⟨z1, z2⟩, hz⟩ := getElem?_some (xs := (gridT s).1) (j := k) (by rw [← HE1.out]; exact hlt)
            obtain ⟨off, hoff⟩ := HP.out.addr (by rw [← HE1.out]; omega)
            subst hoff
            have hck : wr.cell? ⟨bP, off + k, none⟩ = some (.complex .f32 z1 z2) := (HP.out.span hs (.inl (Nat.le_refl _))).at_ hz
            have cS := (BI.out.keep hs).cells
            obtain ⟨hso, ho1, ho2⟩ := slicO_grid s8 s1' hz
            have ST := stepModule_slicer (gridT s) (grid_valid s8 s1') AI CI mg pI qI 0 z1 z2 HE1.out true _ _ wr (TI.out.keepS hs)
            unfold StepS at ST
            rw [hso] at ST
            have HST := Lib.hid ST
            have HSR := Lib.hid hs
            have i3 : (k : Int) < (mg : Int) := by omega
            clear hz hs hso ST
            go_wp2_with fail
            refine HST.out.mono ?_
            rintro _ wa ⟨A9, p9, B9, q9, rfl, -, s9⟩
            have YA := (Bx.new wa #[.int .i64 6, .complex .f32 0 0, .complex .f32 0 0, .float .f32 0, .slice none 0 0, .int .i64 0, .int .i64 0, .slice A9 mg p9, .slice B9 mg q9, .int .i64 (k : Int), .int .i64 0] 33).cells
            have SR := Lib.hid ((HSR.out.trans s9).alloc (.cells #[.int .i64 6, .complex .f32 0 0, .complex .f32 0 0, .float .f32 0, .slice none 0 0, .int .i64 0, .int .i64 0, .slice A9 mg p9, .slice B9 mg q9, .int .i64 (k : Int), .int .i64 0] 33))
            clear s9 hck cS
            go_wp2_with fail
            go_roundw
            case rel => exact ⟨k + 1, by omega, by go_num, SR.out⟩
            case measure => simp [intOf]; omega
          · have HSR := Lib.hid hs
            clear hs
            go_wp2_with fail
            go_ret
            exact ⟨rfl, (SI.out.trans HSR.out).to_below (.inl (Nat.le_refl _))⟩
  · have i0 : decide ((1048576 : Int) < (n : Int)) = true := by rw [decide_eq_true_iff]; omega
    clear hn h
    go_enter Tryz.func3, Tryz.ntmps3
    go_wp2_with fail
    go_ret
    exact ⟨rfl, Below.refl _ _⟩
end Go.Proofs.YtfafkdpefdpnkaaGreat
