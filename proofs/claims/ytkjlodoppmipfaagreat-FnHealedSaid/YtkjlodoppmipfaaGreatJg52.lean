/- The law FnHealed. -/
import Derived.Test.YtkjlodoppmipfaaGreatJg51
import Derived.Test.YtkjlodoppmipfaaGreatJg35
import Derived.Test.YtkjlodoppmipfaaGreatJg2
import Derived.Test.YtkjlodoppmipfaaGreatJg34
import Derived.Deep.DeepCutAuto
import Derived.Deep.MidRow
import Derived.BigQuiet
import Derived.Outline
namespace Go.Proofs.YtkjlodoppmipfaaGreat
open Go.RowKit

theorem Below.of_spanL {w w' : World} (h : Span 0 0 w w') : Below w.heap.size w w' := ⟨h.os, h.tape, h.output, h.size, fun k hk => h.block k hk (by omega)⟩
def GaM (wr : World) (MB : Nat) (wx : World) : Prop :=
  ∃ (l : Option Nat) (x : Mw), (∀ h, l = some h → h ≤ 4) ∧ (x = match l with | none => mSum | some h => mGain (lvl h)) ∧ Bx MB x.l.toArray wx ∧ Span 0 0 wr wx
theorem ga_there {b : Nat} {us : Array Value} {w : World} (h : Bx b us w) : w.there b 0 us.size := fun j hj => by
  rw [Nat.zero_add]
  exact ⟨by rw [h.2.1 j]; simp [hj], h.2.2 j⟩
set_option maxRecDepth 100000 in
theorem newGainH (l : Nat) (w : World) : Calls Tryz.prog 9 #[.float .f32 l] w fun e w' => e = .returned (.agg #[.int .i64 3, .complex .f32 0 0, .complex .f32 0 0, .float .f32 l, .slice none 0 0, .int .i64 0, .int .i64 0, .slice none 0 0, .slice none 0 0, .int .i64 0, .int .i64 0]) ∧ Span 0 0 w w' := by
  go_enter Tryz.func9, Tryz.ntmps9
  go_wp2_with fail
  exact bodyPost_ret (v := .agg #[.int .i64 3, .complex .f32 0 0, .complex .f32 0 0, .float .f32 l, .slice none 0 0, .int .i64 0, .int .i64 0, .slice none 0 0, .slice none 0 0, .int .i64 0, .int .i64 0]) (by simp [results, Tryz.results9, go_sem]) rfl ⟨rfl, (Span.refl _ _ _).alloc _⟩

set_option maxRecDepth 100000 in
set_option maxHeartbeats 8000000 in
theorem law_healed (A : Option Addr) (n c : Nat) (w : World) (h : HasBy w.heap.size w A n) : Calls Tryz.prog 3 #[.slice A n c] w (Says w) := by
  by_cases hn : n ≤ 1048576
  · have HN := Lib.hid hn
    have HBy := Lib.hid h
    have hn' : (n : Int) ≤ 1048576 := by omega
    obtain ⟨im, him, hzm, hsm, hbm⟩ := info_parts info_mod
    clear h hn
    go_enter Tryz.func3, Tryz.ntmps3
    go_wp2_with fail
    refine (newSourceK_is 0 1065353216 1065353216 1073741824 _).mono ?_
    rintro _ w1 ⟨rfl, s1⟩
    have S1 := Lib.hid s1
    have OM0 : Hid (((w1.alloc (.cells (Mw.l (mSource tI (sg 0))).toArray 32)).alloc (.cells #[.slice (some ⟨w1.heap.size, 0, none⟩) 1 1, .slice none 0 0] 37)).ownsRow w1.heap.size 32 11 (.slice (some ⟨w1.heap.size, 0, none⟩) 1 1) 1 (flatG Mw.l [mSource tI (sg 0)])) := (World.ownsRow_lit (base := w1.heap.size) (e := 32) (size := 11) w1 (Mw.l (mSource tI (sg 0))).toArray 1 (Nat.le_refl _) (by unfold maxLen; omega) rfl).alloc _
    have BR0 : Hid (Bx (w1.heap.size + 1) #[.slice (some ⟨w1.heap.size, 0, none⟩) 1 1, .slice none 0 0] ((w1.alloc (.cells (Mw.l (mSource tI (sg 0))).toArray 32)).alloc (.cells #[.slice (some ⟨w1.heap.size, 0, none⟩) 1 1, .slice none 0 0] 37))) := by
      have h := Bx.new (w1.alloc (.cells (Mw.l (mSource tI (sg 0))).toArray 32)) #[.slice (some ⟨w1.heap.size, 0, none⟩) 1 1, .slice none 0 0] 37
      rwa [show (w1.alloc (.cells (Mw.l (mSource tI (sg 0))).toArray 32)).heap.size = w1.heap.size + 1 by simp] at h
    have SZ0 : Hid (Span 0 0 w ((w1.alloc (.cells (Mw.l (mSource tI (sg 0))).toArray 32)).alloc (.cells #[.slice (some ⟨w1.heap.size, 0, none⟩) 1 1, .slice none 0 0] 37))) := (S1.out.alloc _).alloc _
    have SZ : Hid (GsJ (fun _ => none) (fun _ => 0) (.slice (some ⟨w1.heap.size, 0, none⟩) 1 1) (.slice none 0 0) [mSource tI (sg 0)] (w1.heap.size + 1) w1.heap.size w 1 1 ((w1.alloc (.cells (Mw.l (mSource tI (sg 0))).toArray 32)).alloc (.cells #[.slice (some ⟨w1.heap.size, 0, none⟩) 1 1, .slice none 0 0] 37))) := by
      refine ⟨fun _ _ h => (by cases h), fun i hi => hi, BR0.out, OM0.out, World.ownsRow_nil .., fun _ _ h => (by cases h), (by rw [ownBlock_slice]; intro e; injection e with e; omega), (by intro e; cases e), rfl, fun i x hx => ?_, SZ0.out, S1.out.size, (by have := S1.out.size; omega), (by simp; omega)⟩
      rcases i with _ | i
      · simp at hx; subst hx; rfl
      · simp at hx
    clear s1
    go_wp2_with fail
    change Code.wp _ _ _ _ ((w1.alloc (.cells (Mw.l (mSource tI (sg 0))).toArray 32)).alloc (.cells #[.slice (some ⟨w1.heap.size, 0, none⟩) 1 1, .slice none 0 0] 37))
    generalize (w1.alloc (.cells (Mw.l (mSource tI (sg 0))).toArray 32)).alloc (.cells #[.slice (some ⟨w1.heap.size, 0, none⟩) 1 1, .slice none 0 0] 37) = w2 at *
    clear OM0 BR0
    obtain ⟨B0, hB0⟩ : ∃ t, t = w1.heap.size := ⟨_, rfl⟩
    rw [← hB0] at SZ ⊢
    obtain ⟨RB, hRB⟩ : ∃ t, t = B0 + 1 := ⟨_, rfl⟩
    rw [← hRB] at SZ ⊢
    clear hB0 hRB
    go_loopw [4] (fun q wr => ∃ (k : Nat) (lv : Nat → Option Nat) (fa : Nat → Nat) (vM vC : Value) (Ms : List Mw), 1 ≤ k ∧ k ≤ 5 ∧ q = .int .i64 k ∧ GsJ lv fa vM vC Ms RB B0 w k k wr) (fun q _ => 5 - (intOf q).toNat)
    case atStart => exact ⟨1, _, _, _, _, _, by decide, by decide, rfl, SZ.out⟩
    case round =>
      clear SZ
      obtain ⟨k, lv, fa, vM, vC, Ms, hk1, hk, rfl, hJ⟩ := hrel
      by_cases hlt : k < 5
      · have HJ := Lib.hid hJ
        have HB2 := Lib.hid (fun (w' : World) (s : Span 0 0 wr w') => HBy.out.below (Below.of_spanL (hJ.span.trans s)))
        have HK := Lib.hid hlt
        have HK0 : Hid (0 < k) := hk1
        have hk0 : (0 : Int) < (k : Int) := by omega
        have j1 : (0 : Int) ≤ (k : Int) := by omega
        have j2 : (k : Int) < 5 := by omega
        clear hJ hk hlt hk1
        go_wp2_with fail
        refine (newSumK_is _).mono ?_
        rintro _ w2 ⟨rfl, s2⟩
        have S2 := Lib.hid s2
        have BM := Lib.hid (Bx.new w2 mSum.l.toArray 32)
        have SB := Lib.hid (s2.alloc (.cells mSum.l.toArray 32))
        obtain ⟨MB, hMB⟩ : ∃ t, t = w2.heap.size := ⟨_, rfl⟩
        have HMB : Hid (wr.heap.size ≤ MB) := by unfold Hid; rw [hMB]; exact s2.size
        rw [← hMB] at BM
        clear s2
        go_wp2_with fail
        try rw [← hMB]
        clear hMB
        change Calls Tryz.prog _ _ (w2.alloc (.cells mSum.l.toArray 32)) _
        generalize w2.alloc (.cells mSum.l.toArray 32) = w3 at *
        refine (at_any w.heap.size A n c k w3 j1 (by omega) HN.out (HB2.out w3 SB.out)).mono ?_
        rintro _ _ ⟨⟨v, rfl, v0, v1⟩, rfl⟩
        go_upto_if 30 with fail
        go_cut [] (fun wx => GaM wr MB wx)
        case first => as_aux_lemma =>
          by_cases hp : v % 2 = 0
          · have hp' : decide (v % 2 = 0) = true := decide_eq_true hp
            go_wp2_with fail
            refine (at_any w.heap.size A n c ((k : Int) + 5) w3 (by omega) (by omega) HN.out (HB2.out w3 SB.out)).mono ?_
            rintro _ _ ⟨⟨v2, rfl, v3, v4⟩, rfl⟩
            obtain ⟨d, hd, d2⟩ : ∃ d : Nat, v2 % 5 = (d : Int) ∧ d ≤ 4 := ⟨(v2 % 5).toNat, by omega, by omega⟩
            have HD := Lib.hid d2
            have i2 : (d : Int) ≤ 4 := by omega
            obtain ⟨q1, q2⟩ := ar_of (lvl_quo d2)
            unfold fi at q1 q2
            clear d2
            go_wp2_with fail
            try rw [hd]
            try simp only [q1, q2]
            refine (newGainH (lvl d) _).mono ?_
            rintro _ w4 ⟨rfl, s4⟩
            have S4 := Lib.hid s4
            have B4 := BM.out.keep s4
            have HB4 : Hid (Bx MB #[.int .i64 5, .complex .f32 0 0, .complex .f32 0 0, .float .f32 0, .slice none 0 0, .int .i64 0, .int .i64 0, .slice none 0 0, .slice none 0 0, .int .i64 0, .int .i64 0] w4) := B4
            have TH : Hid (w4.there MB 0 11) := ga_there HB4.out
            clear s4 B4 hd
            go_wp2_with (refine wpList_store_mid rfl 32 _ _ rfl MB 0 #[.int .i64 3, .complex .f32 0 0, .complex .f32 0 0, .float .f32 (lvl d), .slice none 0 0, .int .i64 0, .int .i64 0, .slice none 0 0, .slice none 0 0, .int .i64 0, .int .i64 0] rfl rfl ?t ?i ?o ?_; (case t => exact TH.out); (case i => kernel_rfl); (case o => exact all_oneCell_toArray (cs := Mw.l (mGain (lvl d))) (mw_oneH _)))
            go_meet
            have h11 := HB4.out.set11 (.int .i64 3) (.complex .f32 0 0) (.complex .f32 0 0) (.float .f32 (lvl d)) (.slice none 0 0) (.int .i64 0) (.int .i64 0) (.slice none 0 0) (.slice none 0 0) (.int .i64 0) (.int .i64 0)
            have SQ := Span.put11 (lo := MB) (hi := MB + 1) (b := MB) (Span.refl MB (MB + 1) w4) ⟨Nat.le_refl _, Nat.lt_succ_self _⟩ (.int .i64 3) (.complex .f32 0 0) (.complex .f32 0 0) (.float .f32 (lvl d)) (.slice none 0 0) (.int .i64 0) (.int .i64 0) (.slice none 0 0) (.slice none 0 0) (.int .i64 0) (.int .i64 0)
            have eS := setCells_mw w4 MB 0 (mGain (lvl d))
            simp only [Nat.zero_add] at eS
            refine ⟨some d, mGain (lvl d), (fun h hh => by injection hh with hh; rw [← hh]; exact HD.out), rfl, ?_, ?_⟩
            · refine Eq.mpr (congrArg (Bx MB _) eS) h11
            · refine Eq.mpr (congrArg (Span 0 0 wr) eS) ((SB.out.trans S4.out).newTo SQ HMB.out)
          · have hp' : decide (v % 2 = 0) = false := decide_eq_false hp
            go_wp2_with fail
            go_meet
            exact ⟨none, mSum, (fun h hh => by cases hh), rfl, BM.out, SB.out⟩
        case rest =>
          obtain ⟨l, x, hl, hx, hbx, s⟩ := hcut
          have HLV := Lib.hid hl
          have HX := Lib.hid hx
          have SW := Lib.hid s
          have bx := HJ.out.box.keep s
          have c0 := bx.cells
          have HOM := Lib.hid (ownsRow_farK HJ.out.om s (.inl (Nat.le_refl _)))
          obtain ⟨AM, qM, hvM⟩ := ownsRow_slice HJ.out.om
          subst hvM
          have HBX := Lib.hid bx
          have HLOW : Hid (B0 ≤ wc.heap.size) := Nat.le_trans HJ.out.low.2.2 s.size
          have HOFF := Lib.hid HJ.out.offM
          obtain ⟨k', t1, t2, s1, s2, lw, S, sn, sp, a, cnt, P, pn, pp, L, ln, lp, c', f⟩ := x
          have y : ∀ i, wc.cell? ⟨MB, i, none⟩ = #[.int .i64 k', .complex .f32 t1 t2, .complex .f32 s1 s2, .float .f32 lw, .slice S sn sp, .int .i64 a, .int .i64 cnt, .slice P pn pp, .slice L ln lp, .int .i64 c', .int .i64 f][i]? := hbx.cells
          clear hl hx s hbx bx BM SB S2 HB2 v0 v1
          have HCL : Hid ((csOf fa k).length ≤ 8) := (by have h1 := HK.out; have h2 := csOf_lenH fa (k - 1); rw [show k - 1 + 1 = k by have := HK0.out; omega] at h2; unfold Hid; omega)
          go_upto_region 11 with (at_builtin; go_loud ((refine wpList_append_lies _ rfl _ _ 34 rfl B0 32 im _ 11 136 Tryz.underlying34 him hzm hsm hbm rfl (by decide) (.slice AM k qM) k _ rfl (HOM.out.alloc _) ⟨wc.heap.size, 0, none⟩ 1 1 (Mw.l ⟨k', t1, t2, s1, s2, lw, S, sn, sp, a, cnt, P, pn, pp, L, ln, lp, c', f⟩) rfl rfl ?c1 ?c2 (by decide) ?c3 ?c4 ?c5 (wc.heap.size + 1) (by simp) ?_); (case c1 => exact row_newH _ _ _); (case c2 => exact mw_oneH _); (case c3 => have := HK.out; unfold maxLen; omega); (case c4 => have := HK.out; omega); (case c5 => have := HLOW.out; simp; omega); intro gU cU w6 ho6 hg6 hat6 hlt6; have B6 := (HBX.out.alloc _).grown hg6 HOFF.out; have f6 := B6.thaw; have q6 := B6.cells; have HJ2 := Lib.hid (gs_mod HJ.out (by have := HK0.out; omega) (SW.out.alloc _) l ⟨k', t1, t2, s1, s2, lw, S, sn, sp, a, cnt, P, pn, pp, L, ln, lp, c', f⟩ HX.out HLV.out ho6 hg6 (by simpa using hat6)); clear ho6 hg6 hat6 hlt6 B6))
          clear SW HOM HBX HLOW HOFF y c0 HX HLV
          generalize hw7 : w6.setCell ⟨RB, 0, none⟩ (.slice (some ⟨gU, 0, none⟩) (k + 1) cU) = w7 at *
          clear hw7
          obtain ⟨lv2, hlv2⟩ : ∃ t, t = (fun j => if j = k then l else lv j) := ⟨_, rfl⟩
          obtain ⟨Ms2, hMs2⟩ : ∃ t, t = Ms ++ [(⟨k', t1, t2, s1, s2, lw, S, sn, sp, a, cnt, P, pn, pp, L, ln, lp, c', f⟩ : Mw)] := ⟨_, rfl⟩
          rw [← hlv2, ← hMs2] at HJ2
          clear hlv2 hMs2 HJ
          --R11A
          obtain ⟨ic, hic, hzc, hsc, hbc⟩ := info_parts info_cab
          obtain ⟨AC, qC, hvC⟩ := ownsRow_slice HJ2.out.oc
          subst hvC
          obtain ⟨v3, v30, v31, hat⟩ := at_fixH A n c ((k : Int) + 9) w (by omega) (by omega) HN.out HBy.out
          have CAT : Hid (∀ w', Span 0 0 w7 w' → Calls Tryz.prog 8 #[.slice A n c, .int .i64 ((k : Int) + 9)] w' fun e w'' => e = .returned (.int .i64 v3) ∧ w' = w'') := fun w' s => hat w' (HJ2.out.span.trans s)
          obtain ⟨a, ha0, halt⟩ : ∃ a : Nat, v3.tmod (k : Int) = (a : Int) ∧ a < k := ⟨(v3 % (k : Int)).toNat, by rw [Int.tmod_eq_emod_of_nonneg v30]; have := Int.emod_nonneg v3 (show (k : Int) ≠ 0 by omega); omega, by have := Int.emod_lt_of_pos v3 hk0; have := Int.emod_nonneg v3 (show (k : Int) ≠ 0 by omega); omega⟩
          obtain ⟨k1, hk1⟩ : ∃ k1 : Nat, k1 = k - 1 := ⟨_, rfl⟩
          have HK1 := Lib.hid hk1
          have HAL := Lib.hid halt
          have w12 : IntKind.i64.wrap ((k : Int) + 9) = (k : Int) + 9 := by rw [IntKind.wrap_i64]; omega
          have w1 : IntKind.i64.wrap ((k : Int) - 1) = (k1 : Int) := by rw [IntKind.wrap_i64]; omega
          have wa : IntKind.i64.wrap (a : Int) = (a : Int) := by have := HK.out; rw [IntKind.wrap_i64]; omega
          have hkn0 : ¬ k = 0 := by have := HK0.out; omega
          have hkz : ¬ ((k : Int) = 0) := by omega
          have ZJ := Lib.hid HJ2.out.low.2.2
          clear hat hk1 halt v30 v31
          refine wp_region_inv [45, 46, 47, 48, 49, 50, 51, 52, 53, 54, 55, 56, 57, 58, 59, 60, 61] (CabH w7 RB B0 (.slice (some ⟨gU, 0, none⟩) (k + 1) cU) (.slice AC (csOf fa k).length qC) (flatG cabC (csOf fa k)) (cabC (a, k) ++ cabC (k1, k)) (csOf fa k).length 14 59 (fun wx => ∃ fa' vC', GsJ lv2 fa' (.slice (some ⟨gU, 0, none⟩) (k + 1) cU) vC' Ms2 RB B0 w (k + 1) (k + 1) wx) [45, 46, 47, 48, 49, 50, 51, 52, 53, 54, 55, 56, 57, 58, 59, 60, 61] [some (.pointer (some ⟨RB, 1, none⟩)), some (.slice AC (csOf fa k).length qC), some (.slice A n c), some (.int .i64 (k : Int)), some (.int .i64 ((k : Int) + 9)), some (.int .i64 v3), some (.int .i64 (k : Int)), some (.int .i64 (a : Int)), some (.int .i64 (k : Int)), some (.agg #[.int .i64 (a : Int), .int .i64 (k : Int)]), some (.int .i64 (k : Int)), some (.int .i64 (k1 : Int)), some (.int .i64 (k : Int)), some (.agg #[.int .i64 (k1 : Int), .int .i64 (k : Int)]), none, none, some (.pointer (some ⟨RB, 1, none⟩))]) (by kernel_rfl) (by kernel_rfl) (by kernel_rfl) (CabH.start ..) ?hstep ?hdone
          case hdone =>
            rintro L u w' hL hI
            have HD := Lib.hid (hI.p3 (hL 17 (by decide)))
            clear hL hI
            refine norm_arg (puts_cons (by (simp only [Act.put, List.setIfInBounds_toArray, List.set_cons_zero, List.set_cons_succ]); rfl) (puts_cons (by (simp only [Act.put, List.setIfInBounds_toArray, List.set_cons_zero, List.set_cons_succ]); rfl) (puts_cons (by (simp only [Act.put, List.setIfInBounds_toArray, List.set_cons_zero, List.set_cons_succ]); rfl) (puts_cons (by (simp only [Act.put, List.setIfInBounds_toArray, List.set_cons_zero, List.set_cons_succ]); rfl) (puts_cons (by (simp only [Act.put, List.setIfInBounds_toArray, List.set_cons_zero, List.set_cons_succ]); rfl) (puts_cons (by (simp only [Act.put, List.setIfInBounds_toArray, List.set_cons_zero, List.set_cons_succ]); rfl) (puts_cons (by (simp only [Act.put, List.setIfInBounds_toArray, List.set_cons_zero, List.set_cons_succ]); rfl) (puts_cons (by (simp only [Act.put, List.setIfInBounds_toArray, List.set_cons_zero, List.set_cons_succ]); rfl) (puts_cons (by (simp only [Act.put, List.setIfInBounds_toArray, List.set_cons_zero, List.set_cons_succ]); rfl) (puts_cons (by (simp only [Act.put, List.setIfInBounds_toArray, List.set_cons_zero, List.set_cons_succ]); rfl) (puts_cons (by (simp only [Act.put, List.setIfInBounds_toArray, List.set_cons_zero, List.set_cons_succ]); rfl) (puts_cons (by (simp only [Act.put, List.setIfInBounds_toArray, List.set_cons_zero, List.set_cons_succ]); rfl) (puts_cons (by (simp only [Act.put, List.setIfInBounds_toArray, List.set_cons_zero, List.set_cons_succ]); rfl) (puts_cons (by (simp only [Act.put, List.setIfInBounds_toArray, List.set_cons_zero, List.set_cons_succ]); rfl) (puts_cons (by (simp only [Act.put, List.setIfInBounds_toArray, List.set_cons_zero, List.set_cons_succ]); rfl) (puts_cons (by (simp only [Act.put, List.setIfInBounds_toArray, List.set_cons_zero, List.set_cons_succ]); rfl) (puts_cons (by (simp only [Act.put, List.setIfInBounds_toArray, List.set_cons_zero, List.set_cons_succ]); rfl) (puts_nil _ _)))))))))))))))))) ?_
            go_wp2_with fail
            obtain ⟨fa', vC', hE⟩ := HD.out
            have HE := Lib.hid hE
            clear hE HJ2
            go_roundw
            case rel => exact ⟨k + 1, _, _, _, _, _, by omega, HK.out, by go_num, HE.out⟩
            case measure => have := HK.out; simp [intOf]; omega
          case hstep =>
            rintro i o L u w' a' hcl ho hLi ha hI hag Q' K hK
            have hi : i < 18 := (Array.getElem?_eq_some_iff.1 ho).1
            have cl : ∀ (j j' : Nat) (oj : Oper) (g : Ground), (_ : Array Oper)[j]? = some oj → L j = true → (⟨j', g⟩ : Edge) ∈ oj.after → Region.binds .any ⟨j', g⟩ = true → L j' = true := fun j j' oj g h1 h2 h3 h4 => by
              rcases hcl j oj h1 h2 _ h3 with h | h
              · exact h
              · rw [h4] at h; cases h
            have h17 : i ≠ 17 → L 17 = false := fun hne => by
              cases h : L 17 with
              | false => rfl
              | true =>
                have h2 : L i = true := by
                  by_cases h16 : i = 16
                  · subst h16; exact cl 17 16 _ .data rfl h (by simp) rfl
                  · exact cl 17 i _ .phase rfl h (by rcases (show i = 0 ∨ i = 1 ∨ i = 2 ∨ i = 3 ∨ i = 4 ∨ i = 5 ∨ i = 6 ∨ i = 7 ∨ i = 8 ∨ i = 9 ∨ i = 10 ∨ i = 11 ∨ i = 12 ∨ i = 13 ∨ i = 14 ∨ i = 15 by omega) with rfl | rfl | rfl | rfl | rfl | rfl | rfl | rfl | rfl | rfl | rfl | rfl | rfl | rfl | rfl | rfl <;> simp) rfl
                rw [hLi] at h2; cases h2
            have h15 : i = 1 ∨ i = 5 ∨ i = 14 ∨ i = 15 → L 15 = false := fun hi5 => by
              cases h : L 15 with
              | false => rfl
              | true =>
                have l14 : L 14 = true := cl 15 14 _ .data rfl h (by simp) rfl
                have l1 : L 1 = true := cl 15 1 _ .data rfl h (by simp) rfl
                have l9 : L 9 = true := cl 14 9 _ .data rfl l14 (by simp) rfl
                have l7 : L 7 = true := cl 9 7 _ .data rfl l9 (by simp) rfl
                have l5 : L 5 = true := cl 7 5 _ .data rfl l7 (by simp) rfl
                rcases hi5 with rfl | rfl | rfl | rfl
                · rw [hLi] at l1; cases l1
                · rw [hLi] at l5; cases l5
                · rw [hLi] at l14; cases l14
                · rw [hLi] at h; cases h
            clear hcl cl
            have HK2 := Lib.hid hK
            have HI := Lib.hid hI
            have HV := Lib.hid hI.1
            have HAG := Lib.hid hag
            have hsn : Hid (List.Nodup [45, 46, 47, 48, 49, 50, 51, 52, 53, 54, 55, 56, 57, 58, 59, 60, 61]) := (by decide : List.Nodup [45, 46, 47, 48, 49, 50, 51, 52, 53, 54, 55, 56, 57, 58, 59, 60, 61])
            clear hK hI
            have t0 : a'.tmps[0]?.getD undef = .slice A n c := (hag.off (s := 0) (of_decide_eq_true (by kernel_rfl)) (by decide)).trans rfl
            have t3 : a'.tmps[3]?.getD undef = .pointer (some ⟨RB, 0, none⟩) := (hag.off (s := 3) (of_decide_eq_true (by kernel_rfl)) (by decide)).trans rfl
            have t4 : a'.tmps[4]?.getD undef = .int .i64 (k : Int) := (hag.off (s := 4) (of_decide_eq_true (by kernel_rfl)) (by decide)).trans rfl
            clear hag
            rcases (show i = 0 ∨ i = 1 ∨ i = 2 ∨ i = 3 ∨ i = 4 ∨ i = 5 ∨ i = 6 ∨ i = 7 ∨ i = 8 ∨ i = 9 ∨ i = 10 ∨ i = 11 ∨ i = 12 ∨ i = 13 ∨ i = 14 ∨ i = 15 ∨ i = 16 ∨ i = 17 by omega) with rfl | rfl | rfl | rfl | rfl | rfl | rfl | rfl | rfl | rfl | rfl | rfl | rfl | rfl | rfl | rfl | rfl | rfl
            all_goals
              simp only [List.getElem?_toArray, List.getElem?_cons_zero, List.getElem?_cons_succ, Option.some.injEq] at ho
              subst ho
              simp [Region.binds] at ha
            · clear ha h15 h17
              go_simp
              exact HK2.out _ _ (HI.out.val hsn.out 0 45 _ rfl rfl (by decide) (by decide) (by decide) (by decide) (by decide))
            · have f45 := (HAG.out.at_ (s := 45) (of_decide_eq_true (by kernel_rfl)) (by decide)).trans (HV.out 0 45 _ rfl rfl (by simp [ha]))
              have sp := Lib.hid (HI.out.p1 (h15 (by decide)) (h17 (by decide))).1
              have y := (HJ2.out.box.keep sp.out).cells 1
              clear ha h15 h17
              go_simp
              exact HK2.out _ _ (HI.out.val hsn.out 1 46 _ rfl rfl (by decide) (by decide) (by decide) (by decide) (by decide))
            · clear ha h15 h17
              go_simp
              exact HK2.out _ _ (HI.out.val hsn.out 2 47 _ rfl rfl (by decide) (by decide) (by decide) (by decide) (by decide))
            · clear ha h15 h17
              go_simp
              exact HK2.out _ _ (HI.out.val hsn.out 3 48 _ rfl rfl (by decide) (by decide) (by decide) (by decide) (by decide))
            · have f48 := (HAG.out.at_ (s := 48) (of_decide_eq_true (by kernel_rfl)) (by decide)).trans (HV.out 3 48 _ rfl rfl (by simp [ha]))
              clear ha h15 h17
              go_simp
              exact HK2.out _ _ (HI.out.val hsn.out 4 49 _ rfl rfl (by decide) (by decide) (by decide) (by decide) (by decide))
            · have f47 := (HAG.out.at_ (s := 47) (of_decide_eq_true (by kernel_rfl)) (by decide)).trans (HV.out 2 47 _ rfl rfl (by simp [ha]))
              have f49 := (HAG.out.at_ (s := 49) (of_decide_eq_true (by kernel_rfl)) (by decide)).trans (HV.out 4 49 _ rfl rfl (by simp [ha]))
              have sp := Lib.hid (HI.out.p1 (h15 (by decide)) (h17 (by decide))).1
              clear ha h15 h17
              go_simp
              refine (CAT.out _ sp.out).mono ?_
              rintro _ _ ⟨rfl, rfl⟩
              have h := HK2.out (.int .i64 v3) _ (HI.out.val hsn.out 5 50 _ rfl rfl (by decide) (by decide) (by decide) (by decide) (by decide))
              clear HK2 HI HV HAG
              go_wp2_with fail
              exact h
            · clear ha h15 h17
              go_simp
              exact HK2.out _ _ (HI.out.val hsn.out 6 51 _ rfl rfl (by decide) (by decide) (by decide) (by decide) (by decide))
            · have f50 := (HAG.out.at_ (s := 50) (of_decide_eq_true (by kernel_rfl)) (by decide)).trans (HV.out 5 50 _ rfl rfl (by simp [ha]))
              have f51 := (HAG.out.at_ (s := 51) (of_decide_eq_true (by kernel_rfl)) (by decide)).trans (HV.out 6 51 _ rfl rfl (by simp [ha]))
              clear ha h15 h17
              go_simp
              exact HK2.out _ _ (HI.out.val hsn.out 7 52 _ rfl rfl (by decide) (by decide) (by decide) (by decide) (by decide))
            · clear ha h15 h17
              go_simp
              exact HK2.out _ _ (HI.out.val hsn.out 8 53 _ rfl rfl (by decide) (by decide) (by decide) (by decide) (by decide))
            · have f52 := (HAG.out.at_ (s := 52) (of_decide_eq_true (by kernel_rfl)) (by decide)).trans (HV.out 7 52 _ rfl rfl (by simp [ha]))
              have f53 := (HAG.out.at_ (s := 53) (of_decide_eq_true (by kernel_rfl)) (by decide)).trans (HV.out 8 53 _ rfl rfl (by simp [ha]))
              clear ha h15 h17
              go_simp
              exact HK2.out _ _ (HI.out.val hsn.out 9 54 _ rfl rfl (by decide) (by decide) (by decide) (by decide) (by decide))
            · clear ha h15 h17
              go_simp
              exact HK2.out _ _ (HI.out.val hsn.out 10 55 _ rfl rfl (by decide) (by decide) (by decide) (by decide) (by decide))
            · have f55 := (HAG.out.at_ (s := 55) (of_decide_eq_true (by kernel_rfl)) (by decide)).trans (HV.out 10 55 _ rfl rfl (by simp [ha]))
              clear ha h15 h17
              go_simp
              exact HK2.out _ _ (HI.out.val hsn.out 11 56 _ rfl rfl (by decide) (by decide) (by decide) (by decide) (by decide))
            · clear ha h15 h17
              go_simp
              exact HK2.out _ _ (HI.out.val hsn.out 12 57 _ rfl rfl (by decide) (by decide) (by decide) (by decide) (by decide))
            · have f56 := (HAG.out.at_ (s := 56) (of_decide_eq_true (by kernel_rfl)) (by decide)).trans (HV.out 11 56 _ rfl rfl (by simp [ha]))
              have f57 := (HAG.out.at_ (s := 57) (of_decide_eq_true (by kernel_rfl)) (by decide)).trans (HV.out 12 57 _ rfl rfl (by simp [ha]))
              clear ha h15 h17
              go_simp
              exact HK2.out _ _ (HI.out.val hsn.out 13 58 _ rfl rfl (by decide) (by decide) (by decide) (by decide) (by decide))
            · have H15 := Lib.hid (h15 (by decide))
              have H17 := Lib.hid (h17 (by decide))
              obtain ⟨sp, hG⟩ := HI.out.p1 H15.out H17.out
              have e54 : a'.eval (.tmp 54) = .agg #[.int .i64 (a : Int), .int .i64 (k : Int)] := (Array.getD_eq_getD_getElem? ..).trans ((HAG.out.at_ (s := 54) (of_decide_eq_true (by kernel_rfl)) (by decide)).trans (HV.out 9 54 _ rfl rfl (by simp [ha])))
              have e58 : a'.eval (.tmp 58) = .agg #[.int .i64 (k1 : Int), .int .i64 (k : Int)] := (Array.getD_eq_getD_getElem? ..).trans ((HAG.out.at_ (s := 58) (of_decide_eq_true (by kernel_rfl)) (by decide)).trans (HV.out 13 58 _ rfl rfl (by simp [ha])))
              refine if_wanted rfl ?_
              refine wp_buildSlice2 (x := .tmp 54) (y := .tmp 58) rfl _ _ e54 e58 (cabC (a, k) ++ cabC (k1, k)) Tryz.underlying35 info_cab (by decide) (by decide) rfl rfl rfl ?_
              exact HK2.out _ _ (HI.out.mk_ hsn.out rfl rfl H15.out H17.out _)
            · have H15 := Lib.hid (h15 (by decide))
              have H17 := Lib.hid (h17 (by decide))
              obtain ⟨sp, hG⟩ := HI.out.p1 H15.out H17.out
              obtain ⟨G, hg1, hg2⟩ := hG (by simp [ha])
              have e1 : a'.eval (.tmp 46) = .slice AC (csOf fa k).length qC := (Array.getD_eq_getD_getElem? ..).trans ((HAG.out.at_ (s := 46) (of_decide_eq_true (by kernel_rfl)) (by decide)).trans (HV.out 1 46 _ rfl rfl (by simp [ha])))
              have e2 : a'.eval (.tmp 59) = .slice (some ⟨G, 0, none⟩) 2 2 := (Array.getD_eq_getD_getElem? ..).trans ((HAG.out.at_ (s := 59) (of_decide_eq_true (by kernel_rfl)) (by decide)).trans hg1)
              refine if_wanted rfl ?_
              refine wp_append_lies _ (.tmp 46) (.tmp 59) 35 rfl B0 42 ic (.agg #[.int .i64 0, .int .i64 0]) 2 16 Tryz.underlying35 hic hzc hsc hbc rfl (by decide) _ (csOf fa k).length (flatG cabC (csOf fa k)) e1 (ownsRow_farK HJ2.out.oc sp (.inl (Nat.le_refl _))) ⟨G, 0, none⟩ 2 2 (cabC (a, k) ++ cabC (k1, k)) e2 rfl hg2.2 ?one (by decide) ?l1 ?l2 ?l3 w'.heap.size rfl ?_
              case one => intro u hu; simp only [cabC, List.cons_append, List.nil_append, List.mem_cons, List.not_mem_nil, or_false] at hu; rcases hu with rfl | rfl | rfl | rfl <;> rfl
              case l1 => have := HCL.out; unfold maxLen; omega
              case l2 => have := HCL.out; omega
              case l3 => have := ZJ.out; have := sp.size; omega
              intro g cap w6 ho hg hat _
              exact HK2.out _ _ (HI.out.app hsn.out rfl rfl H15.out H17.out hg hat ho ((HJ2.out.box.keep sp).grown hg HJ2.out.offC))
            · clear ha h15 h17
              go_simp
              exact HK2.out _ _ (HI.out.val hsn.out 16 61 _ rfl rfl (by decide) (by decide) (by decide) (by decide) (by decide))
            · obtain ⟨g, cap, wb, hu, sp, hg, hat, ho, hb⟩ := HI.out.p2 (by simp [ha]) hLi
              have f60 := (HAG.out.at_ (s := 60) (of_decide_eq_true (by kernel_rfl)) (by decide)).trans hu
              have f61 := (HAG.out.at_ (s := 61) (of_decide_eq_true (by kernel_rfl)) (by decide)).trans (HV.out 16 61 _ rfl rfl (by simp [ha]))
              have y := hb.cells 1
              have z := hb.thaw
              have HX := Lib.hid (And.intro sp (And.intro hg (And.intro hat ho)))
              clear ha sp hg hat ho hb hu h15 h17 HAG HV
              go_simp
              obtain ⟨sp, hg, hat, ho⟩ := HX.out
              have e1 := HK1.out
              subst e1
              exact HK2.out undef _ (HI.out.st rfl ⟨_, _, gs_cab HJ2.out HK0.out sp a HAL.out ho hg hat⟩ _)
          --R11B
      · have hk5 : k = 5 := by omega
        subst hk5
        --H2A
        have HJ := Lib.hid hJ
        have HB2 := Lib.hid (fun (w' : World) (s : Span 0 0 wr w') => HBy.out.below (Below.of_spanL (hJ.span.trans s)))
        obtain ⟨bM, bC, AM, cM, AC, cC, rfl, rfl, hRK, hRD⟩ := hJ.rack
        have HRK := Lib.hid hRK
        have HRD := Lib.hid hRD
        clear hk hlt hk1 hJ hRK hRD
        go_wp2_with fail
        refine (at_any w.heap.size A n c 1 wr (by decide) (by decide) HN.out (HB2.out wr (Span.refl ..))).mono ?_
        rintro _ _ ⟨⟨v1, rfl, u1, u2⟩, rfl⟩
        go_wp2_with fail
        refine (at_any w.heap.size A n c 2 wr (by decide) (by decide) HN.out (HB2.out wr (Span.refl ..))).mono ?_
        rintro _ _ ⟨⟨v2, rfl, u3, u4⟩, rfl⟩
        go_upto_region 14 with fail
        obtain ⟨fr, hfr, hfr8⟩ : ∃ d : Nat, v1 % 8 = (d : Int) ∧ d < 8 := ⟨(v1 % 8).toNat, by omega, by omega⟩
        obtain ⟨til, htil, htl1, htl2⟩ : ∃ d : Nat, v1 % 8 + v2 % 6 = (d : Int) ∧ fr ≤ d ∧ d ≤ 12 := ⟨(v1 % 8 + v2 % 6).toNat, by omega, by omega, by omega⟩
        rw [htil, hfr]
        clear hfr htil u1 u2 u3 u4
        go_upto_region 15 with fail
        --R15A
        have BP := Lib.hid (Bx.new wr #[.int .i64 (-1), .int .i64 4] 44)
        have SP := Lib.hid ((Span.refl 0 0 wr).alloc (.cells #[.int .i64 (-1), .int .i64 4] 44))
        obtain ⟨PB, hPB⟩ : ∃ t, t = wr.heap.size := ⟨_, rfl⟩
        rw [← hPB] at BP ⊢
        clear hPB
        generalize wr.alloc (.cells #[.int .i64 (-1), .int .i64 4] 44) = v0 at *
        have BR0 := Lib.hid (HJ.out.box.keep SP.out)
        obtain ⟨v3, v30, v31, hat3⟩ := at_fixH A n c 3 w (by decide) (by decide) HN.out HBy.out
        obtain ⟨v4, v40, v41, hat4⟩ := at_fixH A n c 4 w (by decide) (by decide) HN.out HBy.out
        have CAT3 : Hid (∀ w', Span 0 0 v0 w' → Calls Tryz.prog 8 #[.slice A n c, .int .i64 3] w' fun e w'' => e = .returned (.int .i64 v3) ∧ w' = w'') := fun w' s => hat3 w' (HJ.out.span.trans (SP.out.trans s))
        have CAT4 : Hid (∀ w', Span 0 0 v0 w' → Calls Tryz.prog 8 #[.slice A n c, .int .i64 4] w' fun e w'' => e = .returned (.int .i64 v4) ∧ w' = w'') := fun w' s => hat4 w' (HJ.out.span.trans (SP.out.trans s))
        obtain ⟨k0, hk0, hk03⟩ : ∃ k0 : Nat, v3.tmod 3 = (k0 : Int) ∧ k0 < 3 := ⟨(v3 % 3).toNat, by rw [Int.tmod_eq_emod_of_nonneg v30]; omega, by omega⟩
        obtain ⟨md, hmd, hmd5⟩ : ∃ md : Nat, v4.tmod 5 = (md : Int) ∧ md < 5 := ⟨(v4 % 5).toNat, by rw [Int.tmod_eq_emod_of_nonneg v40]; omega, by omega⟩
        obtain ⟨kd, hkd⟩ : ∃ kd, kd = 1 + k0 := ⟨_, rfl⟩
        have wk : IntKind.i64.wrap (k0 : Int) = (k0 : Int) := by rw [IntKind.wrap_i64]; omega
        have wm : IntKind.i64.wrap (md : Int) = (md : Int) := by rw [IntKind.wrap_i64]; omega
        have wd : IntKind.i64.wrap (1 + (k0 : Int)) = (kd : Int) := by rw [IntKind.wrap_i64]; omega
        have HOK : Hid (okF 5 (⟨kd, md, fr, til⟩ : Ft)) := ⟨by simp only; omega, by simp only; omega, hmd5, htl1, by simp only; omega⟩
        have R1 : Hid (∀ w', Span 0 0 v0 w' → ∀ G, HasC 4 ftC G 0 w'.heap.size w' (.slice (some ⟨G, 0, none⟩) 1 1) [(⟨kd, md, fr, til⟩ : Ft)] → Calls Tryz.prog 10 #[.agg #[.slice AM 5 cM, .slice AC 8 cC], .agg #[.int .i64 (-1), .int .i64 4], .slice none 0 0, .slice (some ⟨G, 0, none⟩) 1 1, .int .i64 16] w' (RanRel 5 8 16 (csOf fa 5) (fun i y => ¬ (fr ≤ i ∧ i < til) → y = xO lv fa (sg i) 4) (fun i m => m = mH lv 16 i) w')) := fun w' s G h => by
          have h2 := h
          obtain ⟨_, _, _, _, h9⟩ := h2
          obtain ⟨_, _, _, _, hlt, _⟩ := h9 (by simp)
          exact run_hf (w := w') HJ.out.fal HJ.out.lvl ((HRK.out.keep SP.out).keep s) ((HRD.out.keep SP.out).keep s) HJ.out.is (by omega) 16 (by decide) (⟨kd, md, fr, til⟩ : Ft) HOK.out G _ h hlt
        have hPk : Hid (∀ T w1 w2, (PH lv (csOf fa 5) (fun i y => ¬ (fr ≤ i ∧ i < til) → y = xO lv fa (sg i) 4)) T w1 → Span 0 0 w1 w2 → (PH lv (csOf fa 5) (fun i y => ¬ (fr ≤ i ∧ i < til) → y = xO lv fa (sg i) 4)) T w2) := fun T w1 w2 h s => h.keep s
        have HCS : Hid (csOf fa 5 ≠ []) := fun e => by have := csOf_lenH fa 4; rw [e] at this; simp at this
        have HTL := Lib.hid (And.intro htl1 htl2)
        clear hat3 hat4 v30 v31 v40 v41 hkd hk03 hmd5 htl1 htl2 hfr8
        refine wp_region_invB [9, 10, 11, 71, 72, 73, 74, 75, 76, 77, 78, 79, 80, 81, 82, 83, 84, 85, 86, 87, 88] (RunI v0 [(.agg #[.slice AM 5 cM, .slice AC 8 cC] : Value), (.agg #[.int .i64 (-1), .int .i64 4] : Value), (.slice A n c : Value), (.int .i64 v3 : Value), (.int .i64 (k0 : Int) : Value), (.int .i64 (kd : Int) : Value), (.slice A n c : Value), (.int .i64 v4 : Value), (.int .i64 (md : Int) : Value), (.int .i64 (fr : Int) : Value), (.int .i64 (til : Int) : Value), (.agg #[.int .i64 (kd : Int), .int .i64 (md : Int), .int .i64 (fr : Int), .int .i64 (til : Int)] : Value)] (⟨kd, md, fr, til⟩ : Ft) (PH lv (csOf fa 5) (fun i y => ¬ (fr ≤ i ∧ i < til) → y = xO lv fa (sg i) 4))) (by kernel_rfl) (by kernel_rfl) (by kernel_rfl) (RunI.start ..) ?hstep ?hdone
        case hdone =>
          rintro L u w' hL hI
          obtain ⟨b, g, bC, Ns, A1, q, ys, hT, hMd, hNl, hNs, hCs, hYs, hyl, hyy⟩ := hI.res (hL 13 (by decide))
          obtain ⟨B1, c0, c1, h9, hpp, hbx⟩ := hI.st (hL 19 (by decide))
          have h10 := hI.pt (20, 10, fun T => partH T 1) (by simp [ptH]) (hL 20 (by decide))
          have h11 := hI.pt (21, 11, fun T => partH T 2) (by simp [ptH]) (hL 21 (by decide))
          rw [hT] at h10 h11 hpp
          have h10 : u 10 = .slice (some ⟨g, 0, none⟩) 16 16 := h10
          have h11 : u 11 = .bool true := h11
          have hpp : (.agg #[.slice (some ⟨b, 0, none⟩) 5 5, .slice A1 8 q] : Value) = .agg #[c0, c1] := hpp
          simp only [Value.agg.injEq, Array.mk.injEq, List.cons.injEq, and_true] at hpp
          obtain ⟨rfl, rfl⟩ := hpp
          have S1 := Lib.hid hI.sp
          have MD1 := Lib.hid hMd
          have NL1 := Lib.hid hNl
          have NS1 := Lib.hid hNs
          have CS1 := Lib.hid hCs
          have YS1 := Lib.hid hYs
          have YL1 := Lib.hid hyl
          have YY1 := Lib.hid hyy
          have BX1 := Lib.hid hbx
          clear hL hI hMd hNl hNs hCs hYs hyl hyy hbx hT CAT3 CAT4 R1 hPk HOK hk0 hmd wk wm wd
          refine norm_arg (puts_cons (by (simp only [Act.put, List.setIfInBounds_toArray, List.set_cons_zero, List.set_cons_succ]); rfl) (puts_cons (by (simp only [Act.put, List.setIfInBounds_toArray, List.set_cons_zero, List.set_cons_succ]); rfl) (puts_cons (by (simp only [Act.put, List.setIfInBounds_toArray, List.set_cons_zero, List.set_cons_succ]); rfl) (puts_cons (by (simp only [Act.put, List.setIfInBounds_toArray, List.set_cons_zero, List.set_cons_succ]); rfl) (puts_cons (by (simp only [Act.put, List.setIfInBounds_toArray, List.set_cons_zero, List.set_cons_succ]); rfl) (puts_cons (by (simp only [Act.put, List.setIfInBounds_toArray, List.set_cons_zero, List.set_cons_succ]); rfl) (puts_cons (by (simp only [Act.put, List.setIfInBounds_toArray, List.set_cons_zero, List.set_cons_succ]); rfl) (puts_cons (by (simp only [Act.put, List.setIfInBounds_toArray, List.set_cons_zero, List.set_cons_succ]); rfl) (puts_cons (by (simp only [Act.put, List.setIfInBounds_toArray, List.set_cons_zero, List.set_cons_succ]); rfl) (puts_cons (by (simp only [Act.put, List.setIfInBounds_toArray, List.set_cons_zero, List.set_cons_succ]); rfl) (puts_cons (by (simp only [Act.put, List.setIfInBounds_toArray, List.set_cons_zero, List.set_cons_succ]); rfl) (puts_cons (by (simp only [Act.put, List.setIfInBounds_toArray, List.set_cons_zero, List.set_cons_succ]); rfl) (puts_cons (by (simp only [Act.put, List.setIfInBounds_toArray, List.set_cons_zero, List.set_cons_succ]); rfl) (puts_cons (by (simp only [Act.put, List.setIfInBounds_toArray, List.set_cons_zero, List.set_cons_succ]); rfl) (puts_cons (by (simp only [Act.put, List.setIfInBounds_toArray, List.set_cons_zero, List.set_cons_succ]); rfl) (puts_cons (by (simp only [Act.put, List.setIfInBounds_toArray, List.set_cons_zero, List.set_cons_succ]); rfl) (puts_cons (by (simp only [Act.put, List.setIfInBounds_toArray, List.set_cons_zero, List.set_cons_succ]); rfl) (puts_cons (by (simp only [Act.put, List.setIfInBounds_toArray, List.set_cons_zero, List.set_cons_succ]); rfl) (puts_cons (by (simp only [Act.put, List.setIfInBounds_toArray, List.set_cons_zero, List.set_cons_succ]); rfl) (puts_cons (by (simp only [Act.put, List.setIfInBounds_toArray, List.set_cons_zero, List.set_cons_succ]); rfl) (puts_cons (by (simp only [Act.put, List.setIfInBounds_toArray, List.set_cons_zero, List.set_cons_succ]); rfl) (puts_nil _ _)))))))))))))))))))))) ?_
          rw [h9, h10, h11]
          clear h9 h10 h11
          --H16A
          have R2 := run_h (w := w') HJ.out.fal HJ.out.lvl ((HRK.out.keep SP.out).keep S1.out) ((HRD.out.keep SP.out).keep S1.out) HJ.out.is (by have := MD1.out.1; omega) 16 (by decide)
          have R2' := Lib.hid R2
          clear R2
          have r1 := (BR0.out.keep S1.out).cells
          have p1 := (BP.out.keep S1.out).cells
          go_wp2_with fail
          refine R2'.out.mono ?_
          rintro _ w21 ⟨b2, g2, bC2, Ns2, A2, q2, zs, rfl, hzl, hzz, _, _, hMd2, hNl2, hNs2, hCs2, hZs, s2⟩
          clear r1 p1 R2'
          go_upto_region 17 with fail
          have T1 := Lib.hid (s2.alloc (.cells #[.slice (some ⟨b2, 0, none⟩) 5 5, .slice A2 8 q2] 37))
          have TA := Lib.hid ((Span.refl 0 0 w21).alloc (.cells #[.slice (some ⟨b2, 0, none⟩) 5 5, .slice A2 8 q2] 37))
          have BX2 := Lib.hid (Bx.new w21 #[.slice (some ⟨b2, 0, none⟩) 5 5, .slice A2 8 q2] 37)
          obtain ⟨B2, hB2⟩ : ∃ t, t = w21.heap.size := ⟨_, rfl⟩
          rw [← hB2] at BX2 ⊢
          clear hB2
          generalize w21.alloc (.cells #[.slice (some ⟨b2, 0, none⟩) 5 5, .slice A2 8 q2] 37) = v1 at *
          have BY1 := Lib.hid (BX1.out.keep T1.out)
          have eNs := same_modH NL1.out hNl2 NS1.out hNs2
          have E3 : Hid (∀ w2, Span 0 0 v1 w2 → Calls Tryz.prog 12 #[.agg #[.slice (some ⟨b, 0, none⟩) 5 5, .slice A1 8 q], .agg #[.slice (some ⟨b2, 0, none⟩) 5 5, .slice A2 8 q2]] w2 fun e w3 => e = .returned (.bool true) ∧ Span 0 0 w2 w3) := fun w2 s => specSameRacks_self Ns (csOf fa 5) (fun i x hx => by rw [NS1.out i x hx]; exact plainM_h lv 16 i) (by rw [NL1.out]; decide) (by have h := csOf_lenH fa 4; rw [h]; decide) b b2 bC bC2 _ _ _ _ w2 (madeK_has MD1.out NL1.out (T1.out.trans s)) (by rw [eNs]; exact madeK_has hMd2 hNl2 (TA.out.trans s)) (CS1.out.k (T1.out.trans s)) ((hCs2.weak (Nat.zero_le _) (.inl (Nat.le_refl _))).k (TA.out.trans s))
          have HY1 := Lib.hid (YS1.out.span T1.out (.inl (Nat.le_refl _)))
          have HZ1 := Lib.hid (hZs.span TA.out (.inl (Nat.le_refl _)))
          have SD := Lib.hid (fun k m hm ha => same_sideH (X := fun i => xO lv fa (sg i) 4) (act := fun i => fr ≤ i ∧ i < til) YL1.out hzl (fun i y hy hn => YY1.out i y hy hn) hzz k m hm ha)
          obtain ⟨htl1, htl2⟩ := HTL.out
          obtain ⟨E, hE⟩ : ∃ E, E = 16 - til := ⟨_, rfl⟩
          have E1 : Hid (∀ w2, Span 0 0 v1 w2 → Calls Tryz.prog 13 #[.slice (some ⟨g, 0, none⟩) fr 16, .slice (some ⟨g2, 0, none⟩) fr 16] w2 (SaysTrue w2)) := fun w2 s => by
            have h1 := (HY1.out.span s (.inl (Nat.le_refl _))).partH 0 fr 16 (by rw [YL1.out]; omega) (by omega)
            have h2 := (HZ1.out.span s (.inl (Nat.le_refl _))).partH 0 fr 16 (by rw [hzl]; omega) (by omega)
            rw [SD.out 0 fr (by omega) (fun j hj h => by omega)] at h2
            exact makeSame_self _ _ _ _ _ _ _ _ _ _ _ _ h1 h2 (by simp; omega)
          have E2 : Hid (∀ w2, Span 0 0 v1 w2 → Calls Tryz.prog 13 #[.slice (some ⟨g, til, none⟩) E E, .slice (some ⟨g2, til, none⟩) E E] w2 (SaysTrue w2)) := fun w2 s => by
            have h1 := (HY1.out.span s (.inl (Nat.le_refl _))).partH til E E (by rw [YL1.out]; omega) (by omega)
            have h2 := (HZ1.out.span s (.inl (Nat.le_refl _))).partH til E E (by rw [hzl]; omega) (by omega)
            rw [SD.out til E (by omega) (fun j hj h => by omega)] at h2
            rw [Nat.zero_add] at h1 h2
            exact makeSame_self _ _ _ _ _ _ _ _ _ _ _ _ h1 h2 (by simp; omega)
          have a0 : (0 : Int) ≤ (fr : Int) := by omega
          have a1 : (fr : Int) ≤ 16 := by omega
          have a2 : (0 : Int) ≤ (til : Int) := by omega
          have a3 : (til : Int) ≤ 16 := by omega
          have a4 : ¬ til = 16 := by omega
          have a5 : ¬ 16 = til := by omega
          have a6 : 16 - til = E := hE.symm
          have a7 : fr ≤ 16 := by omega
          have a8 : til ≤ 16 := by omega
          have SF := Lib.hid (HJ.out.span.trans (SP.out.trans (S1.out.trans T1.out)))
          clear htl1 htl2 hzl hzz hMd2 hNl2 hNs2 hCs2 hZs s2 eNs hE T1 TA SD HY1 HZ1 YL1 YY1 NL1 NS1 MD1 CS1 YS1 BX1
          refine wp_region_inv [2, 96, 97, 98, 99, 100, 101, 102, 103, 104, 105, 106, 107, 108, 109, 110, 111, 112, 113, 114, 115, 116, 117, 118, 119, 120, 121, 122, 123, 124, 125, 126, 127, 128, 129, 130, 131, 132] (ValI [96, 97, 98, 99, 100, 101, 102, 103, 104, 105, 106, 107, 108, 109, 110, 111, 112, 113, 114, 115, 116, 117, 118, 119, 120, 121, 122, 123, 124, 125, 126, 127, 128, 129, 130, 131, 132, 2] [some (.bool true), some (.bool true), some (.bool true), some (.bool true), some (.bool true), some (.slice (some ⟨g, 0, none⟩) 16 16), some (.int .i64 16), some (.bool true), some (.bool true), some (.bool true), some (.slice (some ⟨g2, 0, none⟩) 16 16), some (.int .i64 16), some (.bool true), some (.bool true), some (.bool true), some (.agg #[.slice (some ⟨b, 0, none⟩) 5 5, .slice A1 8 q]), some (.agg #[.slice (some ⟨b2, 0, none⟩) 5 5, .slice A2 8 q2]), some (.bool true), some (.bool true), some (.bool true), some (.slice (some ⟨g, 0, none⟩) 16 16), some (.int .i64 (fr : Int)), some (.slice (some ⟨g, 0, none⟩) fr 16), some (.slice (some ⟨g2, 0, none⟩) 16 16), some (.int .i64 (fr : Int)), some (.slice (some ⟨g2, 0, none⟩) fr 16), some (.bool true), some (.bool true), some (.bool true), some (.slice (some ⟨g, 0, none⟩) 16 16), some (.int .i64 (til : Int)), some (.slice (some ⟨g, til, none⟩) E E), some (.slice (some ⟨g2, 0, none⟩) 16 16), some (.int .i64 (til : Int)), some (.slice (some ⟨g2, til, none⟩) E E), some (.bool true), some (.bool true), some (.bool true)] (fun w2 => Span 0 0 v1 w2) 99 (fun _ _ => True)) (by kernel_rfl) (by kernel_rfl) (by kernel_rfl) (ValI.start (Span.refl 0 0 v1).drew) ?hstepB ?hdoneB
          case hdoneB =>
            rintro L u w2 hL ⟨sp, hv, -⟩
            have SPX := Lib.hid sp
            have h2 := hv 37 2 _ rfl rfl (hL 37 (by decide))
            clear hv hL sp
            refine norm_arg (puts_cons (by (simp only [Act.put, List.setIfInBounds_toArray, List.set_cons_zero, List.set_cons_succ]); rfl) (puts_cons (by (simp only [Act.put, List.setIfInBounds_toArray, List.set_cons_zero, List.set_cons_succ]); rfl) (puts_cons (by (simp only [Act.put, List.setIfInBounds_toArray, List.set_cons_zero, List.set_cons_succ]); rfl) (puts_cons (by (simp only [Act.put, List.setIfInBounds_toArray, List.set_cons_zero, List.set_cons_succ]); rfl) (puts_cons (by (simp only [Act.put, List.setIfInBounds_toArray, List.set_cons_zero, List.set_cons_succ]); rfl) (puts_cons (by (simp only [Act.put, List.setIfInBounds_toArray, List.set_cons_zero, List.set_cons_succ]); rfl) (puts_cons (by (simp only [Act.put, List.setIfInBounds_toArray, List.set_cons_zero, List.set_cons_succ]); rfl) (puts_cons (by (simp only [Act.put, List.setIfInBounds_toArray, List.set_cons_zero, List.set_cons_succ]); rfl) (puts_cons (by (simp only [Act.put, List.setIfInBounds_toArray, List.set_cons_zero, List.set_cons_succ]); rfl) (puts_cons (by (simp only [Act.put, List.setIfInBounds_toArray, List.set_cons_zero, List.set_cons_succ]); rfl) (puts_cons (by (simp only [Act.put, List.setIfInBounds_toArray, List.set_cons_zero, List.set_cons_succ]); rfl) (puts_cons (by (simp only [Act.put, List.setIfInBounds_toArray, List.set_cons_zero, List.set_cons_succ]); rfl) (puts_cons (by (simp only [Act.put, List.setIfInBounds_toArray, List.set_cons_zero, List.set_cons_succ]); rfl) (puts_cons (by (simp only [Act.put, List.setIfInBounds_toArray, List.set_cons_zero, List.set_cons_succ]); rfl) (puts_cons (by (simp only [Act.put, List.setIfInBounds_toArray, List.set_cons_zero, List.set_cons_succ]); rfl) (puts_cons (by (simp only [Act.put, List.setIfInBounds_toArray, List.set_cons_zero, List.set_cons_succ]); rfl) (puts_cons (by (simp only [Act.put, List.setIfInBounds_toArray, List.set_cons_zero, List.set_cons_succ]); rfl) (puts_cons (by (simp only [Act.put, List.setIfInBounds_toArray, List.set_cons_zero, List.set_cons_succ]); rfl) (puts_cons (by (simp only [Act.put, List.setIfInBounds_toArray, List.set_cons_zero, List.set_cons_succ]); rfl) (puts_cons (by (simp only [Act.put, List.setIfInBounds_toArray, List.set_cons_zero, List.set_cons_succ]); rfl) (puts_cons (by (simp only [Act.put, List.setIfInBounds_toArray, List.set_cons_zero, List.set_cons_succ]); rfl) (puts_cons (by (simp only [Act.put, List.setIfInBounds_toArray, List.set_cons_zero, List.set_cons_succ]); rfl) (puts_cons (by (simp only [Act.put, List.setIfInBounds_toArray, List.set_cons_zero, List.set_cons_succ]); rfl) (puts_cons (by (simp only [Act.put, List.setIfInBounds_toArray, List.set_cons_zero, List.set_cons_succ]); rfl) (puts_cons (by (simp only [Act.put, List.setIfInBounds_toArray, List.set_cons_zero, List.set_cons_succ]); rfl) (puts_cons (by (simp only [Act.put, List.setIfInBounds_toArray, List.set_cons_zero, List.set_cons_succ]); rfl) (puts_cons (by (simp only [Act.put, List.setIfInBounds_toArray, List.set_cons_zero, List.set_cons_succ]); rfl) (puts_cons (by (simp only [Act.put, List.setIfInBounds_toArray, List.set_cons_zero, List.set_cons_succ]); rfl) (puts_cons (by (simp only [Act.put, List.setIfInBounds_toArray, List.set_cons_zero, List.set_cons_succ]); rfl) (puts_cons (by (simp only [Act.put, List.setIfInBounds_toArray, List.set_cons_zero, List.set_cons_succ]); rfl) (puts_cons (by (simp only [Act.put, List.setIfInBounds_toArray, List.set_cons_zero, List.set_cons_succ]); rfl) (puts_cons (by (simp only [Act.put, List.setIfInBounds_toArray, List.set_cons_zero, List.set_cons_succ]); rfl) (puts_cons (by (simp only [Act.put, List.setIfInBounds_toArray, List.set_cons_zero, List.set_cons_succ]); rfl) (puts_cons (by (simp only [Act.put, List.setIfInBounds_toArray, List.set_cons_zero, List.set_cons_succ]); rfl) (puts_cons (by (simp only [Act.put, List.setIfInBounds_toArray, List.set_cons_zero, List.set_cons_succ]); rfl) (puts_cons (by (simp only [Act.put, List.setIfInBounds_toArray, List.set_cons_zero, List.set_cons_succ]); rfl) (puts_cons (by (simp only [Act.put, List.setIfInBounds_toArray, List.set_cons_zero, List.set_cons_succ]); rfl) (puts_cons (by (simp only [Act.put, List.setIfInBounds_toArray, List.set_cons_zero, List.set_cons_succ]); rfl) (puts_nil _ _))))))))))))))))))))))))))))))))))))))) ?_
            rw [h2]
            clear h2
            go_wp2_with fail
            go_ret
            exact ⟨rfl, Below.of_spanL (SF.out.trans SPX.out)⟩
          case hstepB =>
            rintro i o L u w2 a' - ho hLi ha hI hag Q' K hK
            have HK := Lib.hid hK
            have HI := Lib.hid hI
            obtain ⟨sp, hv, -⟩ := hI
            have SPX := Lib.hid sp
            have HV := Lib.hid hv
            have HAG := Lib.hid hag
            have hi : i < 38 := (Array.getElem?_eq_some_iff.1 ho).1
            have hsn : Hid (List.Nodup [96, 97, 98, 99, 100, 101, 102, 103, 104, 105, 106, 107, 108, 109, 110, 111, 112, 113, 114, 115, 116, 117, 118, 119, 120, 121, 122, 123, 124, 125, 126, 127, 128, 129, 130, 131, 132, 2]) := (by decide : List.Nodup [96, 97, 98, 99, 100, 101, 102, 103, 104, 105, 106, 107, 108, 109, 110, 111, 112, 113, 114, 115, 116, 117, 118, 119, 120, 121, 122, 123, 124, 125, 126, 127, 128, 129, 130, 131, 132, 2])
            clear hK sp hv
            have t6 : a'.tmps[6]?.getD undef = .int .i64 (fr : Int) := (hag.off (s := 6) (of_decide_eq_true (by kernel_rfl)) (by decide)).trans rfl
            have t7 : a'.tmps[7]?.getD undef = .int .i64 (til : Int) := (hag.off (s := 7) (of_decide_eq_true (by kernel_rfl)) (by decide)).trans rfl
            have t9 : a'.tmps[9]?.getD undef = .pointer (some ⟨B1, 0, none⟩) := (hag.off (s := 9) (of_decide_eq_true (by kernel_rfl)) (by decide)).trans rfl
            have t10 : a'.tmps[10]?.getD undef = .slice (some ⟨g, 0, none⟩) 16 16 := (hag.off (s := 10) (of_decide_eq_true (by kernel_rfl)) (by decide)).trans rfl
            have t11 : a'.tmps[11]?.getD undef = .bool true := (hag.off (s := 11) (of_decide_eq_true (by kernel_rfl)) (by decide)).trans rfl
            have t12 : a'.tmps[12]?.getD undef = .pointer (some ⟨B2, 0, none⟩) := (hag.off (s := 12) (of_decide_eq_true (by kernel_rfl)) (by decide)).trans rfl
            have t13 : a'.tmps[13]?.getD undef = .slice (some ⟨g2, 0, none⟩) 16 16 := (hag.off (s := 13) (of_decide_eq_true (by kernel_rfl)) (by decide)).trans rfl
            have t14 : a'.tmps[14]?.getD undef = .bool true := (hag.off (s := 14) (of_decide_eq_true (by kernel_rfl)) (by decide)).trans rfl
            clear hag
            rcases (show i = 0 ∨ i = 1 ∨ i = 2 ∨ i = 3 ∨ i = 4 ∨ i = 5 ∨ i = 6 ∨ i = 7 ∨ i = 8 ∨ i = 9 ∨ i = 10 ∨ i = 11 ∨ i = 12 ∨ i = 13 ∨ i = 14 ∨ i = 15 ∨ i = 16 ∨ i = 17 ∨ i = 18 ∨ i = 19 ∨ i = 20 ∨ i = 21 ∨ i = 22 ∨ i = 23 ∨ i = 24 ∨ i = 25 ∨ i = 26 ∨ i = 27 ∨ i = 28 ∨ i = 29 ∨ i = 30 ∨ i = 31 ∨ i = 32 ∨ i = 33 ∨ i = 34 ∨ i = 35 ∨ i = 36 ∨ i = 37 by omega) with rfl | rfl | rfl | rfl | rfl | rfl | rfl | rfl | rfl | rfl | rfl | rfl | rfl | rfl | rfl | rfl | rfl | rfl | rfl | rfl | rfl | rfl | rfl | rfl | rfl | rfl | rfl | rfl | rfl | rfl | rfl | rfl | rfl | rfl | rfl | rfl | rfl | rfl
            all_goals
              simp only [List.getElem?_toArray, List.getElem?_cons_zero, List.getElem?_cons_succ, Option.some.injEq] at ho
              subst ho
              simp [Region.binds] at ha
            · clear ha
              go_simp
              exact HK.out _ _ (HI.out.val hsn.out 0 96 _ rfl rfl (by decide) SPX.out (fun _ h => h))
            · have f96 := (HAG.out.at_ (s := 96) (of_decide_eq_true (by kernel_rfl)) (by decide)).trans (HV.out 0 96 _ rfl rfl (by simp [ha]))
              clear ha
              go_simp
              exact HK.out _ _ (HI.out.val hsn.out 1 97 _ rfl rfl (by decide) SPX.out (fun _ h => h))
            · have g97 := (HAG.out.get (s := 97) (of_decide_eq_true (by kernel_rfl)) (by decide)).trans (congrArg some (HV.out 1 97 _ rfl rfl (by simp [ha])))
              clear ha
              go_simp
              exact HK.out _ _ (HI.out.val hsn.out 2 98 _ rfl rfl (by decide) SPX.out (fun _ h => h))
            · have f97 := (HAG.out.at_ (s := 97) (of_decide_eq_true (by kernel_rfl)) (by decide)).trans (HV.out 1 97 _ rfl rfl (by simp [ha]))
              have f98 := (HAG.out.at_ (s := 98) (of_decide_eq_true (by kernel_rfl)) (by decide)).trans (HV.out 2 98 _ rfl rfl (by simp [ha]))
              have g97 := (HAG.out.get (s := 97) (of_decide_eq_true (by kernel_rfl)) (by decide)).trans (congrArg some (HV.out 1 97 _ rfl rfl (by simp [ha])))
              clear ha
              go_simp
              exact HK.out _ _ (HI.out.val hsn.out 3 99 _ rfl rfl (by decide) SPX.out (fun _ h => h))
            · have f99 := (HAG.out.at_ (s := 99) (of_decide_eq_true (by kernel_rfl)) (by decide)).trans (HV.out 3 99 _ rfl rfl (by simp [ha]))
              clear ha
              go_simp
              exact HK.out _ _ (HI.out.val hsn.out 4 100 _ rfl rfl (by decide) SPX.out (fun _ h => h))
            · have g100 := (HAG.out.get (s := 100) (of_decide_eq_true (by kernel_rfl)) (by decide)).trans (congrArg some (HV.out 4 100 _ rfl rfl (by simp [ha])))
              clear ha
              go_simp
              exact HK.out _ _ (HI.out.val hsn.out 5 101 _ rfl rfl (by decide) SPX.out (fun _ h => h))
            · have f101 := (HAG.out.at_ (s := 101) (of_decide_eq_true (by kernel_rfl)) (by decide)).trans (HV.out 5 101 _ rfl rfl (by simp [ha]))
              have g100 := (HAG.out.get (s := 100) (of_decide_eq_true (by kernel_rfl)) (by decide)).trans (congrArg some (HV.out 4 100 _ rfl rfl (by simp [ha])))
              clear ha
              go_simp
              exact HK.out _ _ (HI.out.val hsn.out 6 102 _ rfl rfl (by decide) SPX.out (fun _ h => h))
            · have f102 := (HAG.out.at_ (s := 102) (of_decide_eq_true (by kernel_rfl)) (by decide)).trans (HV.out 6 102 _ rfl rfl (by simp [ha]))
              have g100 := (HAG.out.get (s := 100) (of_decide_eq_true (by kernel_rfl)) (by decide)).trans (congrArg some (HV.out 4 100 _ rfl rfl (by simp [ha])))
              clear ha
              go_simp
              exact HK.out _ _ (HI.out.val hsn.out 7 103 _ rfl rfl (by decide) SPX.out (fun _ h => h))
            · have f100 := (HAG.out.at_ (s := 100) (of_decide_eq_true (by kernel_rfl)) (by decide)).trans (HV.out 4 100 _ rfl rfl (by simp [ha]))
              have f103 := (HAG.out.at_ (s := 103) (of_decide_eq_true (by kernel_rfl)) (by decide)).trans (HV.out 7 103 _ rfl rfl (by simp [ha]))
              have g100 := (HAG.out.get (s := 100) (of_decide_eq_true (by kernel_rfl)) (by decide)).trans (congrArg some (HV.out 4 100 _ rfl rfl (by simp [ha])))
              clear ha
              go_simp
              exact HK.out _ _ (HI.out.val hsn.out 8 104 _ rfl rfl (by decide) SPX.out (fun _ h => h))
            · have f104 := (HAG.out.at_ (s := 104) (of_decide_eq_true (by kernel_rfl)) (by decide)).trans (HV.out 8 104 _ rfl rfl (by simp [ha]))
              clear ha
              go_simp
              exact HK.out _ _ (HI.out.val hsn.out 9 105 _ rfl rfl (by decide) SPX.out (fun _ h => h))
            · have g105 := (HAG.out.get (s := 105) (of_decide_eq_true (by kernel_rfl)) (by decide)).trans (congrArg some (HV.out 9 105 _ rfl rfl (by simp [ha])))
              clear ha
              go_simp
              exact HK.out _ _ (HI.out.val hsn.out 10 106 _ rfl rfl (by decide) SPX.out (fun _ h => h))
            · have f106 := (HAG.out.at_ (s := 106) (of_decide_eq_true (by kernel_rfl)) (by decide)).trans (HV.out 10 106 _ rfl rfl (by simp [ha]))
              have g105 := (HAG.out.get (s := 105) (of_decide_eq_true (by kernel_rfl)) (by decide)).trans (congrArg some (HV.out 9 105 _ rfl rfl (by simp [ha])))
              clear ha
              go_simp
              exact HK.out _ _ (HI.out.val hsn.out 11 107 _ rfl rfl (by decide) SPX.out (fun _ h => h))
            · have f107 := (HAG.out.at_ (s := 107) (of_decide_eq_true (by kernel_rfl)) (by decide)).trans (HV.out 11 107 _ rfl rfl (by simp [ha]))
              have g105 := (HAG.out.get (s := 105) (of_decide_eq_true (by kernel_rfl)) (by decide)).trans (congrArg some (HV.out 9 105 _ rfl rfl (by simp [ha])))
              clear ha
              go_simp
              exact HK.out _ _ (HI.out.val hsn.out 12 108 _ rfl rfl (by decide) SPX.out (fun _ h => h))
            · have f105 := (HAG.out.at_ (s := 105) (of_decide_eq_true (by kernel_rfl)) (by decide)).trans (HV.out 9 105 _ rfl rfl (by simp [ha]))
              have f108 := (HAG.out.at_ (s := 108) (of_decide_eq_true (by kernel_rfl)) (by decide)).trans (HV.out 12 108 _ rfl rfl (by simp [ha]))
              have g105 := (HAG.out.get (s := 105) (of_decide_eq_true (by kernel_rfl)) (by decide)).trans (congrArg some (HV.out 9 105 _ rfl rfl (by simp [ha])))
              clear ha
              go_simp
              exact HK.out _ _ (HI.out.val hsn.out 13 109 _ rfl rfl (by decide) SPX.out (fun _ h => h))
            · have f109 := (HAG.out.at_ (s := 109) (of_decide_eq_true (by kernel_rfl)) (by decide)).trans (HV.out 13 109 _ rfl rfl (by simp [ha]))
              clear ha
              go_simp
              exact HK.out _ _ (HI.out.val hsn.out 14 110 _ rfl rfl (by decide) SPX.out (fun _ h => h))
            · have g110 := (HAG.out.get (s := 110) (of_decide_eq_true (by kernel_rfl)) (by decide)).trans (congrArg some (HV.out 14 110 _ rfl rfl (by simp [ha])))
              have y := (BY1.out.keep SPX.out).cells
              clear ha
              go_simp
              exact HK.out _ _ (HI.out.val hsn.out 15 111 _ rfl rfl (by decide) SPX.out (fun _ h => h))
            · have g110 := (HAG.out.get (s := 110) (of_decide_eq_true (by kernel_rfl)) (by decide)).trans (congrArg some (HV.out 14 110 _ rfl rfl (by simp [ha])))
              have y := (BX2.out.keep SPX.out).cells
              clear ha
              go_simp
              exact HK.out _ _ (HI.out.val hsn.out 16 112 _ rfl rfl (by decide) SPX.out (fun _ h => h))
            · have f111 := (HAG.out.at_ (s := 111) (of_decide_eq_true (by kernel_rfl)) (by decide)).trans (HV.out 15 111 _ rfl rfl (by simp [ha]))
              have f112 := (HAG.out.at_ (s := 112) (of_decide_eq_true (by kernel_rfl)) (by decide)).trans (HV.out 16 112 _ rfl rfl (by simp [ha]))
              have g110 := (HAG.out.get (s := 110) (of_decide_eq_true (by kernel_rfl)) (by decide)).trans (congrArg some (HV.out 14 110 _ rfl rfl (by simp [ha])))
              clear ha
              go_simp
              refine (E3.out _ SPX.out).mono ?_
              rintro _ w3 ⟨rfl, s3⟩
              have h := HK.out (.bool true) _ (HI.out.val hsn.out 17 113 _ rfl rfl (by decide) (SPX.out.trans s3) (fun _ h => h))
              clear HK HI HV HAG
              go_wp2_with fail
              exact h
            · have f110 := (HAG.out.at_ (s := 110) (of_decide_eq_true (by kernel_rfl)) (by decide)).trans (HV.out 14 110 _ rfl rfl (by simp [ha]))
              have f113 := (HAG.out.at_ (s := 113) (of_decide_eq_true (by kernel_rfl)) (by decide)).trans (HV.out 17 113 _ rfl rfl (by simp [ha]))
              have g110 := (HAG.out.get (s := 110) (of_decide_eq_true (by kernel_rfl)) (by decide)).trans (congrArg some (HV.out 14 110 _ rfl rfl (by simp [ha])))
              clear ha
              go_simp
              exact HK.out _ _ (HI.out.val hsn.out 18 114 _ rfl rfl (by decide) SPX.out (fun _ h => h))
            · have f114 := (HAG.out.at_ (s := 114) (of_decide_eq_true (by kernel_rfl)) (by decide)).trans (HV.out 18 114 _ rfl rfl (by simp [ha]))
              clear ha
              go_simp
              exact HK.out _ _ (HI.out.val hsn.out 19 115 _ rfl rfl (by decide) SPX.out (fun _ h => h))
            · have g115 := (HAG.out.get (s := 115) (of_decide_eq_true (by kernel_rfl)) (by decide)).trans (congrArg some (HV.out 19 115 _ rfl rfl (by simp [ha])))
              clear ha
              go_simp
              exact HK.out _ _ (HI.out.val hsn.out 20 116 _ rfl rfl (by decide) SPX.out (fun _ h => h))
            · have g115 := (HAG.out.get (s := 115) (of_decide_eq_true (by kernel_rfl)) (by decide)).trans (congrArg some (HV.out 19 115 _ rfl rfl (by simp [ha])))
              clear ha
              go_simp
              exact HK.out _ _ (HI.out.val hsn.out 21 117 _ rfl rfl (by decide) SPX.out (fun _ h => h))
            · have f116 := (HAG.out.at_ (s := 116) (of_decide_eq_true (by kernel_rfl)) (by decide)).trans (HV.out 20 116 _ rfl rfl (by simp [ha]))
              have f117 := (HAG.out.at_ (s := 117) (of_decide_eq_true (by kernel_rfl)) (by decide)).trans (HV.out 21 117 _ rfl rfl (by simp [ha]))
              have g115 := (HAG.out.get (s := 115) (of_decide_eq_true (by kernel_rfl)) (by decide)).trans (congrArg some (HV.out 19 115 _ rfl rfl (by simp [ha])))
              clear ha
              go_simp
              exact HK.out _ _ (HI.out.val hsn.out 22 118 _ rfl rfl (by decide) SPX.out (fun _ h => h))
            · have g115 := (HAG.out.get (s := 115) (of_decide_eq_true (by kernel_rfl)) (by decide)).trans (congrArg some (HV.out 19 115 _ rfl rfl (by simp [ha])))
              clear ha
              go_simp
              exact HK.out _ _ (HI.out.val hsn.out 23 119 _ rfl rfl (by decide) SPX.out (fun _ h => h))
            · have g115 := (HAG.out.get (s := 115) (of_decide_eq_true (by kernel_rfl)) (by decide)).trans (congrArg some (HV.out 19 115 _ rfl rfl (by simp [ha])))
              clear ha
              go_simp
              exact HK.out _ _ (HI.out.val hsn.out 24 120 _ rfl rfl (by decide) SPX.out (fun _ h => h))
            · have f119 := (HAG.out.at_ (s := 119) (of_decide_eq_true (by kernel_rfl)) (by decide)).trans (HV.out 23 119 _ rfl rfl (by simp [ha]))
              have f120 := (HAG.out.at_ (s := 120) (of_decide_eq_true (by kernel_rfl)) (by decide)).trans (HV.out 24 120 _ rfl rfl (by simp [ha]))
              have g115 := (HAG.out.get (s := 115) (of_decide_eq_true (by kernel_rfl)) (by decide)).trans (congrArg some (HV.out 19 115 _ rfl rfl (by simp [ha])))
              clear ha
              go_simp
              exact HK.out _ _ (HI.out.val hsn.out 25 121 _ rfl rfl (by decide) SPX.out (fun _ h => h))
            · have f118 := (HAG.out.at_ (s := 118) (of_decide_eq_true (by kernel_rfl)) (by decide)).trans (HV.out 22 118 _ rfl rfl (by simp [ha]))
              have f121 := (HAG.out.at_ (s := 121) (of_decide_eq_true (by kernel_rfl)) (by decide)).trans (HV.out 25 121 _ rfl rfl (by simp [ha]))
              have g115 := (HAG.out.get (s := 115) (of_decide_eq_true (by kernel_rfl)) (by decide)).trans (congrArg some (HV.out 19 115 _ rfl rfl (by simp [ha])))
              clear ha
              go_simp
              refine (E1.out _ SPX.out).mono ?_
              rintro _ _ ⟨m1, rfl, rfl⟩
              have h := HK.out (.bool true) _ (HI.out.val hsn.out 26 122 _ rfl rfl (by decide) (SPX.out.drewN m1) (fun _ h => h))
              clear HK HI HV HAG
              go_wp2_with fail
              exact h
            · have f115 := (HAG.out.at_ (s := 115) (of_decide_eq_true (by kernel_rfl)) (by decide)).trans (HV.out 19 115 _ rfl rfl (by simp [ha]))
              have f122 := (HAG.out.at_ (s := 122) (of_decide_eq_true (by kernel_rfl)) (by decide)).trans (HV.out 26 122 _ rfl rfl (by simp [ha]))
              have g115 := (HAG.out.get (s := 115) (of_decide_eq_true (by kernel_rfl)) (by decide)).trans (congrArg some (HV.out 19 115 _ rfl rfl (by simp [ha])))
              clear ha
              go_simp
              exact HK.out _ _ (HI.out.val hsn.out 27 123 _ rfl rfl (by decide) SPX.out (fun _ h => h))
            · have f123 := (HAG.out.at_ (s := 123) (of_decide_eq_true (by kernel_rfl)) (by decide)).trans (HV.out 27 123 _ rfl rfl (by simp [ha]))
              clear ha
              go_simp
              exact HK.out _ _ (HI.out.val hsn.out 28 124 _ rfl rfl (by decide) SPX.out (fun _ h => h))
            · have g124 := (HAG.out.get (s := 124) (of_decide_eq_true (by kernel_rfl)) (by decide)).trans (congrArg some (HV.out 28 124 _ rfl rfl (by simp [ha])))
              clear ha
              go_simp
              exact HK.out _ _ (HI.out.val hsn.out 29 125 _ rfl rfl (by decide) SPX.out (fun _ h => h))
            · have g124 := (HAG.out.get (s := 124) (of_decide_eq_true (by kernel_rfl)) (by decide)).trans (congrArg some (HV.out 28 124 _ rfl rfl (by simp [ha])))
              clear ha
              go_simp
              exact HK.out _ _ (HI.out.val hsn.out 30 126 _ rfl rfl (by decide) SPX.out (fun _ h => h))
            · have f125 := (HAG.out.at_ (s := 125) (of_decide_eq_true (by kernel_rfl)) (by decide)).trans (HV.out 29 125 _ rfl rfl (by simp [ha]))
              have f126 := (HAG.out.at_ (s := 126) (of_decide_eq_true (by kernel_rfl)) (by decide)).trans (HV.out 30 126 _ rfl rfl (by simp [ha]))
              have g124 := (HAG.out.get (s := 124) (of_decide_eq_true (by kernel_rfl)) (by decide)).trans (congrArg some (HV.out 28 124 _ rfl rfl (by simp [ha])))
              clear ha
              go_simp
              exact HK.out _ _ (HI.out.val hsn.out 31 127 _ rfl rfl (by decide) SPX.out (fun _ h => h))
            · have g124 := (HAG.out.get (s := 124) (of_decide_eq_true (by kernel_rfl)) (by decide)).trans (congrArg some (HV.out 28 124 _ rfl rfl (by simp [ha])))
              clear ha
              go_simp
              exact HK.out _ _ (HI.out.val hsn.out 32 128 _ rfl rfl (by decide) SPX.out (fun _ h => h))
            · have g124 := (HAG.out.get (s := 124) (of_decide_eq_true (by kernel_rfl)) (by decide)).trans (congrArg some (HV.out 28 124 _ rfl rfl (by simp [ha])))
              clear ha
              go_simp
              exact HK.out _ _ (HI.out.val hsn.out 33 129 _ rfl rfl (by decide) SPX.out (fun _ h => h))
            · have f128 := (HAG.out.at_ (s := 128) (of_decide_eq_true (by kernel_rfl)) (by decide)).trans (HV.out 32 128 _ rfl rfl (by simp [ha]))
              have f129 := (HAG.out.at_ (s := 129) (of_decide_eq_true (by kernel_rfl)) (by decide)).trans (HV.out 33 129 _ rfl rfl (by simp [ha]))
              have g124 := (HAG.out.get (s := 124) (of_decide_eq_true (by kernel_rfl)) (by decide)).trans (congrArg some (HV.out 28 124 _ rfl rfl (by simp [ha])))
              clear ha
              go_simp
              exact HK.out _ _ (HI.out.val hsn.out 34 130 _ rfl rfl (by decide) SPX.out (fun _ h => h))
            · have f127 := (HAG.out.at_ (s := 127) (of_decide_eq_true (by kernel_rfl)) (by decide)).trans (HV.out 31 127 _ rfl rfl (by simp [ha]))
              have f130 := (HAG.out.at_ (s := 130) (of_decide_eq_true (by kernel_rfl)) (by decide)).trans (HV.out 34 130 _ rfl rfl (by simp [ha]))
              have g124 := (HAG.out.get (s := 124) (of_decide_eq_true (by kernel_rfl)) (by decide)).trans (congrArg some (HV.out 28 124 _ rfl rfl (by simp [ha])))
              clear ha
              go_simp
              refine (E2.out _ SPX.out).mono ?_
              rintro _ _ ⟨m1, rfl, rfl⟩
              have h := HK.out (.bool true) _ (HI.out.val hsn.out 35 131 _ rfl rfl (by decide) (SPX.out.drewN m1) (fun _ h => h))
              clear HK HI HV HAG
              go_wp2_with fail
              exact h
            · have f124 := (HAG.out.at_ (s := 124) (of_decide_eq_true (by kernel_rfl)) (by decide)).trans (HV.out 28 124 _ rfl rfl (by simp [ha]))
              have f131 := (HAG.out.at_ (s := 131) (of_decide_eq_true (by kernel_rfl)) (by decide)).trans (HV.out 35 131 _ rfl rfl (by simp [ha]))
              have g124 := (HAG.out.get (s := 124) (of_decide_eq_true (by kernel_rfl)) (by decide)).trans (congrArg some (HV.out 28 124 _ rfl rfl (by simp [ha])))
              clear ha
              go_simp
              exact HK.out _ _ (HI.out.val hsn.out 36 132 _ rfl rfl (by decide) SPX.out (fun _ h => h))
            · have f132 := (HAG.out.at_ (s := 132) (of_decide_eq_true (by kernel_rfl)) (by decide)).trans (HV.out 36 132 _ rfl rfl (by simp [ha]))
              clear ha
              go_simp
              exact HK.out _ _ (HI.out.val hsn.out 37 2 _ rfl rfl (by decide) SPX.out (fun _ h => h))
          --H16B
        case hstep =>
          rintro i o L u w' a' hcl ho hLi ha hI hag Q' K hK
          have hi : i < 22 := (Array.getElem?_eq_some_iff.1 ho).1
          have cl : ∀ (j j' : Nat) (oj : Oper) (g : Ground), (_ : Array Oper)[j]? = some oj → L j = true → (⟨j', g⟩ : Edge) ∈ oj.after → Region.binds .any ⟨j', g⟩ = true → L j' = true := fun j j' oj g h1 h2 h3 h4 => by
            rcases hcl j oj h1 h2 _ h3 with h | h
            · exact h
            · rw [h4] at h; cases h
          have d13 : Hid (L 13 = true → L 12 = true) := fun h => cl 13 12 _ .data rfl h (by simp) rfl
          have d14 : Hid (L 14 = true → L 13 = true) := fun h => cl 14 13 _ .data rfl h (by simp) rfl
          have d15 : Hid (L 15 = true → L 14 = true) := fun h => cl 15 14 _ .data rfl h (by simp) rfl
          have d16 : Hid (L 16 = true → L 14 = true) := fun h => cl 16 14 _ .data rfl h (by simp) rfl
          have d17 : Hid (L 17 = true → L 14 = true) := fun h => cl 17 14 _ .data rfl h (by simp) rfl
          have d19 : Hid (L 19 = true → L 13 = true ∧ L 18 = true) := fun h => ⟨cl 19 13 _ .phase rfl h (by simp) rfl, cl 19 18 _ .data rfl h (by simp) rfl⟩
          have d20 : Hid (L 20 = true → L 13 = true) := fun h => cl 20 13 _ .phase rfl h (by simp) rfl
          have d21 : Hid (L 21 = true → L 13 = true) := fun h => cl 21 13 _ .phase rfl h (by simp) rfl
          clear hcl cl
          have HK2 := Lib.hid hK
          have HI := Lib.hid hI
          have HAG := Lib.hid hag
          have HLI := Lib.hid hLi
          clear hK hI
          have t0 : a'.tmps[0]?.getD undef = .slice A n c := (hag.off (s := 0) (of_decide_eq_true (by kernel_rfl)) (by decide)).trans rfl
          have t3 : a'.tmps[3]?.getD undef = .pointer (some ⟨RB, 0, none⟩) := (hag.off (s := 3) (of_decide_eq_true (by kernel_rfl)) (by decide)).trans rfl
          have t6 : a'.tmps[6]?.getD undef = .int .i64 (fr : Int) := (hag.off (s := 6) (of_decide_eq_true (by kernel_rfl)) (by decide)).trans rfl
          have t7 : a'.tmps[7]?.getD undef = .int .i64 (til : Int) := (hag.off (s := 7) (of_decide_eq_true (by kernel_rfl)) (by decide)).trans rfl
          have t8 : a'.tmps[8]?.getD undef = .pointer (some ⟨PB, 0, none⟩) := (hag.off (s := 8) (of_decide_eq_true (by kernel_rfl)) (by decide)).trans rfl
          clear hag
          rcases (show i = 0 ∨ i = 1 ∨ i = 2 ∨ i = 3 ∨ i = 4 ∨ i = 5 ∨ i = 6 ∨ i = 7 ∨ i = 8 ∨ i = 9 ∨ i = 10 ∨ i = 11 ∨ i = 12 ∨ i = 13 ∨ i = 14 ∨ i = 15 ∨ i = 16 ∨ i = 17 ∨ i = 18 ∨ i = 19 ∨ i = 20 ∨ i = 21 by omega) with rfl | rfl | rfl | rfl | rfl | rfl | rfl | rfl | rfl | rfl | rfl | rfl | rfl | rfl | rfl | rfl | rfl | rfl | rfl | rfl | rfl | rfl
          all_goals
            simp only [List.getElem?_toArray, List.getElem?_cons_zero, List.getElem?_cons_succ, Option.some.injEq] at ho
            subst ho
            simp [Region.binds] at ha
          · have y := (BR0.out.keep HI.out.sp).cells
            clear ha
            go_simp
            exact HK2.out _ _ (HI.out.val 0 _ (by decide) rfl)
          · have y := (BP.out.keep HI.out.sp).cells
            clear ha
            go_simp
            exact HK2.out _ _ (HI.out.val 1 _ (by decide) rfl)
          · clear ha
            go_simp
            exact HK2.out _ _ (HI.out.val 2 _ (by decide) rfl)
          · have f74 := (HAG.out.at_ (s := 74) (of_decide_eq_true (by kernel_rfl)) (by decide)).trans (HI.out.kn 2 _ (by decide) rfl (by simp [ha]))
            clear ha
            go_simp
            refine (CAT3.out _ HI.out.sp).mono ?_
            rintro _ _ ⟨rfl, rfl⟩
            have h := HK2.out (.int .i64 v3) _ (HI.out.val 3 _ (by decide) rfl)
            clear HK2 HI HAG
            go_wp2_with fail
            exact h
          · have f75 := (HAG.out.at_ (s := 75) (of_decide_eq_true (by kernel_rfl)) (by decide)).trans (HI.out.kn 3 _ (by decide) rfl (by simp [ha]))
            clear ha
            go_simp
            exact HK2.out _ _ (HI.out.val 4 _ (by decide) rfl)
          · have f76 := (HAG.out.at_ (s := 76) (of_decide_eq_true (by kernel_rfl)) (by decide)).trans (HI.out.kn 4 _ (by decide) rfl (by simp [ha]))
            clear ha
            go_simp
            exact HK2.out _ _ (HI.out.val 5 _ (by decide) rfl)
          · clear ha
            go_simp
            exact HK2.out _ _ (HI.out.val 6 _ (by decide) rfl)
          · have f78 := (HAG.out.at_ (s := 78) (of_decide_eq_true (by kernel_rfl)) (by decide)).trans (HI.out.kn 6 _ (by decide) rfl (by simp [ha]))
            clear ha
            go_simp
            refine (CAT4.out _ HI.out.sp).mono ?_
            rintro _ _ ⟨rfl, rfl⟩
            have h := HK2.out (.int .i64 v4) _ (HI.out.val 7 _ (by decide) rfl)
            clear HK2 HI HAG
            go_wp2_with fail
            exact h
          · have f79 := (HAG.out.at_ (s := 79) (of_decide_eq_true (by kernel_rfl)) (by decide)).trans (HI.out.kn 7 _ (by decide) rfl (by simp [ha]))
            clear ha
            go_simp
            exact HK2.out _ _ (HI.out.val 8 _ (by decide) rfl)
          · clear ha
            go_simp
            exact HK2.out _ _ (HI.out.val 9 _ (by decide) rfl)
          · clear ha
            go_simp
            exact HK2.out _ _ (HI.out.val 10 _ (by decide) rfl)
          · have f77 := (HAG.out.at_ (s := 77) (of_decide_eq_true (by kernel_rfl)) (by decide)).trans (HI.out.kn 5 _ (by decide) rfl (by simp [ha]))
            have f80 := (HAG.out.at_ (s := 80) (of_decide_eq_true (by kernel_rfl)) (by decide)).trans (HI.out.kn 8 _ (by decide) rfl (by simp [ha]))
            have f81 := (HAG.out.at_ (s := 81) (of_decide_eq_true (by kernel_rfl)) (by decide)).trans (HI.out.kn 9 _ (by decide) rfl (by simp [ha]))
            have f82 := (HAG.out.at_ (s := 82) (of_decide_eq_true (by kernel_rfl)) (by decide)).trans (HI.out.kn 10 _ (by decide) rfl (by simp [ha]))
            clear ha
            go_simp
            exact HK2.out _ _ (HI.out.val 11 _ (by decide) rfl)
          · have e83 : a'.eval (.tmp 83) = .agg #[.int .i64 (kd : Int), .int .i64 (md : Int), .int .i64 (fr : Int), .int .i64 (til : Int)] := (Array.getD_eq_getD_getElem? ..).trans ((HAG.out.at_ (s := 83) (of_decide_eq_true (by kernel_rfl)) (by decide)).trans (HI.out.kn 11 _ (by decide) rfl (by simp [ha])))
            refine if_wanted rfl ?_
            refine wp_buildSlice1 (x := .tmp 83) rfl _ e83 (ftC (⟨kd, md, fr, til⟩ : Ft)) Tryz.underlying49 info_ft (by decide) (by decide) rfl rfl ?_
            exact HK2.out _ _ (HI.out.row12 hPk.out (by cases h : L 13 with | false => rfl | true => have h2 := d13.out h; rw [HLI.out] at h2; cases h2) _)
          · have c13 : Hid (∀ j ∈ [14, 15, 16, 17, 19, 20, 21], L j = false) := fun j hj => by
              cases h : L j with
              | false => rfl
              | true =>
                have h2 : L 13 = true := by
                  simp only [List.mem_cons, List.not_mem_nil, or_false] at hj
                  rcases hj with rfl | rfl | rfl | rfl | rfl | rfl | rfl
                  · exact d14.out h
                  · exact d14.out (d15.out h)
                  · exact d14.out (d16.out h)
                  · exact d14.out (d17.out h)
                  · exact (d19.out h).1
                  · exact d20.out h
                  · exact d21.out h
                rw [HLI.out] at h2; cases h2
            obtain ⟨G, g1, g2⟩ := HI.out.row (by simp [ha]) HLI.out
            have G2 := Lib.hid g2
            have f72 := (HAG.out.at_ (s := 72) (of_decide_eq_true (by kernel_rfl)) (by decide)).trans (HI.out.kn 0 _ (by decide) rfl (by simp [ha]))
            have f73 := (HAG.out.at_ (s := 73) (of_decide_eq_true (by kernel_rfl)) (by decide)).trans (HI.out.kn 1 _ (by decide) rfl (by simp [ha]))
            have f84 := (HAG.out.at_ (s := 84) (of_decide_eq_true (by kernel_rfl)) (by decide)).trans g1
            clear ha g2
            go_simp
            refine (R1.out _ HI.out.sp G G2.out).mono ?_
            rintro _ w2 ⟨b, g, bC, Ns, A1, q, ys, rfl, hyl, hyy, _, _, hMd, hNl, hNs, hCs, hYs, s⟩
            have h := HK2.out (.tuple #[.agg #[.slice (some ⟨b, 0, none⟩) 5 5, .slice A1 8 q], .slice (some ⟨g, 0, none⟩) 16 16, .bool true]) _ (HI.out.call13 hPk.out c13.out s _ ⟨b, g, bC, Ns, A1, q, ys, rfl, hMd, hNl, hNs, hCs.weak (Nat.zero_le _) (.inl (Nat.le_refl _)), hYs, hyl, hyy⟩)
            clear HK2 HI HAG hyl hyy hMd hNl hNs hCs hYs s
            go_wp2_with fail
            exact h
          · obtain ⟨b, g, bC, Ns, A1, q, ys, hT, -⟩ := HI.out.res (by simp [ha])
            have f85 := (HAG.out.at_ (s := 85) (of_decide_eq_true (by kernel_rfl)) (by decide)).trans hT
            have hp := HI.out.part (14, 71, fun T => T) (by simp [ptH])
            simp only at hp
            have HP := Lib.hid hp
            clear hp ha
            go_simp
            have hp := HP.out
            rw [hT] at hp
            exact HK2.out _ _ hp
          · have h14 : L 14 = true := by simp [ha]
            obtain ⟨b, g, bC, Ns, A1, q, ys, hT, -⟩ := HI.out.res (d14.out h14)
            have f71 := (HAG.out.at_ (s := 71) (of_decide_eq_true (by kernel_rfl)) (by decide)).trans ((HI.out.pt (14, 71, fun T => T) (by simp [ptH]) h14).trans hT)
            have hp := HI.out.part (15, 86, fun T => partH T 0) (by simp [ptH])
            simp only at hp
            have HP := Lib.hid hp
            clear hp ha h14
            go_simp
            have hp := HP.out
            rw [hT] at hp
            exact HK2.out _ _ hp
          · have h14 : L 14 = true := by simp [ha]
            obtain ⟨b, g, bC, Ns, A1, q, ys, hT, -⟩ := HI.out.res (d14.out h14)
            have f71 := (HAG.out.at_ (s := 71) (of_decide_eq_true (by kernel_rfl)) (by decide)).trans ((HI.out.pt (14, 71, fun T => T) (by simp [ptH]) h14).trans hT)
            have hp := HI.out.part (16, 87, fun T => partH T 1) (by simp [ptH])
            simp only at hp
            have HP := Lib.hid hp
            clear hp ha h14
            go_simp
            have hp := HP.out
            rw [hT] at hp
            exact HK2.out _ _ hp
          · have h14 : L 14 = true := by simp [ha]
            obtain ⟨b, g, bC, Ns, A1, q, ys, hT, -⟩ := HI.out.res (d14.out h14)
            have f71 := (HAG.out.at_ (s := 71) (of_decide_eq_true (by kernel_rfl)) (by decide)).trans ((HI.out.pt (14, 71, fun T => T) (by simp [ptH]) h14).trans hT)
            have hp := HI.out.part (17, 88, fun T => partH T 2) (by simp [ptH])
            simp only at hp
            have HP := Lib.hid hp
            clear hp ha h14
            go_simp
            have hp := HP.out
            rw [hT] at hp
            exact HK2.out _ _ hp
          · have HP := Lib.hid (HI.out.alloc18 hPk.out (by cases h : L 19 with | false => rfl | true => have h2 := (d19.out h).2; rw [HLI.out] at h2; cases h2) 37)
            clear ha
            go_simp
            exact HK2.out _ _ HP.out
          · have h18 : L 18 = true := by simp [ha]
            have h15 : L 15 = true := by simp [ha]
            have h13 : L 13 = true := d14.out (d15.out h15)
            obtain ⟨b, g, bC, Ns, A1, q, ys, hT, -⟩ := HI.out.res h13
            obtain ⟨B1, h9, hbx, -⟩ := HI.out.box h18 HLI.out
            have h86 : u 86 = .agg #[.slice (some ⟨b, 0, none⟩) 5 5, .slice A1 8 q] := (HI.out.pt (15, 86, fun T => partH T 0) (by simp [ptH]) h15).trans (by rw [hT]; rfl)
            have f9 := (HAG.out.at_ (s := 9) (of_decide_eq_true (by kernel_rfl)) (by decide)).trans h9
            have f86 := (HAG.out.at_ (s := 86) (of_decide_eq_true (by kernel_rfl)) (by decide)).trans h86
            have y := hbx.cells
            have z := hbx.thaw
            have HP := Lib.hid (HI.out.store h18 h13 HLI.out (c0 := .slice (some ⟨b, 0, none⟩) 5 5) (c1 := .slice A1 8 q) h9 (by rw [hT]; rfl) undef (fun B hB w2 s => (HI.out.res h13).store HCS.out B hB s))
            clear ha h18 h15 h13 hbx
            go_simp
            exact HK2.out undef _ HP.out
          · have f87 := (HAG.out.at_ (s := 87) (of_decide_eq_true (by kernel_rfl)) (by decide)).trans (HI.out.pt (16, 87, fun T => partH T 1) (by simp [ptH]) (by simp [ha]))
            have HP := Lib.hid (HI.out.part (20, 10, fun T => partH T 1) (by simp [ptH]))
            clear ha
            go_simp
            exact HK2.out _ _ HP.out
          · have f88 := (HAG.out.at_ (s := 88) (of_decide_eq_true (by kernel_rfl)) (by decide)).trans (HI.out.pt (17, 88, fun T => partH T 2) (by simp [ptH]) (by simp [ha]))
            have HP := Lib.hid (HI.out.part (21, 11, fun T => partH T 2) (by simp [ptH]))
            clear ha
            go_simp
            exact HK2.out _ _ HP.out
        --R15B
        --H2B
  · have hn' : (1048576 : Int) < (n : Int) := by omega
    go_enter Tryz.func3, Tryz.ntmps3
    go_wp2_with fail
    go_ret
    exact ⟨rfl, Below.refl _ _⟩
end Go.Proofs.YtkjlodoppmipfaaGreat
