/- The law FnSuperposed. -/
import Derived.Test.YtpiiflhdllpoiaaJq49
import Derived.Test.YtpiiflhdllpoiaaJq50
import Derived.Test.YtpiiflhdllpoiaaJq10
import Derived.Test.YtpiiflhdllpoiaaJq51
import Derived.Test.YtpiiflhdllpoiaaJq43
import Derived.Test.YtpiiflhdllpoiaaJq3
import Derived.Deep.DeepCutAuto
import Derived.BigQuiet
import Derived.Deep.MidRow
import Derived.Outline
namespace Go.Proofs.Ytpiiflhdllpoiaa
open Go.RowKit

theorem Below.of_span1 {w w' : World} (h : Span 0 0 w w') : Below w.heap.size w w' := ⟨h.os, h.tape, h.output, h.size, fun k hk => h.block k hk (by omega)⟩
def SuM (wr : World) (MB : Nat) (wx : World) : Prop :=
  ∃ (d : Nat) (x : Mw), d ≤ 3 ∧ ((d = 0 ∧ x = mSum) ∨ (0 < d ∧ ∃ A p, x = mDl d A p)) ∧ Bx MB x.l.toArray wx ∧ (0 < d → ∃ bs, HasS cxV true bs wr.heap.size wx.heap.size wx (.slice x.S x.sn x.sp) (List.replicate d (0, 0))) ∧ Span 0 0 wr wx

theorem su_there {b : Nat} {us : Array Value} {w : World} (h : Bx b us w) : w.there b 0 us.size := fun j hj => by
  rw [Nat.zero_add]
  exact ⟨by rw [h.2.1 j]; simp [hj], h.2.2 j⟩

set_option maxRecDepth 100000 in
set_option maxHeartbeats 8000000 in
theorem law_superposed (A : Option Addr) (n c : Nat) (w : World) (h : HasBy w.heap.size w A n) : Calls Try.prog 5 #[.slice A n c] w (Says w) := by
  by_cases hn : n ≤ 1048576
  · have HN := Lib.hid hn
    have HBy := Lib.hid h
    have hn' : (n : Int) ≤ 1048576 := by omega
    obtain ⟨im, him, hzm, hsm, hbm⟩ := info_parts info_mod
    clear h hn
    go_enter Try.func5, Try.ntmps5
    go_wp2_with fail
    have SZ := Lib.hid (SuJ.zero w 43)
    obtain ⟨RB, hRB⟩ : ∃ t, t = w.heap.size := ⟨_, rfl⟩
    rw [← hRB] at SZ ⊢
    have HRB := Lib.hid hRB
    clear hRB
    generalize w.alloc (.cells #[.slice none 0 0, .slice none 0 0] 43) = w1 at *
    go_loopw [4] (fun q wr => ∃ (k : Nat) (ds fa : Nat → Nat) (vM vC : Value) (Ms : List Mw), k ≤ 6 ∧ q = .int .i64 k ∧ SuJ ds fa vM vC Ms RB w k k wr) (fun q _ => 6 - (intOf q).toNat)
    case atStart => exact ⟨0, _, _, _, _, _, by decide, rfl, SZ.out⟩
    case round =>
      clear SZ
      obtain ⟨k, ds, fa, vM, vC, Ms, hk, rfl, hJ⟩ := hrel
      by_cases hlt : k < 6
      · have HJ := Lib.hid hJ
        have HB2 := Lib.hid (fun (w' : World) (s : Span 0 0 wr w') => HBy.out.below (Below.of_span1 (hJ.span.trans s)))
        have HK := Lib.hid hlt
        have j1 : (0 : Int) ≤ (k : Int) := by omega
        have j2 : (k : Int) < 6 := by omega
        clear hJ hk hlt
        go_wp2_with fail
        refine (newSumK_is _).mono ?_
        rintro _ w2 ⟨rfl, s2⟩
        have S2 := Lib.hid s2
        have BM := Lib.hid (Bx.new w2 mSum.l.toArray 33)
        have SB := Lib.hid (s2.alloc (.cells mSum.l.toArray 33))
        obtain ⟨MB, hMB⟩ : ∃ t, t = w2.heap.size := ⟨_, rfl⟩
        have HMB : Hid (wr.heap.size ≤ MB) := by unfold Hid; rw [hMB]; exact s2.size
        rw [← hMB] at BM
        clear s2
        go_wp2_with fail
        try rw [← hMB]
        clear hMB
        change Calls Try.prog _ _ (w2.alloc (.cells mSum.l.toArray 33)) _
        generalize w2.alloc (.cells mSum.l.toArray 33) = w3 at *
        refine (at_any w.heap.size A n c k w3 j1 (by omega) HN.out (HB2.out w3 SB.out)).mono ?_
        rintro _ _ ⟨⟨v, rfl, v0, v1⟩, rfl⟩
        go_upto_if 40 with fail
        go_cut [] (fun wx => SuM wr MB wx)
        case first => as_aux_lemma =>
          by_cases hp : v % 2 = 0
          · have hp' : decide (v % 2 = 0) = true := decide_eq_true hp
            go_wp2_with fail
            refine (at_any w.heap.size A n c ((k : Int) + 6) w3 (by omega) (by omega) HN.out (HB2.out w3 SB.out)).mono ?_
            rintro _ _ ⟨⟨v2, rfl, v3, v4⟩, rfl⟩
            obtain ⟨d, hd, d1, d2⟩ : ∃ d : Nat, 1 + v2 % 3 = (d : Int) ∧ 1 ≤ d ∧ d ≤ 3 := ⟨(1 + v2 % 3).toNat, by omega, by omega, by omega⟩
            have HD := Lib.hid (And.intro d1 d2)
            have i1 : (1 : Int) ≤ (d : Int) := by omega
            have i2 : (d : Int) ≤ 3 := by omega
            go_wp2_with fail
            try rw [hd]
            clear hd
            refine (newDelayS d d1 (by omega) _).mono ?_
            rintro _ w4 ⟨Ad, pd, bd, rfl, hring, s4⟩
            have HR := Lib.hid hring
            have S4 := Lib.hid s4
            have B4 := BM.out.keep s4
            have HB4 : Hid (Bx MB #[.int .i64 5, .complex .f32 0 0, .complex .f32 0 0, .float .f32 0, .slice none 0 0, .int .i64 0, .int .i64 0, .slice none 0 0, .slice none 0 0, .int .i64 0, .int .i64 0] w4) := B4
            have TH : Hid (w4.there MB 0 11) := su_there HB4.out
            clear hring s4 B4 d1 d2
            go_wp2_with (refine wpList_store_mid rfl 33 _ _ rfl MB 0 #[.int .i64 4, .complex .f32 0 0, .complex .f32 0 0, .float .f32 0, .slice Ad d pd, .int .i64 0, .int .i64 (d : Int), .slice none 0 0, .slice none 0 0, .int .i64 0, .int .i64 0] rfl rfl ?t ?i ?o ?_; (case t => exact TH.out); (case i => kernel_rfl); (case o => exact all_oneCell_toArray (cs := Mw.l (mDl d Ad pd)) (mw_one _)))
            go_meet
            have h11 := HB4.out.set11 (.int .i64 4) (.complex .f32 0 0) (.complex .f32 0 0) (.float .f32 0) (.slice Ad d pd) (.int .i64 0) (.int .i64 (d : Int)) (.slice none 0 0) (.slice none 0 0) (.int .i64 0) (.int .i64 0)
            have SQ := Span.put11 (lo := MB) (hi := MB + 1) (b := MB) (Span.refl MB (MB + 1) w4) ⟨Nat.le_refl _, Nat.lt_succ_self _⟩ (.int .i64 4) (.complex .f32 0 0) (.complex .f32 0 0) (.float .f32 0) (.slice Ad d pd) (.int .i64 0) (.int .i64 (d : Int)) (.slice none 0 0) (.slice none 0 0) (.int .i64 0) (.int .i64 0)
            have eS := setCells_mw w4 MB 0 (mDl d Ad pd)
            simp only [Nat.zero_add] at eS
            have b3 : MB < w3.heap.size := BM.out.1
            refine ⟨d, mDl d Ad pd, HD.out.2, .inr ⟨HD.out.1, Ad, pd, rfl⟩, ?_, fun _ => ⟨bd, ?_⟩, ?_⟩
            · refine Eq.mpr (congrArg (Bx MB _) eS) h11
            · refine Eq.mpr (congrArg (fun W => HasS cxV true bd wr.heap.size W.heap.size W _ _) eS) ((HR.out.span SQ (by omega)).weak SB.out.size (.inl SQ.size))
            · refine Eq.mpr (congrArg (Span 0 0 wr) eS) ((SB.out.trans S4.out).newTo SQ HMB.out)
          · have hp' : decide (v % 2 = 0) = false := decide_eq_false hp
            go_wp2_with fail
            go_meet
            exact ⟨0, mSum, by decide, .inl ⟨rfl, rfl⟩, BM.out, fun h => absurd h (by decide), SB.out⟩
        case rest =>
          obtain ⟨d, x, hd, hx, hbx, hring, s⟩ := hcut
          have HD := Lib.hid hd
          have HX := Lib.hid hx
          have HR := Lib.hid hring
          have SW := Lib.hid s
          have bx := HJ.out.box.keep s
          have c0 := bx.cells
          have HOM := Lib.hid (ownsRow_farK HJ.out.om s (.inl (Nat.le_refl _)))
          obtain ⟨AM, qM, hvM⟩ := ownsRow_slice HJ.out.om
          subst hvM
          have HBX := Lib.hid bx
          have hRBw := HJ.out.rb
          have hRBl : Hid (RB + 1 ≤ wc.heap.size) := bx.1
          obtain ⟨k', t1, t2, s1, s2, lv, S, sn, sp, a, cnt, P, pn, pp, L, ln, lp, c', f⟩ := x
          have y : ∀ i, wc.cell? ⟨MB, i, none⟩ = #[.int .i64 k', .complex .f32 t1 t2, .complex .f32 s1 s2, .float .f32 lv, .slice S sn sp, .int .i64 a, .int .i64 cnt, .slice P pn pp, .slice L ln lp, .int .i64 c', .int .i64 f][i]? := hbx.cells
          clear hd hx hring s hbx bx hRBw BM SB S2 HB2 v0 v1
          go_upto_if 58 with (at_builtin; go_loud ((refine wpList_append_lies _ rfl _ _ 38 rfl (RB + 1) 33 im _ 11 136 Try.underlying38 him hzm hsm hbm rfl (by decide) (.slice AM k qM) k _ rfl (HOM.out.alloc _) ⟨wc.heap.size, 0, none⟩ 1 1 (Mw.l ⟨k', t1, t2, s1, s2, lv, S, sn, sp, a, cnt, P, pn, pp, L, ln, lp, c', f⟩) rfl rfl ?c1 ?c2 (by decide) ?c3 ?c4 ?c5 (wc.heap.size + 1) (by simp) ?_); (case c1 => exact row_new _ _ _); (case c2 => exact mw_one _); (case c3 => have := HK.out; unfold maxLen; omega); (case c4 => have := HK.out; omega); (case c5 => have := hRBl.out; simp; omega); intro gU cU w6 ho6 hg6 hat6 hlt6; have B6 := (HBX.out.alloc _).grown hg6 (fun e => by have := HOM.out.lt _ e; omega); have f6 := B6.thaw; have q6 := B6.cells; have HJ2 := Lib.hid (su_mod HJ.out (SW.out.alloc _) d HD.out ⟨k', t1, t2, s1, s2, lv, S, sn, sp, a, cnt, P, pn, pp, L, ln, lp, c', f⟩ HX.out (fun h => (HR.out h).elim fun bs h1 => ⟨bs, (h1.alloc _).weak (Nat.le_refl _) (.inl (by simp))⟩) ho6 hg6 (by simpa using hat6)); clear ho6 hg6 hat6 hlt6 B6))
          clear HR SW HOM HBX hRBl y c0 HX
          generalize hw7 : w6.setCell ⟨RB, 0, none⟩ (.slice (some ⟨gU, 0, none⟩) (k + 1) cU) = w7 at *
          clear hw7
          have HD2 := Lib.hid HD.out
          clear HD
          obtain ⟨ds2, hds2⟩ : ∃ t, t = (fun j => if j = k then d else ds j) := ⟨_, rfl⟩
          obtain ⟨Ms2, hMs2⟩ : ∃ t, t = Ms ++ [(⟨k', t1, t2, s1, s2, lv, S, sn, sp, a, cnt, P, pn, pp, L, ln, lp, c', f⟩ : Mw)] := ⟨_, rfl⟩
          rw [← hds2, ← hMs2] at HJ2
          clear hds2 hMs2 HJ HD2
          by_cases h0 : k = 0
          · subst h0
            have HE := Lib.hid HJ2.out.one
            clear HJ2
            go_wp2_with fail
            go_roundw
            case rel => exact ⟨1, _, _, _, _, _, by decide, rfl, HE.out⟩
            case measure => simp [intOf]
          · have hk0 : (0 : Int) < (k : Int) := by omega
            have HK0 := Lib.hid (show 0 < k by omega)
            have HCL : Hid ((csOf fa k).length ≤ 10) := (by have h1 := HK.out; have h2 := csOf_len fa (k - 1); rw [show k - 1 + 1 = k by have := HK0.out; omega] at h2; unfold Hid; omega)
            go_upto_region 12 with fail
            --R12A
            obtain ⟨ic, hic, hzc, hsc, hbc⟩ := info_parts info_cab
            obtain ⟨AC, qC, hvC⟩ := ownsRow_slice HJ2.out.oc
            subst hvC
            obtain ⟨v3, v30, v31, hat⟩ := at_fixS A n c ((k : Int) + 12) w (by omega) (by omega) HN.out HBy.out
            have CAT : Hid (∀ w', Span 0 0 w7 w' → Calls Try.prog 6 #[.slice A n c, .int .i64 ((k : Int) + 12)] w' fun e w'' => e = .returned (.int .i64 v3) ∧ w' = w'') := fun w' s => hat w' (HJ2.out.span.trans s)
            obtain ⟨a, ha0, halt⟩ : ∃ a : Nat, v3.tmod (k : Int) = (a : Int) ∧ a < k := ⟨(v3 % (k : Int)).toNat, by rw [Int.tmod_eq_emod_of_nonneg v30]; have := Int.emod_nonneg v3 (show (k : Int) ≠ 0 by omega); omega, by have := Int.emod_lt_of_pos v3 hk0; have := Int.emod_nonneg v3 (show (k : Int) ≠ 0 by omega); omega⟩
            obtain ⟨k1, hk1⟩ : ∃ k1 : Nat, k1 = k - 1 := ⟨_, rfl⟩
            have HK1 := Lib.hid hk1
            have HAL := Lib.hid halt
            have w12 : IntKind.i64.wrap ((k : Int) + 12) = (k : Int) + 12 := by rw [IntKind.wrap_i64]; omega
            have w1 : IntKind.i64.wrap ((k : Int) - 1) = (k1 : Int) := by rw [IntKind.wrap_i64]; omega
            have wa : IntKind.i64.wrap (a : Int) = (a : Int) := by have := HK.out; rw [IntKind.wrap_i64]; omega
            have hkz : ¬ ((k : Int) = 0) := by omega
            have ZJ := Lib.hid HJ2.out.box.1
            clear hat hk1 halt v30 v31
            refine wp_region_inv [59, 60, 61, 62, 63, 64, 65, 66, 67, 68, 69, 70, 71, 72, 73, 74, 75] (CabI w7 RB (.slice (some ⟨gU, 0, none⟩) (k + 1) cU) (.slice AC (csOf fa k).length qC) (flatG cabC (csOf fa k)) (cabC (a, k) ++ cabC (k1, k)) (csOf fa k).length 14 73 (fun wx => ∃ fa' vC', SuJ ds2 fa' (.slice (some ⟨gU, 0, none⟩) (k + 1) cU) vC' Ms2 RB w (k + 1) (k + 1) wx) [59, 60, 61, 62, 63, 64, 65, 66, 67, 68, 69, 70, 71, 72, 73, 74, 75] [some (.pointer (some ⟨RB, 1, none⟩)), some (.slice AC (csOf fa k).length qC), some (.slice A n c), some (.int .i64 (k : Int)), some (.int .i64 ((k : Int) + 12)), some (.int .i64 v3), some (.int .i64 (k : Int)), some (.int .i64 (a : Int)), some (.int .i64 (k : Int)), some (.agg #[.int .i64 (a : Int), .int .i64 (k : Int)]), some (.int .i64 (k : Int)), some (.int .i64 (k1 : Int)), some (.int .i64 (k : Int)), some (.agg #[.int .i64 (k1 : Int), .int .i64 (k : Int)]), none, none, some (.pointer (some ⟨RB, 1, none⟩))]) (by kernel_rfl) (by kernel_rfl) (by kernel_rfl) (CabI.start ..) ?hstep ?hdone
            case hdone =>
              rintro L u w' hL hI
              have HD := Lib.hid (hI.p3 (hL 17 (by decide)))
              clear hL hI
              refine norm_arg (puts_cons (by (simp only [Act.put, List.setIfInBounds_toArray, List.set_cons_zero, List.set_cons_succ]); rfl) (puts_cons (by (simp only [Act.put, List.setIfInBounds_toArray, List.set_cons_zero, List.set_cons_succ]); rfl) (puts_cons (by (simp only [Act.put, List.setIfInBounds_toArray, List.set_cons_zero, List.set_cons_succ]); rfl) (puts_cons (by (simp only [Act.put, List.setIfInBounds_toArray, List.set_cons_zero, List.set_cons_succ]); rfl) (puts_cons (by (simp only [Act.put, List.setIfInBounds_toArray, List.set_cons_zero, List.set_cons_succ]); rfl) (puts_cons (by (simp only [Act.put, List.setIfInBounds_toArray, List.set_cons_zero, List.set_cons_succ]); rfl) (puts_cons (by (simp only [Act.put, List.setIfInBounds_toArray, List.set_cons_zero, List.set_cons_succ]); rfl) (puts_cons (by (simp only [Act.put, List.setIfInBounds_toArray, List.set_cons_zero, List.set_cons_succ]); rfl) (puts_cons (by (simp only [Act.put, List.setIfInBounds_toArray, List.set_cons_zero, List.set_cons_succ]); rfl) (puts_cons (by (simp only [Act.put, List.setIfInBounds_toArray, List.set_cons_zero, List.set_cons_succ]); rfl) (puts_cons (by (simp only [Act.put, List.setIfInBounds_toArray, List.set_cons_zero, List.set_cons_succ]); rfl) (puts_cons (by (simp only [Act.put, List.setIfInBounds_toArray, List.set_cons_zero, List.set_cons_succ]); rfl) (puts_cons (by (simp only [Act.put, List.setIfInBounds_toArray, List.set_cons_zero, List.set_cons_succ]); rfl) (puts_cons (by (simp only [Act.put, List.setIfInBounds_toArray, List.set_cons_zero, List.set_cons_succ]); rfl) (puts_cons (by (simp only [Act.put, List.setIfInBounds_toArray, List.set_cons_zero, List.set_cons_succ]); rfl) (puts_cons (by (simp only [Act.put, List.setIfInBounds_toArray, List.set_cons_zero, List.set_cons_succ]); rfl) (puts_cons (by (simp only [Act.put, List.setIfInBounds_toArray, List.set_cons_zero, List.set_cons_succ]); rfl) (puts_nil _ _)))))))))))))))))) ?_
              go_wp2_with fail
              obtain ⟨fa', vC', hE⟩ := HD.out
              have HE := Lib.hid hE
              clear hE HJ2
              go_roundw
              case rel => exact ⟨k + 1, _, _, _, _, _, HK.out, by go_num, HE.out⟩
              case measure => have := HK.out; simp [intOf]; omega
            case hstep =>
              rintro i o L u w' a' hcl ho hLi ha hI hag Q' K hK
              have hi : i < 18 := (Array.getElem?_eq_some_iff.1 ho).1
              have cl : ∀ (j j' : Nat) (oj : Oper) (g : Ground), (_ : Array Oper)[j]? = some oj → L j = true → (⟨j', g⟩ : Edge) ∈ oj.after → Region.binds .any ⟨j', g⟩ = true → L j' = true := fun j j' oj g h1 h2 h3 h4 => by
                rcases hcl j oj h1 h2 _ h3 with h | h
                · exact h
                · rw [h4] at h; cases h
              have h17 : i ≠ 17 → L 17 = false := fun hne => by
                cases h : L 17 with
                | false => rfl
                | true =>
                  have h2 : L i = true := by
                    by_cases h16 : i = 16
                    · subst h16; exact cl 17 16 _ .data rfl h (by simp) rfl
                    · exact cl 17 i _ .phase rfl h (by rcases (show i = 0 ∨ i = 1 ∨ i = 2 ∨ i = 3 ∨ i = 4 ∨ i = 5 ∨ i = 6 ∨ i = 7 ∨ i = 8 ∨ i = 9 ∨ i = 10 ∨ i = 11 ∨ i = 12 ∨ i = 13 ∨ i = 14 ∨ i = 15 by omega) with rfl | rfl | rfl | rfl | rfl | rfl | rfl | rfl | rfl | rfl | rfl | rfl | rfl | rfl | rfl | rfl <;> simp) rfl
                  rw [hLi] at h2; cases h2
              have h15 : i = 1 ∨ i = 5 ∨ i = 14 ∨ i = 15 → L 15 = false := fun hi5 => by
                cases h : L 15 with
                | false => rfl
                | true =>
                  have l14 : L 14 = true := cl 15 14 _ .data rfl h (by simp) rfl
                  have l1 : L 1 = true := cl 15 1 _ .data rfl h (by simp) rfl
                  have l9 : L 9 = true := cl 14 9 _ .data rfl l14 (by simp) rfl
                  have l7 : L 7 = true := cl 9 7 _ .data rfl l9 (by simp) rfl
                  have l5 : L 5 = true := cl 7 5 _ .data rfl l7 (by simp) rfl
                  rcases hi5 with rfl | rfl | rfl | rfl
                  · rw [hLi] at l1; cases l1
                  · rw [hLi] at l5; cases l5
                  · rw [hLi] at l14; cases l14
                  · rw [hLi] at h; cases h
              clear hcl cl
              have HK2 := Lib.hid hK
              have HI := Lib.hid hI
              have HV := Lib.hid hI.1
              have HAG := Lib.hid hag
              have hsn : Hid (List.Nodup [59, 60, 61, 62, 63, 64, 65, 66, 67, 68, 69, 70, 71, 72, 73, 74, 75]) := (by decide : List.Nodup [59, 60, 61, 62, 63, 64, 65, 66, 67, 68, 69, 70, 71, 72, 73, 74, 75])
              clear hK hI
              have t0 : a'.tmps[0]?.getD undef = .slice A n c := (hag.off (s := 0) (of_decide_eq_true (by kernel_rfl)) (by decide)).trans rfl
              have t3 : a'.tmps[3]?.getD undef = .pointer (some ⟨RB, 0, none⟩) := (hag.off (s := 3) (of_decide_eq_true (by kernel_rfl)) (by decide)).trans rfl
              have t4 : a'.tmps[4]?.getD undef = .int .i64 (k : Int) := (hag.off (s := 4) (of_decide_eq_true (by kernel_rfl)) (by decide)).trans rfl
              clear hag
              rcases (show i = 0 ∨ i = 1 ∨ i = 2 ∨ i = 3 ∨ i = 4 ∨ i = 5 ∨ i = 6 ∨ i = 7 ∨ i = 8 ∨ i = 9 ∨ i = 10 ∨ i = 11 ∨ i = 12 ∨ i = 13 ∨ i = 14 ∨ i = 15 ∨ i = 16 ∨ i = 17 by omega) with rfl | rfl | rfl | rfl | rfl | rfl | rfl | rfl | rfl | rfl | rfl | rfl | rfl | rfl | rfl | rfl | rfl | rfl
              all_goals
                simp only [List.getElem?_toArray, List.getElem?_cons_zero, List.getElem?_cons_succ, Option.some.injEq] at ho
                subst ho
                simp [Region.binds] at ha
              · clear ha h15 h17
                go_simp
                exact HK2.out _ _ (HI.out.val hsn.out 0 59 _ rfl rfl (by decide) (by decide) (by decide) (by decide) (by decide))
              · have f59 := (HAG.out.at_ (s := 59) (of_decide_eq_true (by kernel_rfl)) (by decide)).trans (HV.out 0 59 _ rfl rfl (by simp [ha]))
                have sp := Lib.hid (HI.out.p1 (h15 (by decide)) (h17 (by decide))).1
                have y := (HJ2.out.box.keep sp.out).cells 1
                clear ha h15 h17
                go_simp
                exact HK2.out _ _ (HI.out.val hsn.out 1 60 _ rfl rfl (by decide) (by decide) (by decide) (by decide) (by decide))
              · clear ha h15 h17
                go_simp
                exact HK2.out _ _ (HI.out.val hsn.out 2 61 _ rfl rfl (by decide) (by decide) (by decide) (by decide) (by decide))
              · clear ha h15 h17
                go_simp
                exact HK2.out _ _ (HI.out.val hsn.out 3 62 _ rfl rfl (by decide) (by decide) (by decide) (by decide) (by decide))
              · have f62 := (HAG.out.at_ (s := 62) (of_decide_eq_true (by kernel_rfl)) (by decide)).trans (HV.out 3 62 _ rfl rfl (by simp [ha]))
                clear ha h15 h17
                go_simp
                exact HK2.out _ _ (HI.out.val hsn.out 4 63 _ rfl rfl (by decide) (by decide) (by decide) (by decide) (by decide))
              · have f61 := (HAG.out.at_ (s := 61) (of_decide_eq_true (by kernel_rfl)) (by decide)).trans (HV.out 2 61 _ rfl rfl (by simp [ha]))
                have f63 := (HAG.out.at_ (s := 63) (of_decide_eq_true (by kernel_rfl)) (by decide)).trans (HV.out 4 63 _ rfl rfl (by simp [ha]))
                have sp := Lib.hid (HI.out.p1 (h15 (by decide)) (h17 (by decide))).1
                clear ha h15 h17
                go_simp
                refine (CAT.out _ sp.out).mono ?_
                rintro _ _ ⟨rfl, rfl⟩
                have h := HK2.out (.int .i64 v3) _ (HI.out.val hsn.out 5 64 _ rfl rfl (by decide) (by decide) (by decide) (by decide) (by decide))
                clear HK2 HI HV HAG
                go_wp2_with fail
                exact h
              · clear ha h15 h17
                go_simp
                exact HK2.out _ _ (HI.out.val hsn.out 6 65 _ rfl rfl (by decide) (by decide) (by decide) (by decide) (by decide))
              · have f64 := (HAG.out.at_ (s := 64) (of_decide_eq_true (by kernel_rfl)) (by decide)).trans (HV.out 5 64 _ rfl rfl (by simp [ha]))
                have f65 := (HAG.out.at_ (s := 65) (of_decide_eq_true (by kernel_rfl)) (by decide)).trans (HV.out 6 65 _ rfl rfl (by simp [ha]))
                clear ha h15 h17
                go_simp
                exact HK2.out _ _ (HI.out.val hsn.out 7 66 _ rfl rfl (by decide) (by decide) (by decide) (by decide) (by decide))
              · clear ha h15 h17
                go_simp
                exact HK2.out _ _ (HI.out.val hsn.out 8 67 _ rfl rfl (by decide) (by decide) (by decide) (by decide) (by decide))
              · have f66 := (HAG.out.at_ (s := 66) (of_decide_eq_true (by kernel_rfl)) (by decide)).trans (HV.out 7 66 _ rfl rfl (by simp [ha]))
                have f67 := (HAG.out.at_ (s := 67) (of_decide_eq_true (by kernel_rfl)) (by decide)).trans (HV.out 8 67 _ rfl rfl (by simp [ha]))
                clear ha h15 h17
                go_simp
                exact HK2.out _ _ (HI.out.val hsn.out 9 68 _ rfl rfl (by decide) (by decide) (by decide) (by decide) (by decide))
              · clear ha h15 h17
                go_simp
                exact HK2.out _ _ (HI.out.val hsn.out 10 69 _ rfl rfl (by decide) (by decide) (by decide) (by decide) (by decide))
              · have f69 := (HAG.out.at_ (s := 69) (of_decide_eq_true (by kernel_rfl)) (by decide)).trans (HV.out 10 69 _ rfl rfl (by simp [ha]))
                clear ha h15 h17
                go_simp
                exact HK2.out _ _ (HI.out.val hsn.out 11 70 _ rfl rfl (by decide) (by decide) (by decide) (by decide) (by decide))
              · clear ha h15 h17
                go_simp
                exact HK2.out _ _ (HI.out.val hsn.out 12 71 _ rfl rfl (by decide) (by decide) (by decide) (by decide) (by decide))
              · have f70 := (HAG.out.at_ (s := 70) (of_decide_eq_true (by kernel_rfl)) (by decide)).trans (HV.out 11 70 _ rfl rfl (by simp [ha]))
                have f71 := (HAG.out.at_ (s := 71) (of_decide_eq_true (by kernel_rfl)) (by decide)).trans (HV.out 12 71 _ rfl rfl (by simp [ha]))
                clear ha h15 h17
                go_simp
                exact HK2.out _ _ (HI.out.val hsn.out 13 72 _ rfl rfl (by decide) (by decide) (by decide) (by decide) (by decide))
              · have H15 := Lib.hid (h15 (by decide))
                have H17 := Lib.hid (h17 (by decide))
                obtain ⟨sp, hG⟩ := HI.out.p1 H15.out H17.out
                have e68 : a'.eval (.tmp 68) = .agg #[.int .i64 (a : Int), .int .i64 (k : Int)] := (Array.getD_eq_getD_getElem? ..).trans ((HAG.out.at_ (s := 68) (of_decide_eq_true (by kernel_rfl)) (by decide)).trans (HV.out 9 68 _ rfl rfl (by simp [ha])))
                have e72 : a'.eval (.tmp 72) = .agg #[.int .i64 (k1 : Int), .int .i64 (k : Int)] := (Array.getD_eq_getD_getElem? ..).trans ((HAG.out.at_ (s := 72) (of_decide_eq_true (by kernel_rfl)) (by decide)).trans (HV.out 13 72 _ rfl rfl (by simp [ha])))
                refine if_wanted rfl ?_
                refine wp_buildSlice2 (x := .tmp 68) (y := .tmp 72) rfl _ _ e68 e72 (cabC (a, k) ++ cabC (k1, k)) Try.underlying41 info_cab (by decide) (by decide) rfl rfl rfl ?_
                exact HK2.out _ _ (HI.out.mk_ hsn.out rfl rfl H15.out H17.out _)
              · have H15 := Lib.hid (h15 (by decide))
                have H17 := Lib.hid (h17 (by decide))
                obtain ⟨sp, hG⟩ := HI.out.p1 H15.out H17.out
                obtain ⟨G, hg1, hg2⟩ := hG (by simp [ha])
                have e1 : a'.eval (.tmp 60) = .slice AC (csOf fa k).length qC := (Array.getD_eq_getD_getElem? ..).trans ((HAG.out.at_ (s := 60) (of_decide_eq_true (by kernel_rfl)) (by decide)).trans (HV.out 1 60 _ rfl rfl (by simp [ha])))
                have e2 : a'.eval (.tmp 73) = .slice (some ⟨G, 0, none⟩) 2 2 := (Array.getD_eq_getD_getElem? ..).trans ((HAG.out.at_ (s := 73) (of_decide_eq_true (by kernel_rfl)) (by decide)).trans hg1)
                refine if_wanted rfl ?_
                refine wp_append_lies _ (.tmp 60) (.tmp 73) 41 rfl (RB + 1) 40 ic (.agg #[.int .i64 0, .int .i64 0]) 2 16 Try.underlying41 hic hzc hsc hbc rfl (by decide) _ (csOf fa k).length (flatG cabC (csOf fa k)) e1 (ownsRow_farK HJ2.out.oc sp (.inl (Nat.le_refl _))) ⟨G, 0, none⟩ 2 2 (cabC (a, k) ++ cabC (k1, k)) e2 rfl hg2.2 ?one (by decide) ?l1 ?l2 ?l3 w'.heap.size rfl ?_
                case one => intro u hu; simp only [cabC, List.cons_append, List.nil_append, List.mem_cons, List.not_mem_nil, or_false] at hu; rcases hu with rfl | rfl | rfl | rfl <;> rfl
                case l1 => have := HCL.out; unfold maxLen; omega
                case l2 => have := HCL.out; omega
                case l3 => have := ZJ.out; have := sp.size; omega
                intro g cap w6 ho hg hat _
                exact HK2.out _ _ (HI.out.app hsn.out rfl rfl H15.out H17.out hg hat ho ((HJ2.out.box.keep sp).grown hg (fun e => by have := HJ2.out.oc.lt _ e; omega)))
              · clear ha h15 h17
                go_simp
                exact HK2.out _ _ (HI.out.val hsn.out 16 75 _ rfl rfl (by decide) (by decide) (by decide) (by decide) (by decide))
              · obtain ⟨g, cap, wb, hu, sp, hg, hat, ho, hb⟩ := HI.out.p2 (by simp [ha]) hLi
                have f74 := (HAG.out.at_ (s := 74) (of_decide_eq_true (by kernel_rfl)) (by decide)).trans hu
                have f75 := (HAG.out.at_ (s := 75) (of_decide_eq_true (by kernel_rfl)) (by decide)).trans (HV.out 16 75 _ rfl rfl (by simp [ha]))
                have y := hb.cells 1
                have z := hb.thaw
                have HX := Lib.hid (And.intro sp (And.intro hg (And.intro hat ho)))
                clear ha sp hg hat ho hb hu h15 h17 HAG HV
                go_simp
                obtain ⟨sp, hg, hat, ho⟩ := HX.out
                have e1 := HK1.out
                subst e1
                exact HK2.out undef _ (HI.out.st rfl ⟨_, _, su_cab HJ2.out HK0.out sp a HAL.out ho hg hat⟩ _)
            --R12B
      · have hk6 : k = 6 := by omega
        subst hk6
        have HJ := Lib.hid hJ
        have HY := Lib.hid (hby_upS (HBy.out.below (Below.of_span1 hJ.span)) hJ.span.size)
        have HP0 : Hid (0 < wr.heap.size) := Nat.lt_of_le_of_lt (Nat.zero_le _) hJ.box.1
        clear hJ hk hlt
        go_wp2_with fail
        refine (fresh_any A n c 3 _ (by omega) (by omega) HN.out HY.out).mono ?_
        rintro _ w8 ⟨A8, n8, c8, rfl, hn8, hy8, hb8⟩
        have HN8 := Lib.hid hn8
        have HY8 := Lib.hid hy8
        have S8 : Hid (Span 0 0 wr w8) := Span.of_below hb8
        clear hn8 hy8 hb8
        go_wp2_with fail
        refine (makeWhole_any 20 (by decide) (by decide) A8 n8 c8 w8 (by have := HN8.out; omega) HY8.out).mono ?_
        rintro _ w9 ⟨vx, xs, rfl, hlx, hx, hox, hb9⟩
        obtain ⟨AX, cX, rfl⟩ := ownsRow_slice hox
        have S9 : Hid (Span 0 0 wr w9) := S8.out.trans (Span.of_below hb9)
        obtain ⟨bX, hsX, hbX⟩ := own_reads hox (Nat.lt_of_lt_of_le HP0.out S9.out.size)
        have HSX := Lib.hid hsX
        have HBX := Lib.hid hbX
        have HLX := Lib.hid hlx
        have HX := Lib.hid hx
        have HY9 := Lib.hid (hby_upS (HBy.out.below (Below.of_span1 (HJ.out.span.trans S9.out))) (HJ.out.span.trans S9.out).size)
        clear hlx hx hox hb9 hsX hbX
        go_wp2_with fail
        refine (fresh_any A n c 5 _ (by omega) (by omega) HN.out HY9.out).mono ?_
        rintro _ w10 ⟨A10, n10, c10, rfl, hn10, hy10, hb10⟩
        have HN10 := Lib.hid hn10
        have HY10 := Lib.hid hy10
        have S10 : Hid (Span 0 0 w9 w10) := Span.of_below hb10
        clear hn10 hy10 hb10
        go_wp2_with fail
        refine (makeWhole_any 20 (by decide) (by decide) A10 n10 c10 w10 (by have := HN10.out; omega) HY10.out).mono ?_
        rintro _ w11 ⟨vy, ys, rfl, hly, hy, hoy, hb11⟩
        obtain ⟨AY, cY, rfl⟩ := ownsRow_slice hoy
        have S11 : Hid (Span 0 0 w9 w11) := S10.out.trans (Span.of_below hb11)
        obtain ⟨bY, hsY, hbY⟩ := own_reads hoy (Nat.lt_of_lt_of_le HP0.out (S9.out.trans S11.out).size)
        have HSY := Lib.hid hsY
        have HBY := Lib.hid hbY
        have HLY := Lib.hid hly
        have HYS := Lib.hid hy
        have HSX1 := Lib.hid (HSX.out.span S11.out (.inl (Nat.le_refl _)))
        have HT := Lib.hid (TwoL.start w11)
        have ix : (xs.length : Int) ≤ 20 := by have := HLX.out; omega
        have iy : (ys.length : Int) ≤ 20 := by omega
        clear hly hy hoy hb11 hsY hbY
        obtain ⟨xf, hxf⟩ : ∃ xf : Nat → Cx, xf = fun r => xs.getD r (0, 0) := ⟨_, rfl⟩
        obtain ⟨yf, hyf⟩ : ∃ yf : Nat → Cx, yf = fun r => ys.getD r (0, 0) := ⟨_, rfl⟩
        have HXF := Lib.hid hxf
        have HYF := Lib.hid hyf
        obtain ⟨xi, hxi, bxi, zxi⟩ := wholes2 xs HX.out
        obtain ⟨yi, hyi, byi, zyi⟩ := wholes2 ys HYS.out
        have HWX := Lib.hid (And.intro hxi (And.intro bxi zxi))
        have HWY := Lib.hid (And.intro hyi (And.intro byi zyi))
        clear hxf hyf hxi bxi zxi hyi byi zyi
        go_wp2_with fail
        go_loopw [8, 9, 10] (fun ub ut q wr => ∃ i : Nat, i ≤ 20 ∧ q = .int .i64 i ∧ TwoL w11.heap.size w11 ub ut i i (bothL xf yf i) (twiceL xf i) wr) (fun _ _ q _ => 20 - (intOf q).toNat)
        case atStart => exact ⟨0, by decide, rfl, HT.out⟩
        case round =>
          clear HT
          obtain ⟨i, hi, rfl, hT⟩ := hrel
          have HT := Lib.hid hT
          clear hT
          by_cases hlt : i < 20
          · have HI := Lib.hid hlt
            have j1 : (0 : Int) ≤ (i : Int) := by omega
            have j2 : (i : Int) < 20 := by omega
            clear hi hlt
            go_upto_if 91 with fail
            go_cut [11] (fun sa wx => sa = .complex .f32 (xf i).1 (xf i).2 ∧ wr = wx)
            case first => as_aux_lemma =>
              by_cases hx : i < xs.length
              · obtain ⟨x, hxx⟩ := getElem?_some hx
                have e : xf i = x := by rw [HXF.out]; show xs.getD i (0, 0) = x; rw [List.getD_eq_getElem?_getD, hxx]; rfl
                obtain ⟨off, hoff, -, -, -⟩ := HSX1.out.addrT (by omega)
                subst hoff
                have d0 : wr.cell? ⟨bX, off + i, none⟩ = some (.complex .f32 x.1 x.2) := (HSX1.out.span HT.out.span (.inl (Nat.le_refl _))).atJ hxx
                have j3 : (i : Int) < (xs.length : Int) := by omega
                clear hxx hx
                go_wp2_with fail
                go_meet
                rw [e]
                exact ⟨rfl, rfl⟩
              · have e : xf i = (0, 0) := by rw [HXF.out]; show xs.getD i (0, 0) = (0, 0); rw [List.getD_eq_getElem?_getD, List.getElem?_eq_none (by omega)]; rfl
                have j3 : ¬ (i : Int) < (xs.length : Int) := by omega
                clear hx
                go_wp2_with fail
                go_meet
                rw [e]
                exact ⟨rfl, rfl⟩
            case rest =>
              obtain ⟨rfl, rfl⟩ := hcut
              go_upto_if 99 with fail
              go_cut [12] (fun sa wx => sa = .complex .f32 (yf i).1 (yf i).2 ∧ wr = wx)
              case first => as_aux_lemma =>
                by_cases hx : i < ys.length
                · obtain ⟨x, hxx⟩ := getElem?_some hx
                  have e : yf i = x := by rw [HYF.out]; show ys.getD i (0, 0) = x; rw [List.getD_eq_getElem?_getD, hxx]; rfl
                  obtain ⟨off, hoff, -, -, -⟩ := HSY.out.addrT (by omega)
                  subst hoff
                  have d0 : wr.cell? ⟨bY, off + i, none⟩ = some (.complex .f32 x.1 x.2) := (HSY.out.span HT.out.span (.inl (Nat.le_refl _))).atJ hxx
                  have j3 : (i : Int) < (ys.length : Int) := by omega
                  clear hxx hx
                  go_wp2_with fail
                  go_meet
                  rw [e]
                  exact ⟨rfl, rfl⟩
                · have e : yf i = (0, 0) := by rw [HYF.out]; show ys.getD i (0, 0) = (0, 0); rw [List.getD_eq_getElem?_getD, List.getElem?_eq_none (by omega)]; rfl
                  have j3 : ¬ (i : Int) < (ys.length : Int) := by omega
                  clear hx
                  go_wp2_with fail
                  go_meet
                  rw [e]
                  exact ⟨rfl, rfl⟩
              case rest =>
                obtain ⟨rfl, rfl⟩ := hcut
                have hX : WholeC (xf i) (xi i) := by rw [HXF.out]; exact HWX.out.1 i
                have hY : WholeC (yf i) (yi i) := by rw [HYF.out]; exact HWY.out.1 i
                have h3x := HWX.out.2.1 i
                have h3y := HWY.out.2.1 i
                obtain ⟨f1, f2⟩ := add_facts hX.1 hY.1 (by omega)
                obtain ⟨f3, f4⟩ := add_facts hX.2 hY.2 (by omega)
                obtain ⟨⟨m1, m2⟩, -⟩ := dbl_facts hX.1 (by omega)
                obtain ⟨⟨m3, m4⟩, -⟩ := dbl_facts hX.2 (by omega)
                clear hX hY h3x h3y
                obtain ⟨ip, hip, hzp, hsp, hbp⟩ := info_parts info_c64
                go_wp2_with (at_builtin; (first
                  | (refine wpList_append_lies _ rfl (.tmp 104) (.tmp 116) 26 rfl w11.heap.size 24 ip (.complex .f32 0 0) 1 8 Try.underlying26 hip hzp hsp hbp rfl (by decide) u8 i _ rfl (HT.out.ob.alloc _) ⟨wr.heap.size, 0, none⟩ 1 1 [cxV (addC (xf i) (yf i))] rfl rfl ?c1 ?c2 (by decide) ?c3 ?c4 ?c5 (wr.heap.size + 1) (by simp) ?_; (case c1 => exact row_new _ _ _); (case c2 => exact one_cell (by rfl)); (case c3 => have := HI.out; unfold maxLen; omega); (case c4 => have := HI.out; omega); (case c5 => have := HT.out.span.size; simp; omega); intro gb cb w6 ho6 hg6 hat6 _; have HT6 := Lib.hid (HT.out.both (addC (xf i) (yf i)) ho6 hg6 (by simpa using hat6)); clear ho6 hg6 hat6)
                  | (refine wpList_append_lies _ rfl (.tmp 118) (.tmp 126) 26 rfl w11.heap.size 24 ip (.complex .f32 0 0) 1 8 Try.underlying26 hip hzp hsp hbp rfl (by decide) u9 i _ rfl (HT6.out.ot.alloc _) ⟨w6.heap.size, 0, none⟩ 1 1 [cxV (dblC (xf i))] rfl rfl ?d1 ?d2 (by decide) ?d3 ?d4 ?d5 (w6.heap.size + 1) (by simp) ?_; (case d1 => exact row_new _ _ _); (case d2 => exact one_cell (by rfl)); (case d3 => have := HI.out; unfold maxLen; omega); (case d4 => have := HI.out; omega); (case d5 => have := HT6.out.span.size; simp; omega); intro gt ct w7 ho7 hg7 hat7 _; have HT7 := Lib.hid (HT6.out.twice (dblC (xf i)) ho7 hg7 (by simpa using hat7)); clear ho7 hg7 hat7)))
                go_roundw
                case rel => exact ⟨i + 1, HI.out, by go_num, by rw [bothL_next, twiceL_next]; exact HT7.out⟩
                case measure => have := HI.out; simp [intOf]; omega
          · have hi20 : i = 20 := by omega
            subst hi20
            --T2A
            have SE := Lib.hid (S9.out.trans (S11.out.trans HT.out.span))
            have HJE := Lib.hid (HJ.out.keep SE.out)
            obtain ⟨bM, bC, AM, cM, AC, cC, rfl, rfl, hRK, hRD⟩ := HJE.out.rack
            obtain ⟨AB, cB, eB⟩ := ownsRow_slice HT.out.ob
            subst eB
            obtain ⟨AT, cT, eT⟩ := ownsRow_slice HT.out.ot
            subst eT
            have hp0 : 0 < wr.heap.size := Nat.lt_of_lt_of_le HP0.out SE.out.size
            obtain ⟨bB, hsB, hbB⟩ := own_reads HT.out.ob hp0
            obtain ⟨bT, hsT, hbT⟩ := own_reads HT.out.ot hp0
            have HRK := Lib.hid hRK
            have HRD := Lib.hid hRD
            have HSB := Lib.hid hsB
            have HST := Lib.hid hsT
            have HBB := Lib.hid hbB
            have HBT := Lib.hid hbT
            have HBXE : Hid (bX < wr.heap.size) := Nat.lt_of_lt_of_le HBX.out (S11.out.trans HT.out.span).size
            have HBYE : Hid (bY < wr.heap.size) := Nat.lt_of_lt_of_le HBY.out HT.out.span.size
            obtain ⟨bf, hbf⟩ : ∃ bf : Nat → Cx, bf = fun r => (bothL xf yf 20).getD r (0, 0) := ⟨_, rfl⟩
            obtain ⟨tf, htf⟩ : ∃ tf : Nat → Cx, tf = fun r => (twiceL xf 20).getD r (0, 0) := ⟨_, rfl⟩
            have HBF := Lib.hid hbf
            have HTF := Lib.hid htf
            have HWB : Hid (∀ r, WholeC ((bothL xf yf 20).getD r (0, 0)) (addZ (xi r) (yi r))) := fun r => by rw [HXF.out, HYF.out]; exact both_whole HWX.out.1 HWY.out.1 HWX.out.2.1 HWY.out.2.1 HWX.out.2.2 HWY.out.2.2 HLX.out HLY.out r
            have HWT : Hid (∀ r, WholeC ((twiceL xf 20).getD r (0, 0)) (addZ (xi r) (xi r))) := fun r => by rw [HXF.out]; exact twice_whole HWX.out.1 HWX.out.2.1 HWX.out.2.2 HLX.out r
            have HL := Lib.hid (fun k => last_facts (ds := ds) HJ.out.fal (x := xf) (y := yf) (b := bf) (t := tf) (xi := xi) (yi := yi) (fun r => by rw [HXF.out]; exact HWX.out.1 r) (fun r => by rw [HYF.out]; exact HWY.out.1 r) (fun r => by rw [HBF.out]; exact HWB.out r) (fun r => by rw [HTF.out]; exact HWT.out r) HWX.out.2.1 HWY.out.2.1 k)
            clear hRK hRD hsB hsT hbB hbT hbf htf hp0
            have R1 : Hid (∀ w', Span 0 0 wr w' → Calls Try.prog 14 #[.agg #[.slice AM 6 cM, .slice AC 10 cC], .agg #[.int .i64 0, .int .i64 5], .slice AX xs.length cX, .int .i64 24] w' (RanRk 6 10 24 (csOf fa 6) ((List.range 24).map (outS ds fa xf 5)) (fun _ _ => True) w')) := fun w' s => by
              have h := run_SD (w := w') HJ.out.fal (fun i => by have := HJ.out.dsl i; omega) (by decide) (HRK.out.keep s) (HRD.out.keep s) HJ.out.is xs (by have := HLX.out; omega) xi HWX.out.1 3 HWX.out.2.1 (by decide) 5 (by decide) true bX 0 _ _ (Nat.lt_of_lt_of_le HBXE.out s.size) ((HSX1.out.span HT.out.span (.inl (Nat.le_refl _))).span s (.inl (Nat.le_refl _))) 24 (by decide)
              rw [← HXF.out] at h
              exact h
            have R2 : Hid (∀ w', Span 0 0 wr w' → Calls Try.prog 14 #[.agg #[.slice AM 6 cM, .slice AC 10 cC], .agg #[.int .i64 0, .int .i64 5], .slice AY ys.length cY, .int .i64 24] w' (RanRk 6 10 24 (csOf fa 6) ((List.range 24).map (outS ds fa yf 5)) (fun _ _ => True) w')) := fun w' s => by
              have h := run_SD (w := w') HJ.out.fal (fun i => by have := HJ.out.dsl i; omega) (by decide) (HRK.out.keep s) (HRD.out.keep s) HJ.out.is ys (by have := HLY.out; omega) yi HWY.out.1 3 HWY.out.2.1 (by decide) 5 (by decide) true bY 0 _ _ (Nat.lt_of_lt_of_le HBYE.out s.size) ((HSY.out.span HT.out.span (.inl (Nat.le_refl _))).span s (.inl (Nat.le_refl _))) 24 (by decide)
              rw [← HYF.out] at h
              exact h
            have R3 : Hid (∀ w', Span 0 0 wr w' → Calls Try.prog 14 #[.agg #[.slice AM 6 cM, .slice AC 10 cC], .agg #[.int .i64 0, .int .i64 5], .slice AB 20 cB, .int .i64 24] w' (RanRk 6 10 24 (csOf fa 6) ((List.range 24).map (outS ds fa bf 5)) (fun _ _ => True) w')) := fun w' s => by
              have h := run_SD (w := w') HJ.out.fal (fun i => by have := HJ.out.dsl i; omega) (by decide) (HRK.out.keep s) (HRD.out.keep s) HJ.out.is (bothL xf yf 20) (by simp [bothL]) _ HWB.out 6 (fun r => by have a := HWX.out.2.1 r; have b := HWY.out.2.1 r; simp only [addZ]; omega) (by decide) 5 (by decide) true bB 0 _ _ (Nat.lt_of_lt_of_le HBB.out s.size) (HSB.out.span s (.inl (Nat.le_refl _))) 24 (by decide)
              rw [← HBF.out] at h
              exact h
            have R4 : Hid (∀ w', Span 0 0 wr w' → Calls Try.prog 14 #[.agg #[.slice AM 6 cM, .slice AC 10 cC], .agg #[.int .i64 0, .int .i64 5], .slice AT 20 cT, .int .i64 24] w' (RanRk 6 10 24 (csOf fa 6) ((List.range 24).map (outS ds fa tf 5)) (fun _ _ => True) w')) := fun w' s => by
              have h := run_SD (w := w') HJ.out.fal (fun i => by have := HJ.out.dsl i; omega) (by decide) (HRK.out.keep s) (HRD.out.keep s) HJ.out.is (twiceL xf 20) (by simp [twiceL]) _ HWT.out 6 (fun r => by have a := HWX.out.2.1 r; simp only [addZ]; omega) (by decide) 5 (by decide) true bT 0 _ _ (Nat.lt_of_lt_of_le HBT.out s.size) (HST.out.span s (.inl (Nat.le_refl _))) 24 (by decide)
              rw [← HTF.out] at h
              exact h
            go_upto_region 29 with fail
            have BP := Lib.hid (Bx.new wr #[.int .i64 0, .int .i64 5] 54)
            have SP := Lib.hid ((Span.refl 0 0 wr).alloc (.cells #[.int .i64 0, .int .i64 5] 54))
            obtain ⟨PB, hPB⟩ : ∃ t, t = wr.heap.size := ⟨_, rfl⟩
            rw [← hPB] at BP ⊢
            clear hPB
            generalize wr.alloc (.cells #[.int .i64 0, .int .i64 5] 54) = v0 at *
            have BR0 := Lib.hid (HJE.out.box.keep SP.out)
            have S0 := Lib.hid SP.out
            have BP0 := Lib.hid BP.out
            have r1 := BR0.out.cells
            have p1 := BP0.out.cells
            go_wp2_with fail
            refine (R1.out _ S0.out).mono ?_
            rintro _ w21 ⟨b1, gu, bC1, Ns1, A1, q1, rfl, -, -, -, -, -, -, hy1, s1⟩
            clear r1 p1
            go_upto_region 30 with fail
            have T1 := Lib.hid (s1.alloc (.cells #[.slice (some ⟨b1, 0, none⟩) 6 6, .slice A1 10 q1] 43))
            have S1 := Lib.hid (S0.out.trans T1.out)
            have HU1 := Lib.hid (hy1.alloc (.cells #[.slice (some ⟨b1, 0, none⟩) 6 6, .slice A1 10 q1] 43))
            have BR1 := Lib.hid (BR0.out.keep T1.out)
            have BP1 := Lib.hid (BP0.out.keep T1.out)
            clear s1 hy1
            generalize w21.alloc (.cells #[.slice (some ⟨b1, 0, none⟩) 6 6, .slice A1 10 q1] 43) = v1 at *
            clear BR0 BP0
            have r2 := BR1.out.cells
            have p2 := BP1.out.cells
            go_wp2_with fail
            refine (R2.out _ S1.out).mono ?_
            rintro _ w22 ⟨b2, gv, bC2, Ns2, A2, q2, rfl, -, -, -, -, -, -, hy2, s2⟩
            clear r2 p2
            go_upto_region 31 with fail
            have T2 := Lib.hid (s2.alloc (.cells #[.slice (some ⟨b2, 0, none⟩) 6 6, .slice A2 10 q2] 43))
            have S2 := Lib.hid (S1.out.trans T2.out)
            have HU2 := Lib.hid (hy2.alloc (.cells #[.slice (some ⟨b2, 0, none⟩) 6 6, .slice A2 10 q2] 43))
            have BR2 := Lib.hid (BR1.out.keep T2.out)
            have BP2 := Lib.hid (BP1.out.keep T2.out)
            clear s2 hy2
            generalize w22.alloc (.cells #[.slice (some ⟨b2, 0, none⟩) 6 6, .slice A2 10 q2] 43) = v2 at *
            clear BR1 BP1
            have r3 := BR2.out.cells
            have p3 := BP2.out.cells
            go_wp2_with fail
            refine (R3.out _ S2.out).mono ?_
            rintro _ w23 ⟨b3, gw, bC3, Ns3, A3, q3, rfl, -, -, -, -, -, -, hy3, s3⟩
            clear r3 p3
            go_upto_region 32 with fail
            have T3 := Lib.hid (s3.alloc (.cells #[.slice (some ⟨b3, 0, none⟩) 6 6, .slice A3 10 q3] 43))
            have S3 := Lib.hid (S2.out.trans T3.out)
            have HU3 := Lib.hid (hy3.alloc (.cells #[.slice (some ⟨b3, 0, none⟩) 6 6, .slice A3 10 q3] 43))
            have BR3 := Lib.hid (BR2.out.keep T3.out)
            have BP3 := Lib.hid (BP2.out.keep T3.out)
            clear s3 hy3
            generalize w23.alloc (.cells #[.slice (some ⟨b3, 0, none⟩) 6 6, .slice A3 10 q3] 43) = v3 at *
            clear BR2 BP2
            have r4 := BR3.out.cells
            have p4 := BP3.out.cells
            go_wp2_with fail
            refine (R4.out _ S3.out).mono ?_
            rintro _ w24 ⟨b4, gt, bC4, Ns4, A4, q4, rfl, -, -, -, -, -, -, hy4, s4⟩
            clear r4 p4
            go_upto_region 33 with fail
            have T4 := Lib.hid (s4.alloc (.cells #[.slice (some ⟨b4, 0, none⟩) 6 6, .slice A4 10 q4] 43))
            have S4 := Lib.hid (S3.out.trans T4.out)
            have HU4 := Lib.hid (hy4.alloc (.cells #[.slice (some ⟨b4, 0, none⟩) 6 6, .slice A4 10 q4] 43))
            have BR4 := Lib.hid (BR3.out.keep T4.out)
            have BP4 := Lib.hid (BP3.out.keep T4.out)
            clear s4 hy4
            generalize w24.alloc (.cells #[.slice (some ⟨b4, 0, none⟩) 6 6, .slice A4 10 q4] 43) = v4 at *
            clear BR3 BP3
            have V1 := Lib.hid (HU1.out.span ((T2.out.trans T3.out).trans T4.out) (.inl (Nat.le_refl _)))
            have V2 := Lib.hid (HU2.out.span (T3.out.trans T4.out) (.inl (Nat.le_refl _)))
            have V3 := Lib.hid (HU3.out.span T4.out (.inl (Nat.le_refl _)))
            have V4 := Lib.hid HU4.out
            have SA := Lib.hid (HJ.out.span.trans (SE.out.trans S4.out))
            clear HU1 HU2 HU3 HU4 T1 T2 T3 T4 R1 R2 R3 R4 BR4 BP4 S0 S1 S2 S3 S4 SP BP
            go_wp2_with fail
            --T3A
            go_loopw [197] (fun q wr => ∃ k : Nat, k ≤ 24 ∧ q = .int .i64 k ∧ Span 0 0 v4 wr) (fun q _ => 24 - (intOf q).toNat)
            case atStart => exact ⟨0, by decide, rfl, Span.refl ..⟩
            case round =>
              obtain ⟨k, hk, rfl, hs⟩ := hrel
              have HS := Lib.hid hs
              by_cases hlt : k < 24
              · obtain ⟨⟨⟨f1, f2⟩, ⟨f3, f4⟩⟩, ⟨⟨m1, m2⟩, ⟨m3, m4⟩⟩, ⟨o1, o2⟩, ⟨o3, o4⟩⟩ := HL.out k
                obtain ⟨uk, huk⟩ : ∃ t, t = outS ds fa xf 5 k := ⟨_, rfl⟩
                obtain ⟨vk, hvk⟩ : ∃ t, t = outS ds fa yf 5 k := ⟨_, rfl⟩
                obtain ⟨wk, hwk⟩ : ∃ t, t = outS ds fa bf 5 k := ⟨_, rfl⟩
                obtain ⟨tk, htk⟩ : ∃ t, t = outS ds fa tf 5 k := ⟨_, rfl⟩
                have hg : ∀ (f : Nat → Cx) (g : Nat), HasS cxV true g g (g + 1) v4 (.slice (some ⟨g, 0, none⟩) 24 24) ((List.range 24).map (outS ds fa f 5)) → ∀ w', Span 0 0 wr w' → w'.cell? ⟨g, k, none⟩ = some (cxV (outS ds fa f 5 k)) := fun f g h w' s => by
                  have h2 := (h.span (HS.out.trans s) (.inl (Nat.le_refl _))).atJ (range_get (outS ds fa f 5) hlt)
                  rwa [Nat.zero_add] at h2
                have CF : Hid (∀ w', Span 0 0 wr w' → w'.cell? ⟨gu, k, none⟩ = some (.complex .f32 uk.1 uk.2) ∧ w'.cell? ⟨gv, k, none⟩ = some (.complex .f32 vk.1 vk.2) ∧ w'.cell? ⟨gw, k, none⟩ = some (.complex .f32 wk.1 wk.2) ∧ w'.cell? ⟨gt, k, none⟩ = some (.complex .f32 tk.1 tk.2)) := fun w' s => by
                  rw [huk, hvk, hwk, htk]
                  exact ⟨hg _ _ V1.out w' s, hg _ _ V2.out w' s, hg _ _ V3.out w' s, hg _ _ V4.out w' s⟩
                rw [← huk, ← hvk] at f1 f2 f3 f4 o1 o2
                rw [← hwk] at o1 o2
                rw [← huk] at m1 m2 m3 m4 o3 o4
                rw [← htk] at o3 o4
                obtain ⟨s1, hs1⟩ : ∃ t, t = fC .add .f32 uk.1 vk.1 := ⟨_, rfl⟩
                obtain ⟨s2, hs2⟩ : ∃ t, t = fC .add .f32 uk.2 vk.2 := ⟨_, rfl⟩
                obtain ⟨t1, ht1⟩ : ∃ t, t = fC .mul .f32 1073741824 uk.1 := ⟨_, rfl⟩
                obtain ⟨t2, ht2⟩ : ∃ t, t = fC .mul .f32 1073741824 uk.2 := ⟨_, rfl⟩
                rw [← hs1] at f1 o1
                rw [← hs2] at f3 o2
                rw [← ht1] at m1 o3
                rw [← ht2] at m3 o4
                have j1 : (0 : Int) ≤ (k : Int) := by omega
                have j2 : (k : Int) < 24 := by omega
                have HLT := Lib.hid hlt
                clear huk hvk hwk htk hs1 hs2 ht1 ht2 hg hs hk hlt
                go_upto_region 38 with fail
                --R38A
                refine wp_region_inv [200, 201, 202, 203, 204, 205, 206, 207, 208, 209, 210, 211, 212, 213, 214, 215, 216, 217, 218, 219, 220, 221, 222, 223, 224, 225, 226, 227, 228, 229, 230, 231, 232, 233, 234, 235, 236, 237, 238, 239, 240, 241, 242, 243, 244, 245, 246, 247] (ValI [200, 201, 202, 203, 204, 205, 206, 207, 208, 209, 210, 211, 212, 213, 214, 215, 216, 217, 218, 219, 220, 221, 222, 223, 224, 225, 226, 227, 228, 229, 230, 231, 232, 233, 234, 235, 236, 237, 238, 239, 240, 241, 242, 243, 244, 245, 246, 247] [some (.slice (some ⟨gw, 0, none⟩) 24 24), some (.int .i64 (k : Int)), some (.pointer (some ⟨gw, k, none⟩)), some (.complex .f32 wk.1 wk.2), some (.slice (some ⟨gu, 0, none⟩) 24 24), some (.int .i64 (k : Int)), some (.pointer (some ⟨gu, k, none⟩)), some (.complex .f32 uk.1 uk.2), some (.float .f32 uk.1), some (.slice (some ⟨gv, 0, none⟩) 24 24), some (.int .i64 (k : Int)), some (.pointer (some ⟨gv, k, none⟩)), some (.complex .f32 vk.1 vk.2), some (.float .f32 vk.1), some (.float .f32 s1), some (.slice (some ⟨gu, 0, none⟩) 24 24), some (.int .i64 (k : Int)), some (.pointer (some ⟨gu, k, none⟩)), some (.complex .f32 uk.1 uk.2), some (.float .f32 uk.2), some (.slice (some ⟨gv, 0, none⟩) 24 24), some (.int .i64 (k : Int)), some (.pointer (some ⟨gv, k, none⟩)), some (.complex .f32 vk.1 vk.2), some (.float .f32 vk.2), some (.float .f32 s2), some (.complex .f32 s1 s2), some (.bool false), some (.bool false), some (.slice (some ⟨gt, 0, none⟩) 24 24), some (.int .i64 (k : Int)), some (.pointer (some ⟨gt, k, none⟩)), some (.complex .f32 tk.1 tk.2), some (.slice (some ⟨gu, 0, none⟩) 24 24), some (.int .i64 (k : Int)), some (.pointer (some ⟨gu, k, none⟩)), some (.complex .f32 uk.1 uk.2), some (.float .f32 uk.1), some (.float .f32 t1), some (.slice (some ⟨gu, 0, none⟩) 24 24), some (.int .i64 (k : Int)), some (.pointer (some ⟨gu, k, none⟩)), some (.complex .f32 uk.1 uk.2), some (.float .f32 uk.2), some (.float .f32 t2), some (.complex .f32 t1 t2), some (.bool false), some (.bool false)] (fun w' => Span 0 0 wr w') 99 (fun _ _ => True)) (by kernel_rfl) (by kernel_rfl) (by kernel_rfl) (ValI.start (Span.refl 0 0 wr).drew) ?hstep ?hdone
                case hdone =>
                  rintro L u w' hL ⟨sp, hv, -⟩
                  have SPX := Lib.hid sp
                  have h2 := hv 47 247 _ rfl rfl (hL 47 (by decide))
                  clear hv hL sp
                  refine norm_arg (puts_cons (by (simp only [Act.put, List.setIfInBounds_toArray, List.set_cons_zero, List.set_cons_succ]); rfl) (puts_cons (by (simp only [Act.put, List.setIfInBounds_toArray, List.set_cons_zero, List.set_cons_succ]); rfl) (puts_cons (by (simp only [Act.put, List.setIfInBounds_toArray, List.set_cons_zero, List.set_cons_succ]); rfl) (puts_cons (by (simp only [Act.put, List.setIfInBounds_toArray, List.set_cons_zero, List.set_cons_succ]); rfl) (puts_cons (by (simp only [Act.put, List.setIfInBounds_toArray, List.set_cons_zero, List.set_cons_succ]); rfl) (puts_cons (by (simp only [Act.put, List.setIfInBounds_toArray, List.set_cons_zero, List.set_cons_succ]); rfl) (puts_cons (by (simp only [Act.put, List.setIfInBounds_toArray, List.set_cons_zero, List.set_cons_succ]); rfl) (puts_cons (by (simp only [Act.put, List.setIfInBounds_toArray, List.set_cons_zero, List.set_cons_succ]); rfl) (puts_cons (by (simp only [Act.put, List.setIfInBounds_toArray, List.set_cons_zero, List.set_cons_succ]); rfl) (puts_cons (by (simp only [Act.put, List.setIfInBounds_toArray, List.set_cons_zero, List.set_cons_succ]); rfl) (puts_cons (by (simp only [Act.put, List.setIfInBounds_toArray, List.set_cons_zero, List.set_cons_succ]); rfl) (puts_cons (by (simp only [Act.put, List.setIfInBounds_toArray, List.set_cons_zero, List.set_cons_succ]); rfl) (puts_cons (by (simp only [Act.put, List.setIfInBounds_toArray, List.set_cons_zero, List.set_cons_succ]); rfl) (puts_cons (by (simp only [Act.put, List.setIfInBounds_toArray, List.set_cons_zero, List.set_cons_succ]); rfl) (puts_cons (by (simp only [Act.put, List.setIfInBounds_toArray, List.set_cons_zero, List.set_cons_succ]); rfl) (puts_cons (by (simp only [Act.put, List.setIfInBounds_toArray, List.set_cons_zero, List.set_cons_succ]); rfl) (puts_cons (by (simp only [Act.put, List.setIfInBounds_toArray, List.set_cons_zero, List.set_cons_succ]); rfl) (puts_cons (by (simp only [Act.put, List.setIfInBounds_toArray, List.set_cons_zero, List.set_cons_succ]); rfl) (puts_cons (by (simp only [Act.put, List.setIfInBounds_toArray, List.set_cons_zero, List.set_cons_succ]); rfl) (puts_cons (by (simp only [Act.put, List.setIfInBounds_toArray, List.set_cons_zero, List.set_cons_succ]); rfl) (puts_cons (by (simp only [Act.put, List.setIfInBounds_toArray, List.set_cons_zero, List.set_cons_succ]); rfl) (puts_cons (by (simp only [Act.put, List.setIfInBounds_toArray, List.set_cons_zero, List.set_cons_succ]); rfl) (puts_cons (by (simp only [Act.put, List.setIfInBounds_toArray, List.set_cons_zero, List.set_cons_succ]); rfl) (puts_cons (by (simp only [Act.put, List.setIfInBounds_toArray, List.set_cons_zero, List.set_cons_succ]); rfl) (puts_cons (by (simp only [Act.put, List.setIfInBounds_toArray, List.set_cons_zero, List.set_cons_succ]); rfl) (puts_cons (by (simp only [Act.put, List.setIfInBounds_toArray, List.set_cons_zero, List.set_cons_succ]); rfl) (puts_cons (by (simp only [Act.put, List.setIfInBounds_toArray, List.set_cons_zero, List.set_cons_succ]); rfl) (puts_cons (by (simp only [Act.put, List.setIfInBounds_toArray, List.set_cons_zero, List.set_cons_succ]); rfl) (puts_cons (by (simp only [Act.put, List.setIfInBounds_toArray, List.set_cons_zero, List.set_cons_succ]); rfl) (puts_cons (by (simp only [Act.put, List.setIfInBounds_toArray, List.set_cons_zero, List.set_cons_succ]); rfl) (puts_cons (by (simp only [Act.put, List.setIfInBounds_toArray, List.set_cons_zero, List.set_cons_succ]); rfl) (puts_cons (by (simp only [Act.put, List.setIfInBounds_toArray, List.set_cons_zero, List.set_cons_succ]); rfl) (puts_cons (by (simp only [Act.put, List.setIfInBounds_toArray, List.set_cons_zero, List.set_cons_succ]); rfl) (puts_cons (by (simp only [Act.put, List.setIfInBounds_toArray, List.set_cons_zero, List.set_cons_succ]); rfl) (puts_cons (by (simp only [Act.put, List.setIfInBounds_toArray, List.set_cons_zero, List.set_cons_succ]); rfl) (puts_cons (by (simp only [Act.put, List.setIfInBounds_toArray, List.set_cons_zero, List.set_cons_succ]); rfl) (puts_cons (by (simp only [Act.put, List.setIfInBounds_toArray, List.set_cons_zero, List.set_cons_succ]); rfl) (puts_cons (by (simp only [Act.put, List.setIfInBounds_toArray, List.set_cons_zero, List.set_cons_succ]); rfl) (puts_cons (by (simp only [Act.put, List.setIfInBounds_toArray, List.set_cons_zero, List.set_cons_succ]); rfl) (puts_cons (by (simp only [Act.put, List.setIfInBounds_toArray, List.set_cons_zero, List.set_cons_succ]); rfl) (puts_cons (by (simp only [Act.put, List.setIfInBounds_toArray, List.set_cons_zero, List.set_cons_succ]); rfl) (puts_cons (by (simp only [Act.put, List.setIfInBounds_toArray, List.set_cons_zero, List.set_cons_succ]); rfl) (puts_cons (by (simp only [Act.put, List.setIfInBounds_toArray, List.set_cons_zero, List.set_cons_succ]); rfl) (puts_cons (by (simp only [Act.put, List.setIfInBounds_toArray, List.set_cons_zero, List.set_cons_succ]); rfl) (puts_cons (by (simp only [Act.put, List.setIfInBounds_toArray, List.set_cons_zero, List.set_cons_succ]); rfl) (puts_cons (by (simp only [Act.put, List.setIfInBounds_toArray, List.set_cons_zero, List.set_cons_succ]); rfl) (puts_cons (by (simp only [Act.put, List.setIfInBounds_toArray, List.set_cons_zero, List.set_cons_succ]); rfl) (puts_cons (by (simp only [Act.put, List.setIfInBounds_toArray, List.set_cons_zero, List.set_cons_succ]); rfl) (puts_nil _ _))))))))))))))))))))))))))))))))))))))))))))))))) ?_
                  rw [h2]
                  clear h2
                  go_wp2_with fail
                  go_roundw
                  case rel => exact ⟨k + 1, HLT.out, by go_num, HS.out.trans SPX.out⟩
                  case measure => have := HLT.out; simp [intOf]; omega
                case hstep =>
                  rintro i o L u w' a' - ho hLi ha hI hag Q' K hK
                  have HK := Lib.hid hK
                  have HI := Lib.hid hI
                  obtain ⟨sp, hv, -⟩ := hI
                  have SPX := Lib.hid sp
                  have HV := Lib.hid hv
                  have HAG := Lib.hid hag
                  have hi : i < 48 := (Array.getElem?_eq_some_iff.1 ho).1
                  have hsn : Hid (List.Nodup [200, 201, 202, 203, 204, 205, 206, 207, 208, 209, 210, 211, 212, 213, 214, 215, 216, 217, 218, 219, 220, 221, 222, 223, 224, 225, 226, 227, 228, 229, 230, 231, 232, 233, 234, 235, 236, 237, 238, 239, 240, 241, 242, 243, 244, 245, 246, 247]) := (by decide : List.Nodup [200, 201, 202, 203, 204, 205, 206, 207, 208, 209, 210, 211, 212, 213, 214, 215, 216, 217, 218, 219, 220, 221, 222, 223, 224, 225, 226, 227, 228, 229, 230, 231, 232, 233, 234, 235, 236, 237, 238, 239, 240, 241, 242, 243, 244, 245, 246, 247])
                  clear hK sp hv
                  have t26 : a'.tmps[26]?.getD undef = .int .i64 (k : Int) := (hag.off (s := 26) (of_decide_eq_true (by kernel_rfl)) (by decide)).trans rfl
                  have t21 : a'.tmps[21]?.getD undef = .slice (some ⟨gw, 0, none⟩) 24 24 := (hag.off (s := 21) (of_decide_eq_true (by kernel_rfl)) (by decide)).trans rfl
                  have t15 : a'.tmps[15]?.getD undef = .slice (some ⟨gu, 0, none⟩) 24 24 := (hag.off (s := 15) (of_decide_eq_true (by kernel_rfl)) (by decide)).trans rfl
                  have t18 : a'.tmps[18]?.getD undef = .slice (some ⟨gv, 0, none⟩) 24 24 := (hag.off (s := 18) (of_decide_eq_true (by kernel_rfl)) (by decide)).trans rfl
                  have t24 : a'.tmps[24]?.getD undef = .slice (some ⟨gt, 0, none⟩) 24 24 := (hag.off (s := 24) (of_decide_eq_true (by kernel_rfl)) (by decide)).trans rfl
                  clear hag
                  rcases (show i = 0 ∨ i = 1 ∨ i = 2 ∨ i = 3 ∨ i = 4 ∨ i = 5 ∨ i = 6 ∨ i = 7 ∨ i = 8 ∨ i = 9 ∨ i = 10 ∨ i = 11 ∨ i = 12 ∨ i = 13 ∨ i = 14 ∨ i = 15 ∨ i = 16 ∨ i = 17 ∨ i = 18 ∨ i = 19 ∨ i = 20 ∨ i = 21 ∨ i = 22 ∨ i = 23 ∨ i = 24 ∨ i = 25 ∨ i = 26 ∨ i = 27 ∨ i = 28 ∨ i = 29 ∨ i = 30 ∨ i = 31 ∨ i = 32 ∨ i = 33 ∨ i = 34 ∨ i = 35 ∨ i = 36 ∨ i = 37 ∨ i = 38 ∨ i = 39 ∨ i = 40 ∨ i = 41 ∨ i = 42 ∨ i = 43 ∨ i = 44 ∨ i = 45 ∨ i = 46 ∨ i = 47 by omega) with rfl | rfl | rfl | rfl | rfl | rfl | rfl | rfl | rfl | rfl | rfl | rfl | rfl | rfl | rfl | rfl | rfl | rfl | rfl | rfl | rfl | rfl | rfl | rfl | rfl | rfl | rfl | rfl | rfl | rfl | rfl | rfl | rfl | rfl | rfl | rfl | rfl | rfl | rfl | rfl | rfl | rfl | rfl | rfl | rfl | rfl | rfl | rfl
                  all_goals
                    simp only [List.getElem?_toArray, List.getElem?_cons_zero, List.getElem?_cons_succ, Option.some.injEq] at ho
                    subst ho
                    simp [Region.binds] at ha
                  · clear ha
                    go_simp
                    exact HK.out _ _ (HI.out.val hsn.out 0 200 _ rfl rfl (by decide) SPX.out (fun _ h => h))
                  · clear ha
                    go_simp
                    exact HK.out _ _ (HI.out.val hsn.out 1 201 _ rfl rfl (by decide) SPX.out (fun _ h => h))
                  · have f200 := (HAG.out.at_ (s := 200) (of_decide_eq_true (by kernel_rfl)) (by decide)).trans (HV.out 0 200 _ rfl rfl (by simp [ha]))
                    have f201 := (HAG.out.at_ (s := 201) (of_decide_eq_true (by kernel_rfl)) (by decide)).trans (HV.out 1 201 _ rfl rfl (by simp [ha]))
                    clear ha
                    go_simp
                    exact HK.out _ _ (HI.out.val hsn.out 2 202 _ rfl rfl (by decide) SPX.out (fun _ h => h))
                  · have f202 := (HAG.out.at_ (s := 202) (of_decide_eq_true (by kernel_rfl)) (by decide)).trans (HV.out 2 202 _ rfl rfl (by simp [ha]))
                    obtain ⟨e0, e1, e2, e3⟩ := CF.out _ SPX.out
                    clear ha
                    go_simp
                    exact HK.out _ _ (HI.out.val hsn.out 3 203 _ rfl rfl (by decide) SPX.out (fun _ h => h))
                  · clear ha
                    go_simp
                    exact HK.out _ _ (HI.out.val hsn.out 4 204 _ rfl rfl (by decide) SPX.out (fun _ h => h))
                  · clear ha
                    go_simp
                    exact HK.out _ _ (HI.out.val hsn.out 5 205 _ rfl rfl (by decide) SPX.out (fun _ h => h))
                  · have f204 := (HAG.out.at_ (s := 204) (of_decide_eq_true (by kernel_rfl)) (by decide)).trans (HV.out 4 204 _ rfl rfl (by simp [ha]))
                    have f205 := (HAG.out.at_ (s := 205) (of_decide_eq_true (by kernel_rfl)) (by decide)).trans (HV.out 5 205 _ rfl rfl (by simp [ha]))
                    clear ha
                    go_simp
                    exact HK.out _ _ (HI.out.val hsn.out 6 206 _ rfl rfl (by decide) SPX.out (fun _ h => h))
                  · have f206 := (HAG.out.at_ (s := 206) (of_decide_eq_true (by kernel_rfl)) (by decide)).trans (HV.out 6 206 _ rfl rfl (by simp [ha]))
                    obtain ⟨e0, e1, e2, e3⟩ := CF.out _ SPX.out
                    clear ha
                    go_simp
                    exact HK.out _ _ (HI.out.val hsn.out 7 207 _ rfl rfl (by decide) SPX.out (fun _ h => h))
                  · have f207 := (HAG.out.at_ (s := 207) (of_decide_eq_true (by kernel_rfl)) (by decide)).trans (HV.out 7 207 _ rfl rfl (by simp [ha]))
                    clear ha
                    go_simp
                    exact HK.out _ _ (HI.out.val hsn.out 8 208 _ rfl rfl (by decide) SPX.out (fun _ h => h))
                  · clear ha
                    go_simp
                    exact HK.out _ _ (HI.out.val hsn.out 9 209 _ rfl rfl (by decide) SPX.out (fun _ h => h))
                  · clear ha
                    go_simp
                    exact HK.out _ _ (HI.out.val hsn.out 10 210 _ rfl rfl (by decide) SPX.out (fun _ h => h))
                  · have f209 := (HAG.out.at_ (s := 209) (of_decide_eq_true (by kernel_rfl)) (by decide)).trans (HV.out 9 209 _ rfl rfl (by simp [ha]))
                    have f210 := (HAG.out.at_ (s := 210) (of_decide_eq_true (by kernel_rfl)) (by decide)).trans (HV.out 10 210 _ rfl rfl (by simp [ha]))
                    clear ha
                    go_simp
                    exact HK.out _ _ (HI.out.val hsn.out 11 211 _ rfl rfl (by decide) SPX.out (fun _ h => h))
                  · have f211 := (HAG.out.at_ (s := 211) (of_decide_eq_true (by kernel_rfl)) (by decide)).trans (HV.out 11 211 _ rfl rfl (by simp [ha]))
                    obtain ⟨e0, e1, e2, e3⟩ := CF.out _ SPX.out
                    clear ha
                    go_simp
                    exact HK.out _ _ (HI.out.val hsn.out 12 212 _ rfl rfl (by decide) SPX.out (fun _ h => h))
                  · have f212 := (HAG.out.at_ (s := 212) (of_decide_eq_true (by kernel_rfl)) (by decide)).trans (HV.out 12 212 _ rfl rfl (by simp [ha]))
                    clear ha
                    go_simp
                    exact HK.out _ _ (HI.out.val hsn.out 13 213 _ rfl rfl (by decide) SPX.out (fun _ h => h))
                  · have f208 := (HAG.out.at_ (s := 208) (of_decide_eq_true (by kernel_rfl)) (by decide)).trans (HV.out 8 208 _ rfl rfl (by simp [ha]))
                    have f213 := (HAG.out.at_ (s := 213) (of_decide_eq_true (by kernel_rfl)) (by decide)).trans (HV.out 13 213 _ rfl rfl (by simp [ha]))
                    clear ha
                    go_simp
                    exact HK.out _ _ (HI.out.val hsn.out 14 214 _ rfl rfl (by decide) SPX.out (fun _ h => h))
                  · clear ha
                    go_simp
                    exact HK.out _ _ (HI.out.val hsn.out 15 215 _ rfl rfl (by decide) SPX.out (fun _ h => h))
                  · clear ha
                    go_simp
                    exact HK.out _ _ (HI.out.val hsn.out 16 216 _ rfl rfl (by decide) SPX.out (fun _ h => h))
                  · have f215 := (HAG.out.at_ (s := 215) (of_decide_eq_true (by kernel_rfl)) (by decide)).trans (HV.out 15 215 _ rfl rfl (by simp [ha]))
                    have f216 := (HAG.out.at_ (s := 216) (of_decide_eq_true (by kernel_rfl)) (by decide)).trans (HV.out 16 216 _ rfl rfl (by simp [ha]))
                    clear ha
                    go_simp
                    exact HK.out _ _ (HI.out.val hsn.out 17 217 _ rfl rfl (by decide) SPX.out (fun _ h => h))
                  · have f217 := (HAG.out.at_ (s := 217) (of_decide_eq_true (by kernel_rfl)) (by decide)).trans (HV.out 17 217 _ rfl rfl (by simp [ha]))
                    obtain ⟨e0, e1, e2, e3⟩ := CF.out _ SPX.out
                    clear ha
                    go_simp
                    exact HK.out _ _ (HI.out.val hsn.out 18 218 _ rfl rfl (by decide) SPX.out (fun _ h => h))
                  · have f218 := (HAG.out.at_ (s := 218) (of_decide_eq_true (by kernel_rfl)) (by decide)).trans (HV.out 18 218 _ rfl rfl (by simp [ha]))
                    clear ha
                    go_simp
                    exact HK.out _ _ (HI.out.val hsn.out 19 219 _ rfl rfl (by decide) SPX.out (fun _ h => h))
                  · clear ha
                    go_simp
                    exact HK.out _ _ (HI.out.val hsn.out 20 220 _ rfl rfl (by decide) SPX.out (fun _ h => h))
                  · clear ha
                    go_simp
                    exact HK.out _ _ (HI.out.val hsn.out 21 221 _ rfl rfl (by decide) SPX.out (fun _ h => h))
                  · have f220 := (HAG.out.at_ (s := 220) (of_decide_eq_true (by kernel_rfl)) (by decide)).trans (HV.out 20 220 _ rfl rfl (by simp [ha]))
                    have f221 := (HAG.out.at_ (s := 221) (of_decide_eq_true (by kernel_rfl)) (by decide)).trans (HV.out 21 221 _ rfl rfl (by simp [ha]))
                    clear ha
                    go_simp
                    exact HK.out _ _ (HI.out.val hsn.out 22 222 _ rfl rfl (by decide) SPX.out (fun _ h => h))
                  · have f222 := (HAG.out.at_ (s := 222) (of_decide_eq_true (by kernel_rfl)) (by decide)).trans (HV.out 22 222 _ rfl rfl (by simp [ha]))
                    obtain ⟨e0, e1, e2, e3⟩ := CF.out _ SPX.out
                    clear ha
                    go_simp
                    exact HK.out _ _ (HI.out.val hsn.out 23 223 _ rfl rfl (by decide) SPX.out (fun _ h => h))
                  · have f223 := (HAG.out.at_ (s := 223) (of_decide_eq_true (by kernel_rfl)) (by decide)).trans (HV.out 23 223 _ rfl rfl (by simp [ha]))
                    clear ha
                    go_simp
                    exact HK.out _ _ (HI.out.val hsn.out 24 224 _ rfl rfl (by decide) SPX.out (fun _ h => h))
                  · have f219 := (HAG.out.at_ (s := 219) (of_decide_eq_true (by kernel_rfl)) (by decide)).trans (HV.out 19 219 _ rfl rfl (by simp [ha]))
                    have f224 := (HAG.out.at_ (s := 224) (of_decide_eq_true (by kernel_rfl)) (by decide)).trans (HV.out 24 224 _ rfl rfl (by simp [ha]))
                    clear ha
                    go_simp
                    exact HK.out _ _ (HI.out.val hsn.out 25 225 _ rfl rfl (by decide) SPX.out (fun _ h => h))
                  · have f214 := (HAG.out.at_ (s := 214) (of_decide_eq_true (by kernel_rfl)) (by decide)).trans (HV.out 14 214 _ rfl rfl (by simp [ha]))
                    have f225 := (HAG.out.at_ (s := 225) (of_decide_eq_true (by kernel_rfl)) (by decide)).trans (HV.out 25 225 _ rfl rfl (by simp [ha]))
                    clear ha
                    go_simp
                    exact HK.out _ _ (HI.out.val hsn.out 26 226 _ rfl rfl (by decide) SPX.out (fun _ h => h))
                  · have f203 := (HAG.out.at_ (s := 203) (of_decide_eq_true (by kernel_rfl)) (by decide)).trans (HV.out 3 203 _ rfl rfl (by simp [ha]))
                    have f226 := (HAG.out.at_ (s := 226) (of_decide_eq_true (by kernel_rfl)) (by decide)).trans (HV.out 26 226 _ rfl rfl (by simp [ha]))
                    clear ha
                    go_simp
                    exact HK.out _ _ (HI.out.val hsn.out 27 227 _ rfl rfl (by decide) SPX.out (fun _ h => h))
                  · have f227 := (HAG.out.at_ (s := 227) (of_decide_eq_true (by kernel_rfl)) (by decide)).trans (HV.out 27 227 _ rfl rfl (by simp [ha]))
                    clear ha
                    go_simp
                    exact HK.out _ _ (HI.out.val hsn.out 28 228 _ rfl rfl (by decide) SPX.out (fun _ h => h))
                  · have g228 := (HAG.out.get (s := 228) (of_decide_eq_true (by kernel_rfl)) (by decide)).trans (congrArg some (HV.out 28 228 _ rfl rfl (by simp [ha])))
                    clear ha
                    go_simp
                    exact HK.out _ _ (HI.out.val hsn.out 29 229 _ rfl rfl (by decide) SPX.out (fun _ h => h))
                  · have g228 := (HAG.out.get (s := 228) (of_decide_eq_true (by kernel_rfl)) (by decide)).trans (congrArg some (HV.out 28 228 _ rfl rfl (by simp [ha])))
                    clear ha
                    go_simp
                    exact HK.out _ _ (HI.out.val hsn.out 30 230 _ rfl rfl (by decide) SPX.out (fun _ h => h))
                  · have f229 := (HAG.out.at_ (s := 229) (of_decide_eq_true (by kernel_rfl)) (by decide)).trans (HV.out 29 229 _ rfl rfl (by simp [ha]))
                    have f230 := (HAG.out.at_ (s := 230) (of_decide_eq_true (by kernel_rfl)) (by decide)).trans (HV.out 30 230 _ rfl rfl (by simp [ha]))
                    have g228 := (HAG.out.get (s := 228) (of_decide_eq_true (by kernel_rfl)) (by decide)).trans (congrArg some (HV.out 28 228 _ rfl rfl (by simp [ha])))
                    clear ha
                    go_simp
                    exact HK.out _ _ (HI.out.val hsn.out 31 231 _ rfl rfl (by decide) SPX.out (fun _ h => h))
                  · have f231 := (HAG.out.at_ (s := 231) (of_decide_eq_true (by kernel_rfl)) (by decide)).trans (HV.out 31 231 _ rfl rfl (by simp [ha]))
                    have g228 := (HAG.out.get (s := 228) (of_decide_eq_true (by kernel_rfl)) (by decide)).trans (congrArg some (HV.out 28 228 _ rfl rfl (by simp [ha])))
                    obtain ⟨e0, e1, e2, e3⟩ := CF.out _ SPX.out
                    clear ha
                    go_simp
                    exact HK.out _ _ (HI.out.val hsn.out 32 232 _ rfl rfl (by decide) SPX.out (fun _ h => h))
                  · have g228 := (HAG.out.get (s := 228) (of_decide_eq_true (by kernel_rfl)) (by decide)).trans (congrArg some (HV.out 28 228 _ rfl rfl (by simp [ha])))
                    clear ha
                    go_simp
                    exact HK.out _ _ (HI.out.val hsn.out 33 233 _ rfl rfl (by decide) SPX.out (fun _ h => h))
                  · have g228 := (HAG.out.get (s := 228) (of_decide_eq_true (by kernel_rfl)) (by decide)).trans (congrArg some (HV.out 28 228 _ rfl rfl (by simp [ha])))
                    clear ha
                    go_simp
                    exact HK.out _ _ (HI.out.val hsn.out 34 234 _ rfl rfl (by decide) SPX.out (fun _ h => h))
                  · have f233 := (HAG.out.at_ (s := 233) (of_decide_eq_true (by kernel_rfl)) (by decide)).trans (HV.out 33 233 _ rfl rfl (by simp [ha]))
                    have f234 := (HAG.out.at_ (s := 234) (of_decide_eq_true (by kernel_rfl)) (by decide)).trans (HV.out 34 234 _ rfl rfl (by simp [ha]))
                    have g228 := (HAG.out.get (s := 228) (of_decide_eq_true (by kernel_rfl)) (by decide)).trans (congrArg some (HV.out 28 228 _ rfl rfl (by simp [ha])))
                    clear ha
                    go_simp
                    exact HK.out _ _ (HI.out.val hsn.out 35 235 _ rfl rfl (by decide) SPX.out (fun _ h => h))
                  · have f235 := (HAG.out.at_ (s := 235) (of_decide_eq_true (by kernel_rfl)) (by decide)).trans (HV.out 35 235 _ rfl rfl (by simp [ha]))
                    have g228 := (HAG.out.get (s := 228) (of_decide_eq_true (by kernel_rfl)) (by decide)).trans (congrArg some (HV.out 28 228 _ rfl rfl (by simp [ha])))
                    obtain ⟨e0, e1, e2, e3⟩ := CF.out _ SPX.out
                    clear ha
                    go_simp
                    exact HK.out _ _ (HI.out.val hsn.out 36 236 _ rfl rfl (by decide) SPX.out (fun _ h => h))
                  · have f236 := (HAG.out.at_ (s := 236) (of_decide_eq_true (by kernel_rfl)) (by decide)).trans (HV.out 36 236 _ rfl rfl (by simp [ha]))
                    have g228 := (HAG.out.get (s := 228) (of_decide_eq_true (by kernel_rfl)) (by decide)).trans (congrArg some (HV.out 28 228 _ rfl rfl (by simp [ha])))
                    clear ha
                    go_simp
                    exact HK.out _ _ (HI.out.val hsn.out 37 237 _ rfl rfl (by decide) SPX.out (fun _ h => h))
                  · have f237 := (HAG.out.at_ (s := 237) (of_decide_eq_true (by kernel_rfl)) (by decide)).trans (HV.out 37 237 _ rfl rfl (by simp [ha]))
                    have g228 := (HAG.out.get (s := 228) (of_decide_eq_true (by kernel_rfl)) (by decide)).trans (congrArg some (HV.out 28 228 _ rfl rfl (by simp [ha])))
                    clear ha
                    go_simp
                    exact HK.out _ _ (HI.out.val hsn.out 38 238 _ rfl rfl (by decide) SPX.out (fun _ h => h))
                  · have g228 := (HAG.out.get (s := 228) (of_decide_eq_true (by kernel_rfl)) (by decide)).trans (congrArg some (HV.out 28 228 _ rfl rfl (by simp [ha])))
                    clear ha
                    go_simp
                    exact HK.out _ _ (HI.out.val hsn.out 39 239 _ rfl rfl (by decide) SPX.out (fun _ h => h))
                  · have g228 := (HAG.out.get (s := 228) (of_decide_eq_true (by kernel_rfl)) (by decide)).trans (congrArg some (HV.out 28 228 _ rfl rfl (by simp [ha])))
                    clear ha
                    go_simp
                    exact HK.out _ _ (HI.out.val hsn.out 40 240 _ rfl rfl (by decide) SPX.out (fun _ h => h))
                  · have f239 := (HAG.out.at_ (s := 239) (of_decide_eq_true (by kernel_rfl)) (by decide)).trans (HV.out 39 239 _ rfl rfl (by simp [ha]))
                    have f240 := (HAG.out.at_ (s := 240) (of_decide_eq_true (by kernel_rfl)) (by decide)).trans (HV.out 40 240 _ rfl rfl (by simp [ha]))
                    have g228 := (HAG.out.get (s := 228) (of_decide_eq_true (by kernel_rfl)) (by decide)).trans (congrArg some (HV.out 28 228 _ rfl rfl (by simp [ha])))
                    clear ha
                    go_simp
                    exact HK.out _ _ (HI.out.val hsn.out 41 241 _ rfl rfl (by decide) SPX.out (fun _ h => h))
                  · have f241 := (HAG.out.at_ (s := 241) (of_decide_eq_true (by kernel_rfl)) (by decide)).trans (HV.out 41 241 _ rfl rfl (by simp [ha]))
                    have g228 := (HAG.out.get (s := 228) (of_decide_eq_true (by kernel_rfl)) (by decide)).trans (congrArg some (HV.out 28 228 _ rfl rfl (by simp [ha])))
                    obtain ⟨e0, e1, e2, e3⟩ := CF.out _ SPX.out
                    clear ha
                    go_simp
                    exact HK.out _ _ (HI.out.val hsn.out 42 242 _ rfl rfl (by decide) SPX.out (fun _ h => h))
                  · have f242 := (HAG.out.at_ (s := 242) (of_decide_eq_true (by kernel_rfl)) (by decide)).trans (HV.out 42 242 _ rfl rfl (by simp [ha]))
                    have g228 := (HAG.out.get (s := 228) (of_decide_eq_true (by kernel_rfl)) (by decide)).trans (congrArg some (HV.out 28 228 _ rfl rfl (by simp [ha])))
                    clear ha
                    go_simp
                    exact HK.out _ _ (HI.out.val hsn.out 43 243 _ rfl rfl (by decide) SPX.out (fun _ h => h))
                  · have f243 := (HAG.out.at_ (s := 243) (of_decide_eq_true (by kernel_rfl)) (by decide)).trans (HV.out 43 243 _ rfl rfl (by simp [ha]))
                    have g228 := (HAG.out.get (s := 228) (of_decide_eq_true (by kernel_rfl)) (by decide)).trans (congrArg some (HV.out 28 228 _ rfl rfl (by simp [ha])))
                    clear ha
                    go_simp
                    exact HK.out _ _ (HI.out.val hsn.out 44 244 _ rfl rfl (by decide) SPX.out (fun _ h => h))
                  · have f238 := (HAG.out.at_ (s := 238) (of_decide_eq_true (by kernel_rfl)) (by decide)).trans (HV.out 38 238 _ rfl rfl (by simp [ha]))
                    have f244 := (HAG.out.at_ (s := 244) (of_decide_eq_true (by kernel_rfl)) (by decide)).trans (HV.out 44 244 _ rfl rfl (by simp [ha]))
                    have g228 := (HAG.out.get (s := 228) (of_decide_eq_true (by kernel_rfl)) (by decide)).trans (congrArg some (HV.out 28 228 _ rfl rfl (by simp [ha])))
                    clear ha
                    go_simp
                    exact HK.out _ _ (HI.out.val hsn.out 45 245 _ rfl rfl (by decide) SPX.out (fun _ h => h))
                  · have f232 := (HAG.out.at_ (s := 232) (of_decide_eq_true (by kernel_rfl)) (by decide)).trans (HV.out 32 232 _ rfl rfl (by simp [ha]))
                    have f245 := (HAG.out.at_ (s := 245) (of_decide_eq_true (by kernel_rfl)) (by decide)).trans (HV.out 45 245 _ rfl rfl (by simp [ha]))
                    have g228 := (HAG.out.get (s := 228) (of_decide_eq_true (by kernel_rfl)) (by decide)).trans (congrArg some (HV.out 28 228 _ rfl rfl (by simp [ha])))
                    clear ha
                    go_simp
                    exact HK.out _ _ (HI.out.val hsn.out 46 246 _ rfl rfl (by decide) SPX.out (fun _ h => h))
                  · have f228 := (HAG.out.at_ (s := 228) (of_decide_eq_true (by kernel_rfl)) (by decide)).trans (HV.out 28 228 _ rfl rfl (by simp [ha]))
                    have f246 := (HAG.out.at_ (s := 246) (of_decide_eq_true (by kernel_rfl)) (by decide)).trans (HV.out 46 246 _ rfl rfl (by simp [ha]))
                    have g228 := (HAG.out.get (s := 228) (of_decide_eq_true (by kernel_rfl)) (by decide)).trans (congrArg some (HV.out 28 228 _ rfl rfl (by simp [ha])))
                    clear ha
                    go_simp
                    exact HK.out _ _ (HI.out.val hsn.out 47 247 _ rfl rfl (by decide) SPX.out (fun _ h => h))
                --R38B
              · have hk24 : k = 24 := by omega
                subst hk24
                clear hk hlt
                go_wp2_with fail
                go_ret
                exact ⟨rfl, Below.of_span1 (SA.out.trans hs)⟩
            --T3B
            --T2B
  · have hn' : (1048576 : Int) < (n : Int) := by omega
    go_enter Try.func5, Try.ntmps5
    go_wp2_with fail
    go_ret
    exact ⟨rfl, Below.refl _ _⟩
end Go.Proofs.Ytpiiflhdllpoiaa
