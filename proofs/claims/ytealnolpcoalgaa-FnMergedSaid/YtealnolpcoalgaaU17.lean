/- The program's MergeTables. -/
import Derived.Test.YtealnolpcoalgaaU16
namespace Go.Proofs.Ytealnolpcoalgaa
open Go.RowKit

set_option maxRecDepth 100000 in
set_option maxHeartbeats 4000000 in
theorem impl_mergeTables (a b : Tab) (oa ob : Bool) (la ha' lb' hb' : Nat) (va vb : Value) (w : World) (hxa : HasTab oa la ha' w va a) (hxb : HasTab ob lb' hb' w vb b) (hva : Valid a) (hvb : Valid b) (hsum : a.1.length + b.1.length ≤ 64) :
    Calls Try.prog 10 #[va, vb] w (GivesMerged a b w) := by
  obtain ⟨ip, hip, hzp, hsp, hbp⟩ := info_parts info_c64
  obtain ⟨il, hil, hzl, hsl, hbl⟩ := info_parts info_int
  obtain ⟨b1, b2, vP1, vL1, ea, hne1, g1, g2⟩ := id hxa
  obtain ⟨AP, cP, rfl, _, _⟩ := id g1
  obtain ⟨AL, cL, rfl, _, _⟩ := id g2
  subst ea
  obtain ⟨b4, b5, vP4, vL4, eb, hne4, g4, g5⟩ := id hxb
  obtain ⟨BP, cB, rfl, hcB, hB4⟩ := id g4
  obtain ⟨BL, cBL, rfl, hcBL, hB5⟩ := id g5
  subst eb
  obtain ⟨lp, hlp⟩ : ∃ n, n = a.1.length := ⟨_, rfl⟩
  have hll : lp = a.2.length := by rw [hva.len]; exact hlp
  obtain ⟨lb, hlb⟩ : ∃ n, n = b.1.length := ⟨_, rfl⟩
  have hlbl : lb = b.2.length := by rw [hvb.len]; exact hlb
  rw [← hll, ← hlp] at hxa
  rw [← hlp] at g1
  rw [← hlb] at hxb g4 hB4 hcB
  rw [← hlbl] at hxb g5 hB5 hcBL
  rw [← hlp] at hsum
  rw [← hlb] at hsum
  rw [← hll, ← hlp, ← hlb, ← hlbl]
  have HXA := Lib.hid hxa
  have HXB := Lib.hid hxb
  have HG4 := Lib.hid g4
  have HG1 := Lib.hid g1
  have HG5 := Lib.hid g5
  have HVA := Lib.hid hva
  have HVB := Lib.hid hvb
  have HLP := Lib.hid hlp
  have HLL := Lib.hid hll
  have HLB := Lib.hid hlb
  have HLBL := Lib.hid hlbl
  have HSM : Hid (lp + lb ≤ 64) := hsum
  clear hxa hxb g1 g2 g4 g5 hne1 hva hvb hlp hll hlb hlbl hcB hB4 hcBL hB5 hsum hne4
  have X0 := Lib.hid (((Box.new w (.slice AP lp cP) (.slice AL lp cL) 26).alloc (.cells #[.slice BP lb cB, .slice BL lb cBL] 26)).alloc (.cells #[.slice none 0 0, .slice none 0 0] 26))
  have X1 := Lib.hid ((Box.new (w.alloc (.cells #[.slice AP lp cP, .slice AL lp cL] 26)) (.slice BP lb cB) (.slice BL lb cBL) 26).alloc (.cells #[.slice none 0 0, .slice none 0 0] 26))
  have X2 := Lib.hid (Box.new ((w.alloc (.cells #[.slice AP lp cP, .slice AL lp cL] 26)).alloc (.cells #[.slice BP lb cB, .slice BL lb cBL] 26)) (.slice none 0 0) (.slice none 0 0) 26)
  rw [show (w.alloc (.cells #[.slice AP lp cP, .slice AL lp cL] 26)).heap.size = w.heap.size + 1 by simp] at X1
  rw [show ((w.alloc (.cells #[.slice AP lp cP, .slice AL lp cL] 26)).alloc (.cells #[.slice BP lb cB, .slice BL lb cBL] 26)).heap.size = w.heap.size + 1 + 1 by simp] at X2
  have HS := Lib.hid ((((Span.refl 0 0 w).alloc (.cells #[.slice AP lp cP, .slice AL lp cL] 26)).alloc (.cells #[.slice BP lb cB, .slice BL lb cBL] 26)).alloc (.cells #[.slice none 0 0, .slice none 0 0] 26))
  go_enter Try.func10, Try.ntmps10
  go_wp2_with fail
  refine (impl_isTable_true a oa _ _ _ _ (HXA.out.span HS.out (.inl (Nat.le_refl _))) HVA.out).mono ?_
  rintro _ w1 ⟨rfl, s1⟩
  have Y0 := Lib.hid (X0.out.span s1 (.inl (Nat.le_refl _)))
  have Y1 := Lib.hid (X1.out.span s1 (.inl (Nat.le_refl _)))
  have Y2 := Lib.hid (X2.out.span s1 (.inl (Nat.le_refl _)))
  have S1 := Lib.hid (s1.after HS.out)
  obtain ⟨_, x0, x1, _, _⟩ := Y1.out
  clear s1 X0 X1 X2 HS
  go_wp2_with fail
  refine (impl_isTable_true b ob _ _ _ _ (HXB.out.span S1.out (.inl (Nat.le_refl _))) HVB.out).mono ?_
  rintro _ w2 ⟨rfl, s2⟩
  have Z0 := Lib.hid (Y0.out.span s2 (.inl (Nat.le_refl _)))
  have Z1 := Lib.hid (Y1.out.span s2 (.inl (Nat.le_refl _)))
  have Z2 := Lib.hid (Y2.out.span s2 (.inl (Nat.le_refl _)))
  have S2 := Lib.hid (s2.after S1.out)
  clear s2 Y0 Y1 Y2 S1 x0 x1
  obtain ⟨_, x0, x1, _, _⟩ := Z0.out
  go_wp2_with fail
  refine (copyTable_own a oa _ _ _ _ (HXA.out.span S2.out (.inl (Nat.le_refl _))) HVA.out.len (by have := HVA.out.most; omega)).mono ?_
  rintro _ w3 ⟨A1, q1, A2, q2, rfl, hp, hl, s3⟩
  have HRB : Hid (w.heap.size + 1 + 1 < w2.heap.size) := Z2.out.1
  have s2' := s3.size
  rw [← HLP.out] at hp ⊢
  rw [← HLL.out] at hl ⊢
  have TP : Hid (Putting (w.heap.size + 1 + 1) w3.heap.size w2.heap.size w a.1 a.2 (.slice A1 lp q1) (.slice A2 lp q2) (w3.alloc (.cells #[.slice A1 lp q1, .slice A2 lp q2] 26))) := by
    refine ⟨heap_alloc_new _ _, (Z2.out.span s3 (.inl (Nat.le_refl _))).alloc _, ?_, ?_, (s3.after S2.out).alloc _, fun h => ?_, fun h => ?_, Nat.le_trans s3.size (by simp)⟩
    · rw [← HLP.out]; exact hp.alloc _
    · rw [← HLL.out]; exact hl.alloc _
    · have := (hp.lt _ h).2; omega
    · have := (hl.lt _ h).2; omega
  have W0 := Lib.hid ((Z0.out.span s3 (.inl (Nat.le_refl _))).alloc (.cells #[.slice A1 lp q1, .slice A2 lp q2] 26))
  have W1 := Lib.hid ((Z1.out.span s3 (.inl (Nat.le_refl _))).alloc (.cells #[.slice A1 lp q1, .slice A2 lp q2] 26))
  have HGB : Hid (w2.heap.size ≤ w3.heap.size) := s3.size
  have HG3 : Hid (w3.heap.size < (w3.alloc (.cells #[.slice A1 lp q1, .slice A2 lp q2] 26)).heap.size) := by unfold Hid; simp
  clear s3 hp hl s2' Z0 Z1 Z2 x0 x1
  obtain ⟨_, x0, x1, _, _⟩ := W0.out
  go_wp2_with fail
  refine (placesOf_any a.1 oa b1 _ _ _ _ (HG1.out.span TP.out.s (.inl (Nat.le_refl _))) HVA.out.most HVA.out.apart).mono ?_
  rintro _ w4 ⟨r, rfl, hr0, hr1, s4⟩
  have HM0 : Hid (Mrg (w.heap.size + 1) (w.heap.size + 1 + 1) w3.heap.size r w2.heap.size w (.slice BP lb cB) (.slice BL lb cBL) a.1 a.1 a.2 (.slice A1 a.1.length q1) (.slice A2 a.2.length q2) w4) := by
    rw [← HLP.out, ← HLL.out]
    refine ⟨TP.out.span s4, W1.out.span s4 (.inl (Nat.le_refl _)), hr1, fun h => ?_, fun h => ?_⟩
    · have := (TP.out.p.lt _ h).2; omega
    · have := (TP.out.l.lt _ h).2; omega
  have HRG : Hid (r ≠ w3.heap.size) := by have := HG3.out; unfold Hid; omega
  obtain ⟨_, y0, y1, _, _⟩ := HM0.out.bx
  have HRR : Hid (w.heap.size + 1 + 1 < w2.heap.size ∧ w2.heap.size ≤ w3.heap.size) := ⟨HRB.out, HGB.out⟩
  clear s4 hr0 hr1 W0 W1 TP HGB HG3 HRB x0 x1 S2
  go_wp2_with fail
  clear y0 y1
  go_loopw [29] (fun c wr => MrgLoop (w.heap.size + 1) (w.heap.size + 1 + 1) w3.heap.size r w2.heap.size w (.slice BP lb cB) (.slice BL lb cBL) a b c wr) (fun c _ => lb - (intOf c).toNat)
  case atStart => exact ⟨0, a, A1, q1, A2, q2, Nat.zero_le _, rfl, Merged.zero b HVA.out, HM0.out⟩
  case round =>
    clear HM0
    obtain ⟨k, M, A7, m7, A8, m8, hk, rfl, hM, hR⟩ := hrel
    rw [← HLB.out] at hk
    obtain ⟨m1, hm1⟩ : ∃ m, m = M.1.length := ⟨_, rfl⟩
    have hm2 : m1 = M.2.length := by rw [hM.valid.len]; exact hm1
    rw [← hm1, ← hm2] at hR
    have HMG := Lib.hid hM
    have HMr := Lib.hid hR
    have HM1 := Lib.hid hm1
    have HM2 := Lib.hid hm2
    clear hM hR hm1 hm2
    by_cases hlt : k < lb
    · have HKL : Hid (k < lb) := hlt
      have HWR : Hid (wrap64 ((k : Int) + 1) = ((k + 1 : Nat) : Int)) := by
        have := HSM.out
        unfold Hid
        rw [IntWalk.wrap64_in _ (by omega)]; omega
      have HMS : Hid (lb - (k + 1) < lb - k) := by unfold Hid; omega
      have HK1 : Hid (k + 1 ≤ b.1.length) := by unfold Hid; rw [← HLB.out]; exact hlt
      obtain ⟨z, hz⟩ := getElem?_some (xs := b.1) (j := k) (by rw [← HLB.out]; exact hlt)
      obtain ⟨n, hn⟩ := getElem?_some (xs := b.2) (j := k) (by rw [← HLBL.out]; exact hlt)
      obtain ⟨M', -, hM', hsome, hnone⟩ := HMG.out.step HVB.out (by rw [← HLP.out, ← HLB.out]; exact HSM.out) hz hn
      have HM' := Lib.hid hM'
      have HBN := Lib.hid hn
      have HSO := Lib.hid hsome
      have HNO := Lib.hid hnone
      have HFZ := Lib.hid (HVB.out.fin z (List.mem_of_getElem? hz))
      have HML : Hid (lp ≤ m1 ∧ m1 ≤ lp + k) := by unfold Hid; rw [HLP.out, HM1.out]; exact HMG.out.len
      obtain ⟨_, _, e3, _, hB4⟩ := HG4.out.span HMr.out.put.s (.inl (Nat.le_refl _))
      injection e3 with e3 el eq
      clear el eq
      subst e3
      obtain ⟨off4, rfl, _, _, _, hc4, _⟩ := hB4 (by rw [← HLB.out]; omega)
      have ck : wr.cell? ⟨b4, off4 + k, none⟩ = some (.complex .f32 z.1 z.2) := hc4 k z hz
      obtain ⟨_, _, e3, _, hB5⟩ := HG5.out.span HMr.out.put.s (.inl (Nat.le_refl _))
      injection e3 with e3 el eq
      clear el eq
      subst e3
      obtain ⟨off5, rfl, _, _, _, hc5, _⟩ := hB5 (by rw [← HLBL.out]; omega)
      have HB5 : Hid (b5 < w.heap.size) := by
        obtain ⟨_, _, _, _, h5⟩ := HG5.out
        obtain ⟨_, _, _, _, h6, _⟩ := h5 (by rw [← HLBL.out]; omega)
        exact h6
      have nk : wr.cell? ⟨b5, off5 + k, none⟩ = some (intV n) := hc5 k n hn
      clear hc4 hc5 hB4 hB5 hz hn hM' hsome hnone
      obtain ⟨z1, z2⟩ := z
      simp only at ck
      have hlk := run_lookup_cx (P := Try.prog) wr Try.underlying63 Try.underlying31 Try.zeroValue3 HMr.out.mp (z1, z2) (fun p hp => eqC_sym (HVA.out.fin p hp) HFZ.out)
      obtain ⟨c0, c1, _⟩ := HMr.out.put.cells
      obtain ⟨_, t0, t1, _, _⟩ := HMr.out.bx
      have k0 : (0 : Int) ≤ (k : Int) := by omega
      have k1 : (k : Int) < (lb : Int) := by omega
      cases ha : atC a.1 (z1, z2) with
      | some i =>
        rw [ha] at hlk
        simp only [Option.getD, Option.isSome] at hlk
        have hi : i < m1 := by have := atC_lt ha; rw [← HLP.out] at this; have := HML.out; omega
        have HE := Lib.hid (HSO.out i ha)
        have hR := HMr.out
        obtain ⟨g2, cap2, hv, -, -⟩ := hR.put.l.form (by rw [← HM2.out]; omega)
        injection hv with e1 e2 e3
        clear e2
        subst e1 e3
        rw [HM2.out] at hR
        have HTR := hR.relabel (i := i) (by omega) HRR.out.1 (by omega) n
        have dl : wr.cell? ⟨g2, i, none⟩ = some (intV ((M.2[i]?).getD 0)) := by
          rw [hR.put.l.cellAt i (by rw [← HM2.out]; omega), List.getElem?_map]
          obtain ⟨x, hx⟩ := getElem?_some (xs := M.2) (j := i) (by rw [← HM2.out]; exact hi)
          rw [hx]; rfl
        have df := hR.put.l.frozenAt i
        rw [← HM2.out] at HTR
        have HTR := Lib.hid HTR
        have hge := (hR.put.l.lt g2 rfl).1
        have pk : (wr.setCell ⟨g2, i, none⟩ (intV n)).cell? ⟨b5, off5 + k, none⟩ = some (intV n) := by
          have := HB5.out
          have := HRR.out
          exact (World.cell?_of_block (w := wr) (a := ⟨b5, off5 + k, none⟩) (Below.heap_setCell _ _ _ _ (by simp only; omega))).trans nk
        obtain ⟨_, j1, _⟩ := HTR.out.put.cells
        obtain ⟨_, _, u1, _, _⟩ := HTR.out.bx
        clear hge
        have i0 : (0 : Int) ≤ (i : Int) := by omega
        have i1 : (i : Int) < (m1 : Int) := by omega
        clear hR ha hi
        have HLen : Hid ((M.2.set i n).length = m1) := by unfold Hid; rw [List.length_set]; exact HM2.out.symm
        unfold intV at dl nk HTR pk j1 u1
        go_wp2_with fail
        go_region_held3 (fun w' => w'.cell? ⟨w3.heap.size, 1, none⟩ = some (.slice (some ⟨g2, 0, none⟩) m1 m8) ∧ w'.cell? ⟨w.heap.size + 1, 1, none⟩ = some (.slice (some ⟨b5, off5, none⟩) lb cBL) ∧ w'.cell? ⟨b5, off5 + k, none⟩ = some (.int .i64 n))
          (first
            | exact ⟨c1, t1, nk⟩
            | exact ⟨j1, u1, pk⟩)
          ((fail))
        all_goals
          clear hlk c0 c1 t0 t1 ck nk dl df pk j1 u1
          go_wp2_with fail
          go_roundw
          case rel =>
            refine ⟨k + 1, (M.1, M.2.set i n), A7, m7, some ⟨g2, 0, none⟩, m8, HK1.out, congrArg (Value.int IntKind.i64) HWR.out, by rw [← HE.out]; exact HM'.out, ?_⟩
            simp only [HLen.out, ← HM1.out]
            exact HTR.out.drewN 1
          case measure =>
            rw [HWR.out]
            simp only [intOf, Int.toNat_natCast]
            exact HMS.out
      | none =>
        rw [ha] at hlk
        simp only [Option.getD, Option.isSome] at hlk
        have HE := Lib.hid (HNO.out ha)
        clear ha
        have HML2 : Hid (m1 ≤ 64) := by have := HML.out; have := HSM.out; have := HKL.out; unfold Hid; omega
        go_wp2_with (first
          | (at_builtin; refine wpList_append_own_at _ rfl _ _ 23 rfl w2.heap.size 31 ip (.complex .f32 0 0) 1 8 Try.underlying23 hip hzp hsp hbp rfl (by decide) _ _ _ rfl (HMr.out.put.p.alloc _) ⟨wr.heap.size, 0, none⟩ 1 1 [cxV (z1, z2)] rfl rfl ?c1 ?c2 ?c3 ?c4 ?c5 ?_; (case c1 => exact one_new _ _ _); (case c2 => exact one_cell (by rfl)); (case c3 => rw [← HM1.out]; have := HML2.out; unfold maxLen; omega); (case c4 => rw [← HM1.out]; have := HML2.out; omega); (case c5 => have := HMr.out.put.hB; simp; omega); intro v1 w5 ho hgr _ hat; obtain ⟨A3, q3, rfl⟩ := ownsRow_slice ho; obtain ⟨d0, d1, d2, D⟩ := HMr.out.points (by omega) HRR.out.1 HRR.out.2 HRG.out (by omega) ho hgr hat; have HG1' := Lib.hid D; clear D ho hgr hat))
        have e1 := HG1'.out.put.cells
        obtain ⟨f0, f1, _⟩ := e1
        obtain ⟨_, y0, y1, _, _⟩ := HG1'.out.bx
        obtain ⟨_, _, e3, _, hB5⟩ := HG5.out.span HG1'.out.put.s (.inl (Nat.le_refl _))
        injection e3 with e3 el eq
        clear el eq
        obtain ⟨off5', e4, _, _, _, hc5, _⟩ := hB5 (by rw [← HLBL.out]; have := HKL.out; omega)
        rw [← e3] at e4
        injection e4 with e4
        injection e4 with e4 e5
        subst e5
        clear e4
        have nk2 := hc5 k n HBN.out
        unfold intV at nk2
        clear d0 d1 d2 c0 c1 t0 t1 ck nk hlk
        clear e3 hB5 hc5
        generalize hwa : w5.setCell ⟨w3.heap.size, 0, none⟩ (.slice A3 (M.1.length + 1) q3) = wa at *
        clear hwa
        have HB0 := Lib.hid HG1'.out.put.hB
        have f1a : (wa.alloc (.cells #[.int .i64 n] 3)).cell? ⟨w3.heap.size, 1, none⟩ = some (.slice A8 m1 m8) := (World.cell?_alloc_some _ _ _ (by rw [f1]; rfl)).trans f1
        go_region_law (first
          | (refine step_append_lies _ (by rfl) (.tmp 57) (.tmp 63) 24 (by rfl) w2.heap.size 3 il (.int .i64 0) 1 8 Try.underlying24 hil hzl hsl hbl (by rfl) (by decide) (.slice A8 m1 m8) M.2.length (M.2.map intV) (by rfl) ?own ⟨wa.heap.size, 0, none⟩ 1 1 [.int .i64 n] (by rfl) (by rfl) ?nw ?one (by decide) ?l1 ?l2 ?l3 (wa.heap.size + 1) (by simp) ?_
             case own => exact (HG1'.out.put.l.drew).alloc _
             case nw => exact one_new wa.drew _ _
             case one => exact one_cell (by rfl)
             case l1 => rw [← HM2.out]; have := HML2.out; unfold maxLen; omega
             case l2 => rw [← HM2.out]; have := HML2.out; omega
             case l3 => have := HB0.out; simp; omega
             intro g cap w6 ho hgr hat hlt6
             obtain ⟨c0, c1, c2, -, -, D⟩ := (HG1'.out.drewN 1).labels (by omega) HRR.out.1 HRR.out.2 HRG.out (by omega) ho hgr (hat.elim (fun h => .inl h.symm) (fun h => .inr (by subst h; simp [Value.ownBlock, World.drewN])))
             have HG2 := Lib.hid D
             clear D ho hgr hat hlt6))
        all_goals
          have HL1 : Hid ((M.1 ++ [(z1, z2)]).length = M.1.length + 1) := by unfold Hid; simp
          have HL2 : Hid ((M.2 ++ [n]).length = M.2.length + 1) := by unfold Hid; simp
          clear c0 c1 c2 f0 f1 f1a y0 y1 nk2 HG1' HMr
          go_wp2_with fail
          go_roundw
          case rel =>
            refine ⟨k + 1, (M.1 ++ [(z1, z2)], M.2 ++ [n]), A3, q3, some ⟨g, 0, none⟩, cap, HK1.out, congrArg (Value.int IntKind.i64) HWR.out, by rw [← HE.out]; exact HM'.out, ?_⟩
            simp only [HL1.out, HL2.out]
            exact HG2.out
          case measure =>
            rw [HWR.out]
            simp only [intOf, Int.toNat_natCast]
            exact HMS.out
    · have hke : k = lb := by omega
      subst hke
      have HMW : Hid (Merged a b b.1.length M) := by rw [← HLB.out]; exact HMG.out
      obtain ⟨c0, c1, _⟩ := HMr.out.put.cells
      go_wp2_with fail
      refine (onlyValid_true M true w2.heap.size _ _ _ HMr.out.put.hasTab HMG.out.valid).mono ?_
      rintro _ w6 ⟨rfl, s6⟩
      have HP6 := Lib.hid (HMr.out.put.span s6)
      clear s6 c0 c1
      obtain ⟨c0, c1, c2, c3, c4, c5⟩ := HP6.out.cells
      have HR := Lib.hid (HP6.out.result HRR.out.1 (by omega))
      have HB := Lib.hid (box_stored (u' := .slice A7 m1 m7) (v' := .slice A8 m1 m8) HP6.out.r)
      go_wp2_with fail
      exact bodyPost_ret (v := .tuple #[.agg #[.slice A7 m1 m7, .slice A8 m1 m8], .bool true]) (by simp [results, Try.results10, go_sem, HB.out.1, HB.out.2]) rfl ⟨M, _, rfl, HMW.out, HR.out.1, HR.out.2⟩
end Go.Proofs.Ytealnolpcoalgaa
