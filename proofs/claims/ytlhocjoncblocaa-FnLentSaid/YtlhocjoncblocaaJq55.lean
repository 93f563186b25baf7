/- The program's pools: CutLease. -/
import Derived.Test.YtlhocjoncblocaaJq42
namespace Go.Proofs.Ytlhocjoncblocaa
open Go.RowKit

set_option maxRecDepth 100000 in
set_option maxHeartbeats 4000000 in
theorem impl_cutLease (p : Pl) (id at' : Nat) (lo hi : Nat) (v : Value) (w : World) (hx : HasP lo hi w v p) (hp : VP p) (hid : id ≤ 4194304) (hat : at' ≤ 4194304) :
    Calls Try.prog 24 #[v, .int .i64 (id : Int), .int .i64 (at' : Int)] w (GivesQ3 (cutP p id at') w) := by
  have HX := Lib.hid hx
  have HV := Lib.hid hp
  obtain ⟨b1, b2, vS, vL, rfl, g1, g2⟩ := hx
  obtain ⟨AS, cS, rfl, _, _⟩ := g1
  have G2 := Lib.hid g2
  obtain ⟨AL, cL, rfl, _, _⟩ := g2
  have X0 := Lib.hid ((Box.new w (.slice AS p.1.length cS) (.slice AL p.2.length cL) 26).alloc (.cells #[.slice none 0 0, .slice none 0 0] 26))
  have X1 := Lib.hid (Box.new (w.alloc (.cells #[.slice AS p.1.length cS, .slice AL p.2.length cL] 26)) (.slice none 0 0) (.slice none 0 0) 26)
  rw [show (w.alloc (.cells #[.slice AS p.1.length cS, .slice AL p.2.length cL] 26)).heap.size = w.heap.size + 1 by simp] at X1
  have HS := Lib.hid (((Span.refl 0 0 w).alloc (.cells #[.slice AS p.1.length cS, .slice AL p.2.length cL] 26)).alloc (.cells #[.slice none 0 0, .slice none 0 0] 26))
  clear hp
  go_enter Try.func24, Try.ntmps24
  go_wp2_with fail
  refine (isLent_any p id lo hi _ _ (HX.out.span HS.out (.inl (Nat.le_refl _))) HV.out hid).mono ?_
  rintro _ w1 ⟨rfl, s1⟩
  have Y0 := Lib.hid (X0.out.span s1 (.inl (Nat.le_refl _)))
  have Y1 := Lib.hid (X1.out.span s1 (.inl (Nat.le_refl _)))
  have S1 := Lib.hid (s1.after HS.out)
  clear s1 X0 X1 HS
  cases hl : lentAt p id with
  | none =>
    have HG : Hid (cutP p id at' = none) := by unfold Hid cutP; rw [hl]; rfl
    obtain ⟨_, y0, y1, y2, y3⟩ := Y1.out
    have HB := Lib.hid (box_stored (u' := .slice none 0 0) (v' := .slice none 0 0) Y1.out)
    have HSF := Lib.hid ((S1.out.setCell (p := ⟨w.heap.size + 1, 0, none⟩) (.inr (by simp only; omega)) (.slice none 0 0)).setCell (p := ⟨w.heap.size + 1, 1, none⟩) (.inr (by simp only; omega)) (.slice none 0 0))
    simp only [Option.isSome_none]
    clear hl
    go_wp2_with fail
    refine bodyPost_ret (v := .tuple #[.agg #[.slice none 0 0, .slice none 0 0], .int .i64 0, .bool false]) (by simp [results, Try.results24, go_sem, HB.out.1, HB.out.2]) rfl ?_
    rw [HG.out]
    exact ⟨rfl, HSF.out⟩
  | some x =>
    have HL := Lib.hid (lentAt_some hl)
    have HIL : Hid (id < p.2.length) := (List.getElem?_eq_some_iff.1 HL.out.1).1
    obtain ⟨-, hb2, off, rfl, l0, l1, l2, l3⟩ := (G2.out.span S1.out (.inl (Nat.le_refl _))).at_ HL.out.1
    have HLE := Lib.hid hl
    simp only [Option.isSome_some]
    clear hl
    obtain ⟨_, x0, x1, _, _⟩ := Y0.out
    obtain ⟨s, c, r, fr⟩ := x
    obtain ⟨o1, o2, o3⟩ := (HV.out.ok _ (List.mem_of_getElem? HL.out.1)).lent HL.out.2
    have hsz := HV.out.size
    simp only at o1 o2 o3 l0 l1 l2 l3
    have i0 : (0 : Int) ≤ (id : Int) := by omega
    have i1 : (id : Int) < (p.2.length : Int) := by have := HIL.out; omega
    have hfr : fr = false := HL.out.2
    subst hfr
    clear hb2
    have HB9 := Lib.hid (lsBox w1 ⟨s, c, r, false⟩ 30)
    have S2 := Lib.hid (S1.out.alloc (.cells #[.int .i64 (s : Int), .int .i64 (c : Int), .int .i64 (r : Int), .bool false] 30))
    have Z0 := Lib.hid (Y0.out.alloc (.cells #[.int .i64 (s : Int), .int .i64 (c : Int), .int .i64 (r : Int), .bool false] 30))
    have Z1 := Lib.hid (Y1.out.alloc (.cells #[.int .i64 (s : Int), .int .i64 (c : Int), .int .i64 (r : Int), .bool false] 30))
    have HR1 : Hid (w.heap.size + 1 < w1.heap.size) := Y1.out.1
    go_upto_region 4 with fail
    clear l0 l1 l2 l3 x0 x1 Y0 Y1 S1
    generalize hw2 : w1.alloc (.cells #[.int .i64 (s : Int), .int .i64 (c : Int), .int .i64 (r : Int), .bool false] 30) = w2 at *
    have HR2 : Hid (w1.heap.size < w2.heap.size) := by unfold Hid; rw [← hw2]; simp
    clear hw2
    obtain ⟨l0, l1, l2, l3⟩ := HB9.out
    simp only [Nat.zero_add] at l0 l1 l2 l3
    have r0 : (1 : Int) ≤ (r : Int) := by omega
    have r1 : (r : Int) ≤ 256 := by omega
    go_cut [32] (fun s29 wx => s29 = .bool (!decide (1 ≤ at' ∧ at' ≤ min c (r - 1))) ∧ wx = w2)
    case first =>
      have hmin : Hid (min c (r - 1) = if (c : Int) ≤ (r : Int) - 1 then c else r - 1) := by
        unfold Hid
        by_cases hm : (c : Int) ≤ (r : Int) - 1
        · rw [if_pos hm]; exact Nat.min_eq_left (by omega)
        · rw [if_neg hm]; exact Nat.min_eq_right (by omega)
      by_cases hm : (c : Int) ≤ (r : Int) - 1
      · have hmin2 := hmin.out
        rw [if_pos hm] at hmin2
        have HM := Lib.hid hmin2
        clear hmin hmin2
        go_wp2_with fail
        all_goals
          go_meet
          refine ⟨congrArg Value.bool ?_, rfl⟩
          rw [HM.out, Bool.eq_iff_iff]; simp; omega
      · have hmin2 := hmin.out
        rw [if_neg hm] at hmin2
        have HM := Lib.hid hmin2
        clear hmin hmin2
        have hm2 : ¬ (c : Int) < (r : Int) - 1 := by omega
        go_wp2_with fail
        all_goals
          go_meet
          refine ⟨congrArg Value.bool ?_, rfl⟩
          rw [HM.out, Bool.eq_iff_iff]; simp; omega
    case rest =>
      obtain ⟨rfl, rfl⟩ := hcut
      by_cases hc : 1 ≤ at' ∧ at' ≤ min c (r - 1)
      · rw [decide_eq_true hc]
        simp only [Bool.not_true]
        have hm := hc.2
        have hc1 : at' ≤ c := by omega
        have hc2 : at' ≤ r - 1 := by omega
        have HC := Lib.hid hc
        clear hm hc
        obtain ⟨_, x0, x1, _, _⟩ := Z0.out
        go_wp2_with fail
        refine (copyPool_own p lo hi _ _ (HX.out.span S2.out (.inl (Nat.le_refl _))) (by have := HV.out.size; omega) (by have := HV.out.most; omega)).mono ?_
        rintro _ w3 ⟨A1, q1, A2, q2, rfl, ho1, ho2, s3⟩
        have HRB : Hid (w.heap.size + 1 < wc.heap.size) := Z1.out.1
        have HO := Lib.hid (Own.new (Z1.out.span s3 (.inl (Nat.le_refl _))) ho1 ho2 (s3.after S2.out))
        have HB10 := Lib.hid ((HB9.out.span s3 (.inl (Nat.le_refl _))).span ((Span.refl 0 0 w3).alloc (.cells #[.slice A1 p.1.length q1, .slice A2 p.2.length q2] 26)) (.inl (Nat.le_refl _)))
        clear ho1 ho2 s3 Z0 Z1 S2 x0 x1 l0 l1 l2 l3 HB9
        obtain ⟨l0, l1, l2, l3⟩ := HB10.out
        simp only [Nat.zero_add] at l0 l1 l2 l3
        obtain ⟨g, rfl, ⟨n0, n1, n2, n3⟩, hfz⟩ := HO.out.lease HL.out.1
        have f0 := hfz (id * 4)
        have f1 := hfz (id * 4 + 1)
        have f2 := hfz (id * 4 + 2)
        have f3 := hfz (id * 4 + 3)
        obtain ⟨_, t0, t1, _, _⟩ := HO.out.t
        clear hfz
        go_upto_region 8 with fail
        obtain ⟨wS, hwS⟩ : ∃ wS, wS = ((((w3.alloc (.cells #[.slice A1 p.1.length q1, .slice (some ⟨g, 0, none⟩) p.2.length q2] 26)).setCell ⟨g, id * 4, none⟩ (.int .i64 (s : Int))).setCell ⟨g, id * 4 + 1, none⟩ (.int .i64 (at' : Int))).setCell ⟨g, id * 4 + 2, none⟩ (.int .i64 (at' : Int))).setCell ⟨g, id * 4 + 3, none⟩ (.bool false) := ⟨_, rfl⟩
        rw [← hwS]
        have HOS := Lib.hid (HO.out.setL HRB.out (by have := HRB.out; omega) ⟨s, at', at', false⟩ HIL.out hwS)
        have HLS : Hid ((p.2.set id ⟨s, at', at', false⟩).length = p.2.length) := List.length_set ..
        have hgB : wc.heap.size ≤ g := (HO.out.hl.lt g rfl).1
        have sp : Span g (g + 1) (w3.alloc (.cells #[.slice A1 p.1.length q1, .slice (some ⟨g, 0, none⟩) p.2.length q2] 26)) wS := by rw [hwS]; exact set4_span _ g (id * 4) ⟨s, at', at', false⟩
        have HB11 := Lib.hid (HB10.out.span sp (.inr (.inl (by have := HR2.out; omega))))
        clear hwS l0 l1 l2 l3 f0 f1 f2 f3 t0 t1 n0 n1 n2 n3 HB10 HO sp hgB
        obtain ⟨_, t0, t1, _, _⟩ := HOS.out.t
        obtain ⟨l0, l1, l2, l3⟩ := HB11.out
        simp only [Nat.zero_add] at l0 l1 l2 l3
        obtain ⟨lo', hi', hb1, hb2⟩ := block_of (.slice (some ⟨g, 0, none⟩) (p.2.set id ⟨s, at', at', false⟩).length q2)
        have C := addLease_own A1 p.1.length q1 (p.2.set id ⟨s, at', at', false⟩) (some ⟨g, 0, none⟩) q2 ⟨s + at', c - at', r - at', false⟩ wc.heap.size lo' hi' wS HOS.out.hl (Nat.le_of_lt (Nat.lt_of_le_of_lt (HOS.out.hl.lt g rfl).1 (HOS.out.hl.lt g rfl).2)) (by rw [HLS.out]; exact HV.out.most) hb1
        have e : lsV ⟨s + at', c - at', r - at', false⟩ = .agg #[.int .i64 ((s : Int) + (at' : Int)), .int .i64 ((c : Int) - (at' : Int)), .int .i64 ((r : Int) - (at' : Int)), .bool false] := by
          unfold lsV
          simp only
          rw [show ((s + at' : Nat) : Int) = (s : Int) + (at' : Int) by omega, show ((c - at' : Nat) : Int) = (c : Int) - (at' : Int) by omega, show ((r - at' : Nat) : Int) = (r : Int) - (at' : Int) by omega]
        rw [e, HLS.out] at C
        have HC2 := Lib.hid C
        have HB2 := Lib.hid hb2
        rw [HLS.out] at t1
        clear C e hb1 hb2
        go_wp2_with fail
        cases hpu : putL (p.2.set id ⟨s, at', at', false⟩) ⟨s + at', c - at', r - at', false⟩ with
        | none =>
          have HG : Hid (cutP p id at' = none) := by
            unfold Hid cutP; rw [HLE.out]; simp only [Option.bind_some]; rw [if_pos HC.out, hpu]; rfl
          rw [hpu] at HC2
          refine HC2.out.mono ?_
          rintro _ w4 ⟨rfl, sp⟩
          obtain ⟨hr, hs⟩ := HOS.out.away HRB.out (by omega) HB2.out sp
          have hr2 := hr
          obtain ⟨_, y0, y1, y2, y3⟩ := hr2
          have HB := Lib.hid (box_stored (u' := .slice none 0 0) (v' := .slice none 0 0) hr)
          have HSF := Lib.hid ((hs.setCell (p := ⟨w.heap.size + 1, 0, none⟩) (.inr (by simp only; omega)) (.slice none 0 0)).setCell (p := ⟨w.heap.size + 1, 1, none⟩) (.inr (by simp only; omega)) (.slice none 0 0))
          clear hpu sp hr hs l0 l1 l2 l3 t0 t1
          go_wp2_with fail
          refine bodyPost_ret (v := .tuple #[.agg #[.slice none 0 0, .slice none 0 0], .int .i64 0, .bool false]) (by simp [results, Try.results24, go_sem, HB.out.1, HB.out.2]) rfl ?_
          rw [HG.out]
          exact ⟨rfl, HSF.out⟩
        | some LL =>
          obtain ⟨L', id'⟩ := LL
          have HG : Hid (cutP p id at' = some ((p.1, L'), id')) := by
            unfold Hid cutP; rw [HLE.out]; simp only [Option.bind_some]; rw [if_pos HC.out, hpu]; rfl
          rw [hpu] at HC2
          refine HC2.out.mono ?_
          rintro _ w4 ⟨⟨A5, q5, rfl, ho⟩, sp⟩
          obtain ⟨hr, hh, hs⟩ := HOS.out.put HRB.out (by omega) HB2.out ho sp
          have hr2 := hr
          obtain ⟨_, y0, y1, y2, y3⟩ := hr2
          have HB := Lib.hid (box_stored (u' := .slice A1 p.1.length q1) (v' := .slice A5 L'.length q5) hr)
          have HH := Lib.hid hh
          have HSF := Lib.hid hs
          clear hpu ho sp hr hh hs l0 l1 l2 l3 t0 t1
          go_wp2_with fail
          refine bodyPost_ret (v := .tuple #[.agg #[.slice A1 p.1.length q1, .slice A5 L'.length q5], .int .i64 (id' : Int), .bool true]) (by simp [results, Try.results24, go_sem, HB.out.1, HB.out.2]) rfl ?_
          rw [HG.out]
          exact ⟨⟨_, rfl, HH.out⟩, HSF.out⟩
      · have HG : Hid (cutP p id at' = none) := by unfold Hid cutP; rw [HLE.out]; simp only [Option.bind_some]; rw [if_neg hc]
        rw [decide_eq_false hc]
        simp only [Bool.not_false]
        obtain ⟨_, y0, y1, y2, y3⟩ := Z1.out
        have HB := Lib.hid (box_stored (u' := .slice none 0 0) (v' := .slice none 0 0) Z1.out)
        have HSF := Lib.hid ((S2.out.setCell (p := ⟨w.heap.size + 1, 0, none⟩) (.inr (by simp only; omega)) (.slice none 0 0)).setCell (p := ⟨w.heap.size + 1, 1, none⟩) (.inr (by simp only; omega)) (.slice none 0 0))
        clear hc
        go_wp2_with fail
        refine bodyPost_ret (v := .tuple #[.agg #[.slice none 0 0, .slice none 0 0], .int .i64 0, .bool false]) (by simp [results, Try.results24, go_sem, HB.out.1, HB.out.2]) rfl ?_
        rw [HG.out]
        exact ⟨rfl, HSF.out⟩
end Go.Proofs.Ytlhocjoncblocaa
