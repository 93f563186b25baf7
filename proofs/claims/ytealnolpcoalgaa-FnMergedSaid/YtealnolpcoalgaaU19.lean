/- FnMerged. -/
import Derived.Test.YtealnolpcoalgaaU18
import Derived.Test.YtealnolpcoalgaaU14
namespace Go.Proofs.Ytealnolpcoalgaa
open Go.RowKit

/-- The three tables of the law, in their boxes. -/
structure Three (N3 N4 N5 : Nat) (a b M : Tab) (u3 v3 u4 v4 u5 v5 : Value) (w wr : World) : Prop where
  x3 : Box N3 u3 v3 wr
  x4 : Box N4 u4 v4 wr
  x5 : Box N5 u5 v5 wr
  ta : ∃ lo hi, HasTab true lo hi wr (.agg #[u3, v3]) a
  tb : ∃ lo hi, HasTab true lo hi wr (.agg #[u4, v4]) b
  tm : ∃ lo hi, HasTab true lo hi wr (.agg #[u5, v5]) M
  s : Span 0 0 w wr

theorem Three.span {N3 N4 N5 : Nat} {a b M : Tab} {u3 v3 u4 v4 u5 v5 : Value} {w wr w' : World} (h : Three N3 N4 N5 a b M u3 v3 u4 v4 u5 v5 w wr) (s : Span 0 0 wr w') : Three N3 N4 N5 a b M u3 v3 u4 v4 u5 v5 w w' :=
  ⟨h.x3.span s (.inl (Nat.le_refl _)), h.x4.span s (.inl (Nat.le_refl _)), h.x5.span s (.inl (Nat.le_refl _)),
    h.ta.imp fun _ h => h.imp fun _ g => g.span s (.inl (Nat.le_refl _)), h.tb.imp fun _ h => h.imp fun _ g => g.span s (.inl (Nat.le_refl _)), h.tm.imp fun _ h => h.imp fun _ g => g.span s (.inl (Nat.le_refl _)), s.after h.s⟩

theorem tab_at {o : Bool} {lo hi : Nat} {w : World} {A A' : Option Addr} {n n' q q' : Nat} {t : Tab} (h : HasTab o lo hi w (.agg #[.slice A n q, .slice A' n' q']) t) (hv : Valid t) {k : Nat} {p : Cx} {x : Int} (hp : t.1[k]? = some p) (hx : t.2[k]? = some x) :
    (∃ b off, A = some ⟨b, off, none⟩ ∧ w.cell? ⟨b, off + k, none⟩ = some (.complex .f32 p.1 p.2)) ∧ ∃ b off, A' = some ⟨b, off, none⟩ ∧ w.cell? ⟨b, off + k, none⟩ = some (.int .i64 x) := by
  obtain ⟨b1, b2, vP, vL, e, _, g1, g2⟩ := h
  injection e with e
  simp only [Array.mk.injEq, List.cons.injEq, and_true] at e
  obtain ⟨e1, e2⟩ := e
  have hk := (List.getElem?_eq_some_iff.1 hp).1
  have hk2 := (List.getElem?_eq_some_iff.1 hx).1
  obtain ⟨A1, c1, f1, _, h1⟩ := g1
  obtain ⟨A2, c2, f2, _, h2⟩ := g2
  rw [← e1] at f1
  rw [← e2] at f2
  injection f1 with f1 _ _
  injection f2 with f2 _ _
  subst f1 f2
  obtain ⟨o1, r1, _, _, _, k1, _⟩ := h1 (by omega)
  obtain ⟨o2, r2, _, _, _, k2, _⟩ := h2 (by omega)
  exact ⟨⟨b1, o1, r1, k1 k p hp⟩, ⟨b2, o2, r2, k2 k x hx⟩⟩

theorem cell_kept {w : World} {p : Addr} {v : Value} (h : w.cell? p = some v) (w' : World) (s : Span 0 0 w w') : w'.cell? p = some v := by
  rw [World.cell?_of_block (w := w) (s.block p.block (World.block_lt_of_cell? w p h) (by omega))]
  exact h

theorem wrap_two {x y : Nat} (hx : x ≤ 15) (hy : y ≤ 15) : wrap64 ((x : Int) + (y : Int)) = (x : Int) + (y : Int) ∧ IntKind.i64.wrap ((x : Int) + (y : Int)) = (x : Int) + (y : Int) :=
  ⟨IntWalk.wrap64_in _ (by omega), IntWalk.i64_in _ (by omega)⟩

theorem law_merged_no (A : Option Addr) (n c : Nat) (w : World) (hn : ¬ n ≤ 1048576) : Calls Try.prog 3 #[.slice A n c] w (Says w) := by
  have hn' : (1048576 : Int) < (n : Int) := by omega
  go_enter Try.func3, Try.ntmps3
  go_wp2
  go_ret
  exact ⟨rfl, Below.refl _ _⟩

set_option maxRecDepth 100000 in
set_option maxHeartbeats 4000000 in
theorem law_merged (A : Option Addr) (n c : Nat) (w : World) (h : HasBy w.heap.size w A n) : Calls Try.prog 3 #[.slice A n c] w (Says w) := by
  by_cases hn : n ≤ 1048576
  · have HN := Lib.hid hn
    have HBy := Lib.hid h
    clear h hn
    have hn' : (n : Int) ≤ 1048576 := by have := HN.out; omega
    go_enter Try.func3, Try.ntmps3
    go_wp2_with fail
    refine (makeTable_any A n c w HN.out HBy.out).mono ?_
    rintro _ w1 ⟨a, v, rfl, hv, hl, ht, hb⟩
    obtain ⟨A1, q1, A2, q2, rfl⟩ := ht.form
    obtain ⟨la, hla⟩ : ∃ la, la = a.1.length := ⟨_, rfl⟩
    have hla2 : la = a.2.length := by rw [hv.len]; exact hla
    rw [← hla, ← hla2] at ht ⊢
    rw [← hla] at hl
    have HLA := Lib.hid hla
    have HLA2 := Lib.hid hla2
    have HVA := Lib.hid hv
    have X3 := Lib.hid (Box.new w1 (.slice A1 la q1) (.slice A2 la q2) 26)
    have HTA := Lib.hid (ht.span ((Span.refl 0 0 w1).alloc (.cells #[.slice A1 la q1, .slice A2 la q2] 26)) (.inl (Nat.le_refl _)))
    have HW := Lib.hid ((Span.of_below hb).alloc (.cells #[.slice A1 la q1, .slice A2 la q2] 26))
    have HLA15 : Hid (la ≤ 15) := hl
    clear hla hla2 hv ht hb hl
    go_wp2_with fail
    generalize hw2 : w1.alloc (.cells #[.slice A1 la q1, .slice A2 la q2] 26) = w2 at *
    clear hw2
    refine (fresh_any A n c 3 w2 (by omega) (by omega) HN.out (hasBy_span HBy.out HW.out)).mono ?_
    rintro _ w3 ⟨Ac, nc, cc, rfl, hnc, hbc, hb3⟩
    go_wp2_with fail
    refine (makeTable_any Ac nc cc w3 (by omega) hbc).mono ?_
    rintro _ w4 ⟨b, v, rfl, hv, hl, ht, hb⟩
    obtain ⟨A3, q3, A4, q4, rfl⟩ := ht.form
    obtain ⟨lb, hlb⟩ : ∃ lb, lb = b.1.length := ⟨_, rfl⟩
    have hlb2 : lb = b.2.length := by rw [hv.len]; exact hlb
    rw [← hlb, ← hlb2] at ht ⊢
    rw [← hlb] at hl
    have HLB := Lib.hid hlb
    have HLB2 := Lib.hid hlb2
    have HVB := Lib.hid hv
    have s4 : Span 0 0 w2 w4 := (Span.of_below hb).after (Span.of_below hb3)
    have X4 := Lib.hid (Box.new w4 (.slice A3 lb q3) (.slice A4 lb q4) 26)
    have HTB := Lib.hid (ht.span ((Span.refl 0 0 w4).alloc (.cells #[.slice A3 lb q3, .slice A4 lb q4] 26)) (.inl (Nat.le_refl _)))
    have s5 := s4.alloc (.cells #[.slice A3 lb q3, .slice A4 lb q4] 26)
    have X35 := Lib.hid (X3.out.span s5 (.inl (Nat.le_refl _)))
    have HTA5 := Lib.hid (HTA.out.span s5 (.inl (Nat.le_refl _)))
    have HW5 := Lib.hid (s5.after HW.out)
    have HLB15 : Hid (lb ≤ 15) := hl
    clear hlb hlb2 hv ht hb hl s4 s5 hb3 hnc hbc X3 HTA HW
    obtain ⟨_, x0, x1, _, _⟩ := X35.out
    obtain ⟨_, y0, y1, _, _⟩ := X4.out
    go_wp2_with fail
    generalize hw5 : w4.alloc (.cells #[.slice A3 lb q3, .slice A4 lb q4] 26) = w5 at *
    clear hw5
    have HSM : Hid (a.1.length + b.1.length ≤ 64) := by have := HLA15.out; have := HLB15.out; unfold Hid; rw [← HLA.out, ← HLB.out]; omega
    refine (impl_mergeTables a b true true _ _ _ _ _ _ w5 HTA5.out HTB.out HVA.out HVB.out HSM.out).mono ?_
    rintro _ w6 ⟨M, v, rfl, hM, ht, s6⟩
    obtain ⟨A5, q5, A6, q6, rfl⟩ := ht.form
    obtain ⟨lm, hlm⟩ : ∃ lm, lm = M.1.length := ⟨_, rfl⟩
    have hlm2 : lm = M.2.length := by rw [hM.valid.len]; exact hlm
    rw [← hlm, ← hlm2] at ht ⊢
    have HLM := Lib.hid hlm
    have HMG := Lib.hid hM
    have s7 := s6.alloc (.cells #[.slice A5 lm q5, .slice A6 lm q6] 26)
    have TH : Hid (Three w1.heap.size w4.heap.size w6.heap.size a b M (.slice A1 la q1) (.slice A2 la q2) (.slice A3 lb q3) (.slice A4 lb q4) (.slice A5 lm q5) (.slice A6 lm q6) w (w6.alloc (.cells #[.slice A5 lm q5, .slice A6 lm q6] 26))) :=
      ⟨X35.out.span s7 (.inl (Nat.le_refl _)), X4.out.span s7 (.inl (Nat.le_refl _)), Box.new _ _ _ _, ⟨_, _, HTA5.out.span s7 (.inl (Nat.le_refl _))⟩, ⟨_, _, HTB.out.span s7 (.inl (Nat.le_refl _))⟩, ⟨_, _, ht.span ((Span.refl 0 0 w6).alloc _) (.inl (Nat.le_refl _))⟩, s7.after HW5.out⟩
    clear hlm hlm2 hM ht s6 s7 x0 x1 y0 y1 X35 X4 HTA5 HTB HW5
    obtain ⟨_, x0, x1, _, _⟩ := TH.out.x3
    obtain ⟨_, y0, y1, _, _⟩ := TH.out.x4
    go_wp2_with fail
    generalize hw7 : w6.alloc (.cells #[.slice A5 lm q5, .slice A6 lm q6] 26) = w7 at *
    clear hw7
    obtain ⟨l3, h3, hta⟩ := TH.out.ta
    obtain ⟨l4, h4, htb⟩ := TH.out.tb
    refine (spec_mergeTables a b true true _ _ _ _ _ _ w7 hta htb HVA.out HVB.out HSM.out).mono ?_
    rintro _ w8 ⟨M2, v, rfl, -, ht, s8⟩
    obtain ⟨A7, q7, A8, q8, rfl⟩ := ht.form
    have TH9 := Lib.hid (TH.out.span (s8.alloc (.cells #[.slice A7 M2.1.length q7, .slice A8 M2.2.length q8] 26)))
    clear ht s8 hta htb x0 x1 y0 y1 TH
    obtain ⟨_, y0, y1, _, _⟩ := TH9.out.x4
    go_wp2_with fail
    generalize hw9 : w8.alloc (.cells #[.slice A7 M2.1.length q7, .slice A8 M2.2.length q8] 26) = w9 at *
    clear hw9 y0 y1
    go_loopw [52] (fun q wr => ∃ k : Nat, k ≤ lb ∧ q = .int .i64 k ∧ Three w1.heap.size w4.heap.size w6.heap.size a b M (.slice A1 la q1) (.slice A2 la q2) (.slice A3 lb q3) (.slice A4 lb q4) (.slice A5 lm q5) (.slice A6 lm q6) w wr) (fun q _ => lb - (intOf q).toNat)
    case atStart => exact ⟨0, Nat.zero_le _, rfl, TH9.out⟩
    case round =>
      clear TH9
      obtain ⟨k, hk, rfl, ht⟩ := hrel
      have TH := Lib.hid ht
      clear ht
      by_cases hlt : k < lb
      · obtain ⟨p, hp⟩ := getElem?_some (xs := b.1) (j := k) (by rw [← HLB.out]; exact hlt)
        obtain ⟨x, hx⟩ := getElem?_some (xs := b.2) (j := k) (by rw [← HLB2.out]; exact hlt)
        have hfz := HVB.out.fin p (List.mem_of_getElem? hp)
        have hlab : labelT M p = some x := by rw [HMG.out.whole HVB.out hfz, (label_own HVB.out hp).2, hx]; rfl
        obtain ⟨_, _, htm⟩ := TH.out.tm
        obtain ⟨_, _, htb⟩ := TH.out.tb
        have C := impl_findPoint M p (fun q hq => eqC_sym (HMG.out.valid.fin q hq) hfz) true _ _ _ wr htm HMG.out.valid
        rw [hlab] at C
        have HC := Lib.hid C
        obtain ⟨⟨bb, off, e1, ck⟩, bl, off2, e2, nk⟩ := tab_at htb HVB.out hp hx
        subst e1 e2
        have HNK := Lib.hid (cell_kept nk)
        obtain ⟨_, x0, x1, _, _⟩ := TH.out.x5
        have k0 : (0 : Int) ≤ (k : Int) := by omega
        have k1 : (k : Int) < (lb : Int) := by omega
        have HKL : Hid (k < lb) := hlt
        have HWR : Hid (wrap64 ((k : Int) + 1) = ((k + 1 : Nat) : Int)) := by
          have := HLB15.out
          unfold Hid
          rw [IntWalk.wrap64_in _ (by omega)]; omega
        have HMS : Hid (lb - (k + 1) < lb - k) := by unfold Hid; omega
        obtain ⟨p1, p2⟩ := p
        simp only at ck
        clear hp hx hfz hlab htm htb C nk
        go_wp2_with fail
        refine HC.out.mono ?_
        rintro _ w10 ⟨rfl, s10⟩
        simp only [Option.getD_some, Option.isSome_some]
        have TH2 := Lib.hid (TH.out.span s10)
        have nk := HNK.out _ s10
        obtain ⟨_, y0, y1, _, _⟩ := TH2.out.x4
        clear s10 x0 x1 ck
        go_wp2_with fail
        go_roundw
        case rel => exact ⟨k + 1, HKL.out, congrArg (Value.int IntKind.i64) HWR.out, TH2.out⟩
        case measure =>
          rw [HWR.out]
          simp only [intOf, Int.toNat_natCast]
          exact HMS.out
      · have hke : lb = k := by omega
        subst hke
        obtain ⟨_, x0, x1, _, _⟩ := TH.out.x3
        clear hk hlt
        go_wp2_with fail
        clear x0 x1
        obtain ⟨wa, hwa⟩ : ∃ wa, wa = wr := ⟨_, rfl⟩
        rw [← hwa] at TH ⊢
        clear hwa
        go_loopw [78] (fun q wr => ∃ k : Nat, k ≤ la ∧ q = .int .i64 k ∧ Three w1.heap.size w4.heap.size w6.heap.size a b M (.slice A1 la q1) (.slice A2 la q2) (.slice A3 lb q3) (.slice A4 lb q4) (.slice A5 lm q5) (.slice A6 lm q6) w wr) (fun q _ => la - (intOf q).toNat)
        case atStart => exact ⟨0, Nat.zero_le _, rfl, TH.out⟩
        case round =>
          clear TH
          obtain ⟨k, hk, rfl, ht⟩ := hrel
          have TH := Lib.hid ht
          clear ht
          by_cases hlt : k < la
          · obtain ⟨p, hp⟩ := getElem?_some (xs := a.1) (j := k) (by rw [← HLA.out]; exact hlt)
            obtain ⟨x, hx⟩ := getElem?_some (xs := a.2) (j := k) (by rw [← HLA2.out]; exact hlt)
            have hfz := HVA.out.fin p (List.mem_of_getElem? hp)
            have hlab : labelT M p = (labelT b p).or (some x) := by rw [HMG.out.whole HVB.out hfz, (label_own HVA.out hp).2, hx]
            obtain ⟨_, _, htm⟩ := TH.out.tm
            obtain ⟨_, _, hta⟩ := TH.out.ta
            have HC := Lib.hid (impl_findPoint M p (fun q hq => eqC_sym (HMG.out.valid.fin q hq) hfz) true _ _ _ wr htm HMG.out.valid)
            obtain ⟨⟨bb, off, e1, ck⟩, bl, off2, e2, nk⟩ := tab_at hta HVA.out hp hx
            subst e1 e2
            have HNK := Lib.hid (cell_kept nk)
            have HLAB := Lib.hid hlab
            obtain ⟨_, x0, x1, _, _⟩ := TH.out.x5
            have k0 : (0 : Int) ≤ (k : Int) := by omega
            have k1 : (k : Int) < (la : Int) := by omega
            have HKL : Hid (k < la) := hlt
            have HWR : Hid (wrap64 ((k : Int) + 1) = ((k + 1 : Nat) : Int)) := by
              have := HLA15.out
              unfold Hid
              rw [IntWalk.wrap64_in _ (by omega)]; omega
            have HMS : Hid (la - (k + 1) < la - k) := by unfold Hid; omega
            obtain ⟨p1, p2⟩ := p
            simp only at ck
            clear hp hx hfz hlab htm hta nk
            go_wp2_with fail
            refine HC.out.mono ?_
            rintro _ w10 ⟨rfl, s10⟩
            rw [HLAB.out]
            have TH2 := Lib.hid (TH.out.span s10)
            have HN10 := Lib.hid (HNK.out _ s10)
            obtain ⟨_, y0, y1, _, _⟩ := TH2.out.x4
            obtain ⟨_, _, htb⟩ := TH2.out.tb
            clear s10 x0 x1 ck
            go_wp2_with fail
            refine (spec_findPoint b (p1, p2) true _ _ _ w10 htb HVB.out).mono ?_
            rintro _ w11 ⟨rfl, s11⟩
            have TH3 := Lib.hid (TH2.out.span s11)
            have nk := cell_kept HN10.out _ s11
            obtain ⟨_, x0, x1, _, _⟩ := TH3.out.x3
            clear s11 y0 y1 htb
            cases hb : labelT b (p1, p2) with
            | some y =>
              simp only [Option.some_or, Option.getD_some, Option.isSome_some]
              clear hb
              go_wp2_with fail
              go_roundw
              case rel => exact ⟨k + 1, HKL.out, congrArg (Value.int IntKind.i64) HWR.out, TH3.out⟩
              case measure =>
                rw [HWR.out]
                simp only [intOf, Int.toNat_natCast]
                exact HMS.out
            | none =>
              simp only [Option.none_or, Option.getD_some, Option.isSome_some, Option.getD_none, Option.isSome_none]
              clear hb
              go_wp2_with fail
              go_roundw
              case rel => exact ⟨k + 1, HKL.out, congrArg (Value.int IntKind.i64) HWR.out, TH3.out⟩
              case measure =>
                rw [HWR.out]
                simp only [intOf, Int.toNat_natCast]
                exact HMS.out
          · have hke : la = k := by omega
            subst hke
            clear hlt hk
            obtain ⟨_, x0, x1, _, _⟩ := TH.out.x5
            obtain ⟨_, _, htm⟩ := TH.out.tm
            go_wp2_with fail
            refine (spec_isTable_true M true _ _ _ wr htm HMG.out.valid).mono ?_
            rintro _ w12 ⟨rfl, s12⟩
            have TH2 := Lib.hid (TH.out.span s12)
            obtain ⟨_, x0, x1, _, _⟩ := TH2.out.x5
            obtain ⟨_, y0, y1, _, _⟩ := TH2.out.x4
            obtain ⟨_, z0, z1, _, _⟩ := TH2.out.x3
            have hle : (lm : Int) ≤ (la : Int) + (lb : Int) := by
              have := HMG.out.len.2
              rw [← HLM.out, ← HLA.out, ← HLB.out] at this
              omega
            obtain ⟨hwr, hwr2⟩ := wrap_two HLA15.out HLB15.out
            clear s12 htm
            go_wp2_with fail
            go_ret
            exact ⟨rfl, TH2.out.s.to_below (by omega)⟩
  · exact law_merged_no A n c w hn
end Go.Proofs.Ytealnolpcoalgaa
