/- The rack of a sum and a delay of one, in a box: valid, copied. The outputs of delays are read ahead of a step, and become what a function makes of them. -/
import Derived.Test.YtkjlodoppmipfaaGreatJg35
import Derived.Test.YtkjlodoppmipfaaGreatJg36
import Derived.Test.YtkjlodoppmipfaaGreatJg37
import Derived.Test.YtkjlodoppmipfaaGreatJg31
import Derived.Test.YtkjlodoppmipfaaGreatJg27
import Derived.Outline
import Derived.Test.YtkjlodoppmipfaaGreatJg24
namespace Go.Proofs.YtkjlodoppmipfaaGreat
section
open Go.RowKit

theorem HasS.atJ {α : Type} {val : α → Value} {o : Bool} {b b' off lo hi n c j : Nat} {w : World} {xs : List α} {x : α} (h : HasS val o b lo hi w (.slice (some ⟨b', off, none⟩) n c) xs) (hj : xs[j]? = some x) : w.cell? ⟨b', off + j, none⟩ = some (val x) := by
  obtain ⟨A', cap, e, _, hc⟩ := h
  obtain ⟨off', rfl, _, _, _, hcell, _⟩ := hc (by have := (List.getElem?_eq_some_iff.1 hj).1; omega)
  injection e with e1 _ _
  injection e1 with e1
  injection e1 with e2 e3
  subst e2
  subst e3
  exact hcell j x hj
theorem copies_sum (w : World) : CopiesM mSum [] w := fun w' _ =>
  (copyModule_nil 5 0 0 0 0 0 0 0 w').mono fun _ _ ⟨h1, h2⟩ => ⟨mSum, h1, .inl ⟨rfl, rfl⟩, h2⟩
theorem copies_delay1 {A : Option Addr} {p : Nat} {o : Bool} {b lo hi : Nat} {w : World} {z : Cx} (h : HasS cxV o b lo hi w (.slice A 1 p) [z]) : CopiesM (mDelay1 A p) [z] w := fun w' s =>
  (copyModule_delay [z] 1 p 0 A rfl (by simp) o b lo hi w' (h.span s (.inl (Nat.le_refl _)))).mono fun _ _ ⟨A', p', bs, h1, h2, h3⟩ =>
    ⟨{ mDelay1 A p with S := A', sp := p' }, h1, .inr ⟨A', p', bs, _, rfl, ⟨rfl, by simp⟩, h2⟩, h3⟩
theorem loop_okN {A : Option Addr} {p : Nat} (hA : A ≠ none) (b : Nat) (w : World) (Ns : List Mw) (h : CopN b w (loopMs A p) [[], [(0, 0)]] Ns) : ∀ x ∈ Ns, OkM w x := by
  intro x hx
  obtain ⟨i, hi⟩ := List.getElem?_of_mem hx
  obtain ⟨m, r, h1, h2, h3⟩ := h i x hi
  match i, h1, h2 with
  | 0, h1, h2 =>
    simp [loopMs] at h1 h2
    subst h1; subst h2
    rcases h3 with ⟨rfl, _⟩ | ⟨_, _, _, _, _, h4, _⟩
    · exact okM_sum _
    · exact absurd h4.2 (by simp)
  | 1, h1, h2 =>
    simp [loopMs] at h1 h2
    subst h1; subst h2
    rcases h3 with ⟨rfl, h4⟩ | ⟨A', p', bs, hi', rfl, h4, h5⟩
    · exact absurd h4 hA
    · exact okM_delay1 h5
  | i + 2, h1, _ => simp [loopMs] at h1

theorem loop_copies {A : Option Addr} {p : Nat} {o : Bool} {b lo hi : Nat} {w : World} (h : HasS cxV o b lo hi w (.slice A 1 p) [(0, 0)]) : ([[], [(0, 0)]] : List (List Cx)).length = (loopMs A p).length ∧ ∀ (i : Nat) (x : Mw) (r : List Cx), (loopMs A p)[i]? = some x → ([[], [(0, 0)]] : List (List Cx))[i]? = some r → CopiesM x r w := by
  refine ⟨rfl, fun i x r hx hr => ?_⟩
  match i, hx, hr with
  | 0, hx, hr => simp [loopMs] at hx hr; subst hx; subst hr; exact copies_sum w
  | 1, hx, hr => simp [loopMs] at hx hr; subst hx; subst hr; exact copies_delay1 h
  | i + 2, hx, _ => simp [loopMs] at hx
/-- The sums as the law reckons them. -/
def sumL (zs : Nat → Cx) : Nat → Cx
  | 0 => (0, 0)
  | r + 1 => addC (sumL zs r) (zs r)
theorem sumL_whole (zs : Nat → Cx) (zi : Nat → Int × Int) (hz : ∀ r, WholeC (zs r) (zi r)) (h : ∀ r, (zi r).1.natAbs ≤ 3 ∧ (zi r).2.natAbs ≤ 3) : ∀ r, r ≤ 30 → WholeC (sumL zs r) (sumT zi r)
  | 0, _ => wholeC_zero
  | r + 1, hr => by
    have ih := sumL_whole zs zi hz h r (by omega)
    have b := sumT_le zi h r
    have c := h r
    exact (addC_whole ih (hz r) (by omega) (by omega)).2
theorem cmp_self (a : Int) : compare a a = .eq := by simp [compare, compareOfLessAndEq]
theorem add_facts {x z : Nat} {a b : Int} (hx : Whole x a) (hz : Whole z b) (h : (a + b).natAbs < 16777216) : (∀ w, fAr .add .f32 x z w = fC .add .f32 x z) ∧ fDr .add .f32 x z = 0 := by
  obtain ⟨r, e, _⟩ := whole_add hx hz h
  have h3 : fC .add .f32 x z = r := fC_some e
  rw [h3]
  exact ar_of e
theorem sumL_facts (zs : Nat → Cx) (zi : Nat → Int × Int) (hz : ∀ r, WholeC (zs r) (zi r)) (h : ∀ r, (zi r).1.natAbs ≤ 3 ∧ (zi r).2.natAbs ≤ 3) (r : Nat) (hr : r < 30) :
    ((∀ w, fAr .add .f32 (sumL zs r).1 (zs r).1 w = (sumL zs (r + 1)).1) ∧ fDr .add .f32 (sumL zs r).1 (zs r).1 = 0) ∧ ((∀ w, fAr .add .f32 (sumL zs r).2 (zs r).2 w = (sumL zs (r + 1)).2) ∧ fDr .add .f32 (sumL zs r).2 (zs r).2 = 0) ∧
    FloatKind.f32.format.order (loopSD zs (r + 1)).1.1 (sumL zs (r + 1)).1 = some .eq ∧ FloatKind.f32.format.order (loopSD zs (r + 1)).1.2 (sumL zs (r + 1)).2 = some .eq := by
  have ih := sumL_whole zs zi hz h r (by omega)
  have i2 := sumL_whole zs zi hz h (r + 1) (by omega)
  have lf := (loop_facts zs zi hz h (r + 1) (by omega)).1
  have b := sumT_le zi h r
  have c := h r
  refine ⟨add_facts ih.1 (hz r).1 (by omega), add_facts ih.2 (hz r).2 (by omega), ?_, ?_⟩
  · rw [order_whole lf.1 i2.1, cmp_self]
  · rw [order_whole lf.2 i2.2, cmp_self]
theorem orderC_none : (orderC [5, 4] (loopCs ++ [(0, 0)]) 2).isSome = false := by decide
theorem orderC_some : (orderC [5, 4] (loopCs ++ [(1, 1)]) 2).isSome = true := by decide
theorem orderC_loop : (orderC [5, 4] loopCs 2).isSome = true := by decide
end
section
open Go.RowKit

/-- What comes of the delays before the modules are stepped. -/
def readB (φ : Nat → Cx → Cx) (Us : List Un) (outs : List Cx) : List Cx := outs.mapIdx fun i o => match Us[i]? with
  | some (.ring xs a) => φ i (xs.getD a (0, 0))
  | _ => o
theorem readB_get (φ : Nat → Cx → Cx) (Us : List Un) (outs : List Cx) (i : Nat) : (readB φ Us outs)[i]? = (outs[i]?).map fun o => match Us[i]? with
    | some (.ring xs a) => φ i (xs.getD a (0, 0))
    | _ => o := by
  unfold readB
  rw [List.getElem?_mapIdx]
theorem readB_len (φ : Nat → Cx → Cx) (Us : List Un) (outs : List Cx) : (readB φ Us outs).length = outs.length := by unfold readB; simp

set_option maxRecDepth 100000 in
set_option maxHeartbeats 8000000 in
theorem readDelays_rel {W X : List Nat} {Q O n H bU bS : Nat} {C : Value} {fb : Nat} {cap : Array Value} {us : List (Kd × Nat)} {ss : List (Nat × List Nat × (Kd × Nat))} {fs : List (List Nat)} {s : List Un × List Cx} {w : World} (φ : Nat → Cx → Cx) (S : World → Prop) (hS : ∀ w w', S w → Keeps W w w' → S w') (hB : Becomes n fb cap φ S) (hw : S w) (h : CircB W X Q O n H bU bS C (.func (.func fb) #[] cap) us ss fs s w) (hv : ∀ (i : Nat) (xs : List Cx) (a : Nat), s.1[i]? = some (.ring xs a) → a < xs.length ∧ xs.length ≤ 1048576) :
    Calls Tryz.prog 61 #[.pointer (some ⟨Q, 0, none⟩)] w fun e w' => e = .returned (.tuple #[]) ∧ CircB W X Q O n H bU bS C (.func (.func fb) #[] cap) us ss fs (s.1, readB φ s.1 s.2) w' ∧ Keeps W w w' := by
  obtain ⟨⟨hnin, ⟨i16, -, hn⟩, ⟨U, V, sts, hq, hs, -, -, -⟩, -, -⟩, hus, -, -⟩ := id h
  obtain ⟨AU, cU, rfl, -, -⟩ := id hs
  have HN := Lib.hid hn
  have HV := Lib.hid hv
  have HNI := Lib.hid hnin
  have HLF := Lib.hid hus.len
  have cq := hq.cells
  have i3 : (n : Int) ≤ 16 := by omega
  rw [hn] at cq hq hs
  have HQ := Lib.hid hq
  have HS := Lib.hid hs
  have HH := Lib.hid h
  have HSS := Lib.hid hS
  have HSW := Lib.hid hw
  have HBC := Lib.hid hB.2
  have ccb := fun args W => hB.1 args W
  clear hS hw hB
  clear hn hs hq hnin hus hv h i16
  go_enter Tryz.func61, Tryz.ntmps61
  go_wp2_with fail
  clear cq
  go_loopw [11] (fun c wr => ∃ (k : Nat) (zs : List Cx), k ≤ n ∧ c = .int .i64 k ∧ (∀ i, i < k → zs[i]? = (readB φ s.1 s.2)[i]?) ∧ (∀ i, k ≤ i → zs[i]? = s.2[i]?) ∧ CircB W X Q O n H bU bS C (.func (.func fb) #[] cap) us ss fs (s.1, zs) wr ∧ Keeps W w wr) (fun c _ => n - (intOf c).toNat)
  case atStart => exact ⟨0, s.2, Nat.zero_le _, rfl, fun i hi => absurd hi (Nat.not_lt_zero _), fun _ _ => rfl, HH.out, Keeps.refl ..⟩
  case round =>
    clear HH
    obtain ⟨k, zs, hk, rfl, hz1, hz2, hc, hkp⟩ := hrel
    by_cases hlt : k < n
    · obtain ⟨⟨kd, g⟩, hx⟩ := getElem?_some (xs := us) (j := k) (by rw [HN.out]; exact hlt)
      obtain ⟨f, hf⟩ := getElem?_some (xs := fs) (j := k) (by rw [HLF.out.1, HN.out]; exact hlt)
      obtain ⟨u, hu⟩ := getElem?_some (xs := s.1) (j := k) (by rw [HLF.out.2, HN.out]; exact hlt)
      have hU := hc.2.1.has k _ f u hx hf hu
      have hsr := HS.out.keeps hkp HNI.out.2.1
      obtain ⟨A5, c5, e5, -, hpc⟩ := id hsr
      injection e5 with e10 e11 e12
      subst e10
      obtain ⟨offU, rfl, -, -, -, hpc2, -⟩ := hpc (by rw [HN.out]; omega)
      have HC := Lib.hid hc
      have HKP := Lib.hid hkp
      have HLT := Lib.hid hlt
      have HZ1 := Lib.hid hz1
      have HZ2 := Lib.hid hz2
      have HU := Lib.hid hu
      have j1 : (0 : Int) ≤ (k : Int) := by omega
      have j2 : (k : Int) < (n : Int) := by omega
      cases u with
      | box cs =>
        obtain ⟨hnd, -, -⟩ := hU
        have hck : wr.cell? ⟨bU, offU + k, none⟩ = some (.iface kd.t (.pointer (some ⟨g, 0, none⟩))) := hpc2 k _ hx
        have has : ∀ (v : Value) (V : World), (Instr.typeAssert (.iface kd.t v) 94 134 true).run Tryz.prog V = .ok (.tuple #[.pointer none, .bool false]) V := fun v V => as_other kd hnd v V
        clear hx hf hu hsr hpc hpc2 e11 e12 hz1 hz2 hc hkp hlt hk hnd
        go_wp2_with fail
        go_roundw
        case rel =>
          refine ⟨k + 1, zs, HLT.out, by go_num, fun i hi => ?_, fun i hi => HZ2.out i (by omega), HC.out, HKP.out⟩
          by_cases he : i = k
          · subst he
            rw [HZ2.out i (Nat.le_refl _), readB_get, HU.out]
            simp
          · exact HZ1.out i (by omega)
        case measure => have := HLT.out; simp [intOf]; omega
      | ring xs a =>
        obtain ⟨hkd, hfg, h0, A, p, sb, hsX, hb, hst⟩ := hU
        simp only at hkd hb
        subst hkd
        obtain ⟨ha, hxm⟩ := HV.out k xs a hu
        obtain ⟨A6, c6, e6, -, hc6⟩ := id hst
        injection e6 with e7 e8 e9
        subst e7
        obtain ⟨offS, rfl, -, -, -, hc7, -⟩ := hc6 h0
        obtain ⟨⟨z1, z2⟩, hza⟩ := getElem?_some ha
        have hck : wr.cell? ⟨bU, offU + k, none⟩ = some (.iface 134 (.pointer (some ⟨g, 0, none⟩))) := hpc2 k _ hx
        have has : ∀ (v : Value) (V : World), (Instr.typeAssert (.iface 134 v) 94 134 true).run Tryz.prog V = .ok (.tuple #[v, .bool true]) V := fun v V => as_delay v V
        have HBQ := HQ.out.keeps hkp HNI.out.1
        have hsub := hc.2.1.sub k f hf g (by rw [hfg]; simp)
        have hOX := hc.2.1.wx O HNI.out.2.2.2
        have hQO : O ≠ Q := fun e => HNI.out.1 (by rw [← e]; exact HNI.out.2.2.2)
        have hGO : O ≠ g := fun e => hsub.2 e.symm
        have hSO : O ≠ sb := fun e => hsX (by rw [← e]; exact hOX)
        have dA : wr.cell? ⟨Q, 3, none⟩ = some (.slice (some ⟨O, 0, none⟩) n n) ∧ wr.cell? ⟨Q, 4, none⟩ = some (.func (.func fb) #[] cap) ∧ wr.cell? ⟨g, 0, none⟩ = some (.slice (some ⟨sb, offS, none⟩) xs.length p) ∧ wr.cell? ⟨g, 1, none⟩ = some (.int .i64 (a : Int)) ∧ wr.cell? ⟨sb, offS + a, none⟩ = some (.complex .f32 z1 z2) := ⟨HBQ.cells 3, HBQ.cells 4, hb.cells 0, hb.cells 1, hc7 a _ hza⟩
        have CE : Hid (∀ w6, Span 0 0 wr w6 → w6.cell? ⟨Q, 3, none⟩ = some (.slice (some ⟨O, 0, none⟩) n n) ∧ w6.cell? ⟨Q, 4, none⟩ = some (.func (.func fb) #[] cap) ∧ w6.cell? ⟨g, 0, none⟩ = some (.slice (some ⟨sb, offS, none⟩) xs.length p) ∧ w6.cell? ⟨g, 1, none⟩ = some (.int .i64 (a : Int)) ∧ w6.cell? ⟨sb, offS + a, none⟩ = some (.complex .f32 z1 z2)) := fun w6 s => ⟨(HBQ.keep s).cells 3, (HBQ.keep s).cells 4, (hb.keep s).cells 0, (hb.keep s).cells 1, (hst.span s (.inl (Nat.le_refl _))).atJ hza⟩
        have HZA := Lib.hid hza
        obtain ⟨⟨o1, o2⟩, ho⟩ := getElem?_some (xs := zs) (j := k) (by rw [show zs.length = n from hc.2.2.1]; exact hlt)
        have HZL := Lib.hid (show zs.length = n from hc.2.2.1)
        have HO := Lib.hid ho
        have SD := Lib.hid ((Span.refl 0 0 wr).drew)
        have BE := Lib.hid (HBC.out k (z1, z2) wr.drew hlt (HSS.out _ _ (HSS.out _ _ HSW.out hkp) (Keeps.span SD.out)))
        have HBW := Lib.hid (And.intro HBQ (And.intro hb hst))
        have HNE := Lib.hid (And.intro hQO (And.intro hGO hSO))
        have j3 : (0 : Int) ≤ (a : Int) := by omega
        have j4 : (a : Int) < (xs.length : Int) := by omega
        have j5 : (xs.length : Int) ≤ 1048576 := by omega
        have HS0 := Lib.hid (show s.2.length = n by
          have h1 := HZL.out
          have h2 := (List.getElem?_eq_some_iff.1 ((HZ2.out k (Nat.le_refl _)).symm.trans ho)).1
          by_cases he : s.2.length = n
          · exact he
          · exfalso
            rcases Nat.lt_or_gt_of_ne he with h3 | h3
            · have h4 := HZ2.out s.2.length (by omega)
              rw [List.getElem?_eq_none (Nat.le_refl _)] at h4
              have := List.getElem?_eq_none_iff.1 h4
              omega
            · have h4 := HZ2.out n (by omega)
              rw [List.getElem?_eq_none (by omega)] at h4
              have := List.getElem?_eq_none_iff.1 h4.symm
              omega)
        clear hx hf hu hsr hpc hpc2 e11 e12 hz1 hz2 hc hkp hlt hk hfg h0 hsX hb hst ha hxm e8 e9 hc6 hc7 hza HBQ hsub hOX hQO hGO hSO ho
        go_upto_region 5 with fail
        go_region_held3 (fun w' => w'.cell? ⟨Q, 3, none⟩ = some (.slice (some ⟨O, 0, none⟩) n n) ∧ w'.cell? ⟨Q, 4, none⟩ = some (.func (.func fb) #[] cap) ∧ w'.cell? ⟨g, 0, none⟩ = some (.slice (some ⟨sb, offS, none⟩) xs.length p) ∧ w'.cell? ⟨g, 1, none⟩ = some (.int .i64 (a : Int)) ∧ w'.cell? ⟨sb, offS + a, none⟩ = some (.complex .f32 z1 z2))
          (first
            | exact dA
            | exact d6
            | exact d7)
          ((first
            | (go_at_fn fb; refine BE.out.mono ?_; rintro _ w6 ⟨rfl, s6⟩
               have S6 : Hid (Span 0 0 wr w6) := ⟨s6.os, s6.tape, s6.output, s6.size, s6.block⟩
               have d6 := CE.out w6 S6.out
               have dO : ∀ b i, O ≠ b → (w6.setCell ⟨O, k, none⟩ (.complex .f32 (φ k (z1, z2)).1 (φ k (z1, z2)).2)).cell? ⟨b, i, none⟩ = w6.cell? ⟨b, i, none⟩ := fun b i hne => World.cell?_setCell_other _ _ _ _ (by intro e; injection e with e1 e2; exact hne (by first | exact e1 | exact e1.symm))
               have d7 : (w6.setCell ⟨O, k, none⟩ (.complex .f32 (φ k (z1, z2)).1 (φ k (z1, z2)).2)).cell? ⟨Q, 3, none⟩ = some (.slice (some ⟨O, 0, none⟩) n n) ∧ (w6.setCell ⟨O, k, none⟩ (.complex .f32 (φ k (z1, z2)).1 (φ k (z1, z2)).2)).cell? ⟨Q, 4, none⟩ = some (.func (.func fb) #[] cap) ∧ (w6.setCell ⟨O, k, none⟩ (.complex .f32 (φ k (z1, z2)).1 (φ k (z1, z2)).2)).cell? ⟨g, 0, none⟩ = some (.slice (some ⟨sb, offS, none⟩) xs.length p) ∧ (w6.setCell ⟨O, k, none⟩ (.complex .f32 (φ k (z1, z2)).1 (φ k (z1, z2)).2)).cell? ⟨g, 1, none⟩ = some (.int .i64 (a : Int)) ∧ (w6.setCell ⟨O, k, none⟩ (.complex .f32 (φ k (z1, z2)).1 (φ k (z1, z2)).2)).cell? ⟨sb, offS + a, none⟩ = some (.complex .f32 z1 z2) := ⟨(dO Q 3 HNE.out.1).trans d6.1, (dO Q 4 HNE.out.1).trans d6.2.1, (dO g 0 HNE.out.2.1).trans d6.2.2.1, (dO g 1 HNE.out.2.1).trans d6.2.2.2.1, (dO sb _ HNE.out.2.2).trans d6.2.2.2.2⟩
               have oc : w6.cell? ⟨O, k, none⟩ = some (.complex .f32 o1 o2) := ((HC.out.far S6.out).out0 HO.out)
               have of : w6.frozen? ⟨O, k, none⟩ = false := (HC.out.far S6.out).thaw0 HLT.out
               have HP := Lib.hid ((HC.out.far S6.out).putO HLT.out (φ k (z1, z2)))
               have HKO := Lib.hid ((HKP.out.trans (Keeps.span S6.out)).setCell O k HNI.out.2.2.2 (cxV (φ k (z1, z2))))
               clear s6 dO)))
        all_goals
          go_wp2_with fail
          go_roundw
          case rel =>
            refine ⟨k + 1, zs.set k (φ k (z1, z2)), HLT.out, by go_num, fun i hi => ?_, fun i hi => ?_, HP.out, HKO.out⟩
            · by_cases he : i = k
              · subst he
                obtain ⟨o', ho'⟩ := getElem?_some (xs := s.2) (j := i) (by rw [HS0.out]; exact HLT.out)
                rw [List.getElem?_set_self (by rw [HZL.out]; exact HLT.out), readB_get, HU.out, ho']
                simp [List.getD_eq_getElem?_getD, HZA.out]
              · rw [List.getElem?_set_ne (by omega)]
                exact HZ1.out i (by omega)
            · rw [List.getElem?_set_ne (by omega)]
              exact HZ2.out i (by omega)
          case measure => have := HLT.out; simp [intOf]; omega
    · have hkn : k = n := by omega
      subst hkn
      have hzl : zs.length = k := hc.2.2.1
      have hzy : zs = readB φ s.1 s.2 := by
        apply List.ext_getElem?
        intro i
        by_cases hi : i < k
        · exact hz1 i hi
        · have h2 := hz2 i (by omega)
          rw [List.getElem?_eq_none (by omega)] at h2 ⊢
          have := List.getElem?_eq_none_iff.1 h2.symm
          rw [List.getElem?_eq_none (by rw [readB_len]; omega)]
      have HC := Lib.hid hc
      rw [hzy] at HC
      have HKP := Lib.hid hkp
      clear hz1 hz2 hc hkp hlt hk hzl hzy
      go_wp2_with fail
      exact bodyPost_end (v := .tuple #[]) (by simp [results, Tryz.results61, go_sem]) rfl ⟨rfl, HC.out, HKP.out⟩
end
end Go.Proofs.YtkjlodoppmipfaaGreat
