/- The outputs of delays are read ahead of a step. -/
import Derived.Test.YtkjlodoppmipfaaGreatJh25
import Derived.Outline
namespace Go.Proofs.YtkjlodoppmipfaaGreat
open Go.RowKit

/-- What comes of the delays before the modules are stepped. -/
def readO (Us : List Un) (outs : List Cx) : List Cx := outs.mapIdx fun i o => match Us[i]? with
  | some (.ring xs a) => xs.getD a (0, 0)
  | _ => o
theorem readO_get (Us : List Un) (outs : List Cx) (i : Nat) : (readO Us outs)[i]? = (outs[i]?).map fun o => match Us[i]? with
    | some (.ring xs a) => xs.getD a (0, 0)
    | _ => o := by
  unfold readO
  rw [List.getElem?_mapIdx]
theorem readO_len (Us : List Un) (outs : List Cx) : (readO Us outs).length = outs.length := by unfold readO; simp

theorem CircAt.out0 {W X : List Nat} {Q O n H bU bS : Nat} {C : Value} {us : List (Kd × Nat)} {ss : List (Nat × List Nat × (Kd × Nat))} {fs : List (List Nat)} {s : List Un × List Cx} {w : World} (h : CircAt W X Q O n H bU bS C us ss fs s w) {i : Nat} {y : Cx} (hy : s.2[i]? = some y) : w.cell? ⟨O, i, none⟩ = some (.complex .f32 y.1 y.2) := by
  obtain ⟨_, _, h3, h4⟩ := h
  obtain ⟨A, c, e, _, hc⟩ := h4
  injection e with e1 e2 e3
  have hl := (List.getElem?_eq_some_iff.1 hy).1
  obtain ⟨off, e4, _, _, _, h5, _⟩ := hc (by omega)
  rw [← e1] at e4
  injection e4 with e4
  injection e4 with e5 e6
  have := h5 i y hy
  rw [← e6, Nat.zero_add] at this
  exact this
theorem CircAt.thaw0 {W X : List Nat} {Q O n H bU bS : Nat} {C : Value} {us : List (Kd × Nat)} {ss : List (Nat × List Nat × (Kd × Nat))} {fs : List (List Nat)} {s : List Un × List Cx} {w : World} (h : CircAt W X Q O n H bU bS C us ss fs s w) {i : Nat} (hi : i < n) : w.frozen? ⟨O, i, none⟩ = false := by
  obtain ⟨_, _, h3, h4⟩ := h
  obtain ⟨A, c, e, _, hc⟩ := h4
  injection e with e1 e2 e3
  obtain ⟨off, e4, _, _, _, _, h5⟩ := hc (by omega)
  rw [← e1] at e4
  injection e4 with e4
  injection e4 with e5 e6
  have := h5 rfl i (by omega)
  rw [← e6, Nat.zero_add] at this
  exact this
theorem CircAt.putO {W X : List Nat} {Q O n H bU bS : Nat} {C : Value} {us : List (Kd × Nat)} {ss : List (Nat × List Nat × (Kd × Nat))} {fs : List (List Nat)} {s : List Un × List Cx} {w : World} (h : CircAt W X Q O n H bU bS C us ss fs s w) {i : Nat} (hi : i < n) (y : Cx) :
    CircAt W X Q O n H bU bS C us ss fs (s.1, s.2.set i y) (w.setCell ⟨O, i, none⟩ (cxV y)) := by
  obtain ⟨h1, h2, h3, h4⟩ := h
  have kO : Keeps [O] w (w.setCell ⟨O, i, none⟩ (cxV y)) := (Keeps.refl [O] w).setCell O i (by simp) _
  have kW : Keeps W w (w.setCell ⟨O, i, none⟩ (cxV y)) := (Keeps.refl W w).setCell O i h1.nin.2.2.2 _
  refine ⟨h1.keeps kW, h2.far kO (fun b hb _ => by simpa using hb) (fun b hb => by
    have hb : b = O := by simpa using hb
    rw [hb]; exact h2.wx O h1.nin.2.2.2), by simp only [List.length_set]; exact h3, ?_⟩
  have h5 := h4.putB i y (by rw [h3]; exact hi)
  rwa [Nat.zero_add] at h5

set_option maxRecDepth 100000 in
set_option maxHeartbeats 8000000 in
theorem readDelays_any {W X : List Nat} {Q O n H bU bS : Nat} {C : Value} {us : List (Kd × Nat)} {ss : List (Nat × List Nat × (Kd × Nat))} {fs : List (List Nat)} {s : List Un × List Cx} {w : World} (h : CircAt W X Q O n H bU bS C us ss fs s w) (hv : ∀ (i : Nat) (xs : List Cx) (a : Nat), s.1[i]? = some (.ring xs a) → a < xs.length ∧ xs.length ≤ 1048576) :
    Calls Tryz.prog 61 #[.pointer (some ⟨Q, 0, none⟩)] w fun e w' => e = .returned (.tuple #[]) ∧ CircAt W X Q O n H bU bS C us ss fs (s.1, readO s.1 s.2) w' ∧ Keeps W w w' := by
  obtain ⟨⟨hnin, ⟨i16, -, hn⟩, ⟨U, V, sts, hq, hs, -, -, -⟩, -, -⟩, hus, -, -⟩ := id h
  obtain ⟨AU, cU, rfl, -, -⟩ := id hs
  have HN := Lib.hid hn
  have HV := Lib.hid hv
  have HNI := Lib.hid hnin
  have HLF := Lib.hid hus.len
  have cq := hq.cells
  have i3 : (n : Int) ≤ 16 := by omega
  rw [hn] at cq hq hs
  have HQ := Lib.hid hq
  have HS := Lib.hid hs
  have HH := Lib.hid h
  clear hn hs hq hnin hus hv h i16
  go_enter Tryz.func61, Tryz.ntmps61
  go_wp2_with fail
  clear cq
  go_loopw [11] (fun c wr => ∃ (k : Nat) (zs : List Cx), k ≤ n ∧ c = .int .i64 k ∧ (∀ i, i < k → zs[i]? = (readO s.1 s.2)[i]?) ∧ (∀ i, k ≤ i → zs[i]? = s.2[i]?) ∧ CircAt W X Q O n H bU bS C us ss fs (s.1, zs) wr ∧ Keeps W w wr) (fun c _ => n - (intOf c).toNat)
  case atStart => exact ⟨0, s.2, Nat.zero_le _, rfl, fun i hi => absurd hi (Nat.not_lt_zero _), fun _ _ => rfl, HH.out, Keeps.refl ..⟩
  case round =>
    clear HH
    obtain ⟨k, zs, hk, rfl, hz1, hz2, hc, hkp⟩ := hrel
    by_cases hlt : k < n
    · obtain ⟨⟨kd, g⟩, hx⟩ := getElem?_some (xs := us) (j := k) (by rw [HN.out]; exact hlt)
      obtain ⟨f, hf⟩ := getElem?_some (xs := fs) (j := k) (by rw [HLF.out.1, HN.out]; exact hlt)
      obtain ⟨u, hu⟩ := getElem?_some (xs := s.1) (j := k) (by rw [HLF.out.2, HN.out]; exact hlt)
      have hU := hc.2.1.has k _ f u hx hf hu
      have hsr := HS.out.keeps hkp HNI.out.2.1
      obtain ⟨A5, c5, e5, -, hpc⟩ := id hsr
      injection e5 with e10 e11 e12
      subst e10
      obtain ⟨offU, rfl, -, -, -, hpc2, -⟩ := hpc (by rw [HN.out]; omega)
      have HC := Lib.hid hc
      have HKP := Lib.hid hkp
      have HLT := Lib.hid hlt
      have HZ1 := Lib.hid hz1
      have HZ2 := Lib.hid hz2
      have HU := Lib.hid hu
      have j1 : (0 : Int) ≤ (k : Int) := by omega
      have j2 : (k : Int) < (n : Int) := by omega
      cases u with
      | box cs =>
        obtain ⟨hnd, -, -⟩ := hU
        have hck : wr.cell? ⟨bU, offU + k, none⟩ = some (.iface kd.t (.pointer (some ⟨g, 0, none⟩))) := hpc2 k _ hx
        have has : ∀ (v : Value) (V : World), (Instr.typeAssert (.iface kd.t v) 94 134 true).run Tryz.prog V = .ok (.tuple #[.pointer none, .bool false]) V := fun v V => as_other kd hnd v V
        clear hx hf hu hsr hpc hpc2 e11 e12 hz1 hz2 hc hkp hlt hk hnd
        go_wp2_with fail
        go_roundw
        case rel =>
          refine ⟨k + 1, zs, HLT.out, by go_num, fun i hi => ?_, fun i hi => HZ2.out i (by omega), HC.out, HKP.out⟩
          by_cases he : i = k
          · subst he
            rw [HZ2.out i (Nat.le_refl _), readO_get, HU.out]
            simp
          · exact HZ1.out i (by omega)
        case measure => have := HLT.out; simp [intOf]; omega
      | ring xs a =>
        obtain ⟨hkd, hfg, h0, A, p, sb, hsX, hb, hst⟩ := hU
        simp only at hkd hb
        subst hkd
        obtain ⟨ha, hxm⟩ := HV.out k xs a hu
        obtain ⟨A6, c6, e6, -, hc6⟩ := id hst
        injection e6 with e7 e8 e9
        subst e7
        obtain ⟨offS, rfl, -, -, -, hc7, -⟩ := hc6 h0
        obtain ⟨⟨z1, z2⟩, hza⟩ := getElem?_some ha
        have hck : wr.cell? ⟨bU, offU + k, none⟩ = some (.iface 134 (.pointer (some ⟨g, 0, none⟩))) := hpc2 k _ hx
        have has : ∀ (v : Value) (V : World), (Instr.typeAssert (.iface 134 v) 94 134 true).run Tryz.prog V = .ok (.tuple #[v, .bool true]) V := fun v V => as_delay v V
        have HBQ := HQ.out.keeps hkp HNI.out.1
        have hsub := hc.2.1.sub k f hf g (by rw [hfg]; simp)
        have hOX := hc.2.1.wx O HNI.out.2.2.2
        have hQO : O ≠ Q := fun e => HNI.out.1 (by rw [← e]; exact HNI.out.2.2.2)
        have hGO : O ≠ g := fun e => hsub.2 e.symm
        have hSO : O ≠ sb := fun e => hsX (by rw [← e]; exact hOX)
        have dA : wr.cell? ⟨Q, 3, none⟩ = some (.slice (some ⟨O, 0, none⟩) n n) ∧ wr.cell? ⟨Q, 4, none⟩ = some (.func (.func 58) #[] #[]) ∧ wr.cell? ⟨g, 0, none⟩ = some (.slice (some ⟨sb, offS, none⟩) xs.length p) ∧ wr.cell? ⟨g, 1, none⟩ = some (.int .i64 (a : Int)) ∧ wr.cell? ⟨sb, offS + a, none⟩ = some (.complex .f32 z1 z2) := ⟨HBQ.cells 3, HBQ.cells 4, hb.cells 0, hb.cells 1, hc7 a _ hza⟩
        have dO : ∀ b i, O ≠ b → (wr.setCell ⟨O, k, none⟩ (.complex .f32 z1 z2)).cell? ⟨b, i, none⟩ = wr.cell? ⟨b, i, none⟩ := fun b i hne => World.cell?_setCell_other _ _ _ _ (by intro e; injection e with e1 e2; exact hne (by first | exact e1 | exact e1.symm))
        have d7 : (wr.setCell ⟨O, k, none⟩ (.complex .f32 z1 z2)).cell? ⟨Q, 3, none⟩ = some (.slice (some ⟨O, 0, none⟩) n n) ∧ (wr.setCell ⟨O, k, none⟩ (.complex .f32 z1 z2)).cell? ⟨Q, 4, none⟩ = some (.func (.func 58) #[] #[]) ∧ (wr.setCell ⟨O, k, none⟩ (.complex .f32 z1 z2)).cell? ⟨g, 0, none⟩ = some (.slice (some ⟨sb, offS, none⟩) xs.length p) ∧ (wr.setCell ⟨O, k, none⟩ (.complex .f32 z1 z2)).cell? ⟨g, 1, none⟩ = some (.int .i64 (a : Int)) ∧ (wr.setCell ⟨O, k, none⟩ (.complex .f32 z1 z2)).cell? ⟨sb, offS + a, none⟩ = some (.complex .f32 z1 z2) := ⟨(dO Q 3 hQO).trans dA.1, (dO Q 4 hQO).trans dA.2.1, (dO g 0 hGO).trans dA.2.2.1, (dO g 1 hGO).trans dA.2.2.2.1, (dO sb _ hSO).trans dA.2.2.2.2⟩
        have HP := Lib.hid (hc.putO hlt (z1, z2))
        have HKO := Lib.hid (hkp.setCell O k HNI.out.2.2.2 (cxV (z1, z2)))
        have HZA := Lib.hid hza
        obtain ⟨⟨o1, o2⟩, ho⟩ := getElem?_some (xs := zs) (j := k) (by rw [show zs.length = n from hc.2.2.1]; exact hlt)
        have HZL := Lib.hid (show zs.length = n from hc.2.2.1)
        have oc : wr.cell? ⟨O, k, none⟩ = some (.complex .f32 o1 o2) := (hc.out0 ho)
        have of : wr.frozen? ⟨O, k, none⟩ = false := hc.thaw0 hlt
        have j3 : (0 : Int) ≤ (a : Int) := by omega
        have j4 : (a : Int) < (xs.length : Int) := by omega
        have j5 : (xs.length : Int) ≤ 1048576 := by omega
        have HS0 := Lib.hid (show s.2.length = n by
          have h1 := HZL.out
          have h2 := (List.getElem?_eq_some_iff.1 ((HZ2.out k (Nat.le_refl _)).symm.trans ho)).1
          by_cases he : s.2.length = n
          · exact he
          · exfalso
            rcases Nat.lt_or_gt_of_ne he with h3 | h3
            · have h4 := HZ2.out s.2.length (by omega)
              rw [List.getElem?_eq_none (Nat.le_refl _)] at h4
              have := List.getElem?_eq_none_iff.1 h4
              omega
            · have h4 := HZ2.out n (by omega)
              rw [List.getElem?_eq_none (by omega)] at h4
              have := List.getElem?_eq_none_iff.1 h4.symm
              omega)
        clear hx hf hu hsr hpc hpc2 e11 e12 hz1 hz2 hc hkp hlt hk hfg h0 hsX hb hst ha hxm e8 e9 hc6 hc7 hza HBQ hsub hOX hQO hGO hSO dO ho
        go_upto_region 5 with fail
        go_region_held3 (fun w' => w'.cell? ⟨Q, 3, none⟩ = some (.slice (some ⟨O, 0, none⟩) n n) ∧ w'.cell? ⟨Q, 4, none⟩ = some (.func (.func 58) #[] #[]) ∧ w'.cell? ⟨g, 0, none⟩ = some (.slice (some ⟨sb, offS, none⟩) xs.length p) ∧ w'.cell? ⟨g, 1, none⟩ = some (.int .i64 (a : Int)) ∧ w'.cell? ⟨sb, offS + a, none⟩ = some (.complex .f32 z1 z2))
          (first
            | exact dA
            | exact d7)
          ((first
            | (go_at_call 58; refine (asGiven_is _ _ _ _).mono ?_; rintro _ _ ⟨rfl, rfl⟩)))
        all_goals
          go_wp2_with fail
          go_roundw
          case rel =>
            refine ⟨k + 1, zs.set k (z1, z2), HLT.out, by go_num, fun i hi => ?_, fun i hi => ?_, HP.out.far (Span.refl 0 0 _).drew, HKO.out.trans (Keeps.span (Span.refl 0 0 _).drew)⟩
            · by_cases he : i = k
              · subst he
                obtain ⟨o', ho'⟩ := getElem?_some (xs := s.2) (j := i) (by rw [HS0.out]; exact HLT.out)
                rw [List.getElem?_set_self (by rw [HZL.out]; exact HLT.out), readO_get, HU.out, ho']
                simp [List.getD_eq_getElem?_getD, HZA.out]
              · rw [List.getElem?_set_ne (by omega)]
                exact HZ1.out i (by omega)
            · rw [List.getElem?_set_ne (by omega)]
              exact HZ2.out i (by omega)
          case measure => have := HLT.out; simp [intOf]; omega
    · have hkn : k = n := by omega
      subst hkn
      have hzl : zs.length = k := hc.2.2.1
      have hzy : zs = readO s.1 s.2 := by
        apply List.ext_getElem?
        intro i
        by_cases hi : i < k
        · exact hz1 i hi
        · have h2 := hz2 i (by omega)
          rw [List.getElem?_eq_none (by omega)] at h2 ⊢
          have := List.getElem?_eq_none_iff.1 h2.symm
          rw [List.getElem?_eq_none (by rw [readO_len]; omega)]
      have HC := Lib.hid hc
      rw [hzy] at HC
      have HKP := Lib.hid hkp
      clear hz1 hz2 hc hkp hlt hk hzl hzy
      go_wp2_with fail
      exact bodyPost_end (v := .tuple #[]) (by simp [results, Tryz.results61, go_sem]) rfl ⟨rfl, HC.out, HKP.out⟩
end Go.Proofs.YtkjlodoppmipfaaGreat
