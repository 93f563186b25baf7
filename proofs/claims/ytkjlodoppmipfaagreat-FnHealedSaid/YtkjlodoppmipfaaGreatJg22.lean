/- The outputs of delays are read ahead of a step. A new circuit of any modules but slicers. -/
import Derived.Test.YtkjlodoppmipfaaGreatJg20
import Derived.Outline
import Derived.Test.YtkjlodoppmipfaaGreatJg21
namespace Go.Proofs.YtkjlodoppmipfaaGreat
section
open Go.RowKit

/-- What comes of the delays before the modules are stepped. -/
def readO (Us : List Un) (outs : List Cx) : List Cx := outs.mapIdx fun i o => match Us[i]? with
  | some (.ring xs a) => xs.getD a (0, 0)
  | _ => o
theorem readO_get (Us : List Un) (outs : List Cx) (i : Nat) : (readO Us outs)[i]? = (outs[i]?).map fun o => match Us[i]? with
    | some (.ring xs a) => xs.getD a (0, 0)
    | _ => o := by
  unfold readO
  rw [List.getElem?_mapIdx]
theorem readO_len (Us : List Un) (outs : List Cx) : (readO Us outs).length = outs.length := by unfold readO; simp

theorem CircAt.out0 {W X : List Nat} {Q O n H bU bS : Nat} {C : Value} {us : List (Kd × Nat)} {ss : List (Nat × List Nat × (Kd × Nat))} {fs : List (List Nat)} {s : List Un × List Cx} {w : World} (h : CircAt W X Q O n H bU bS C us ss fs s w) {i : Nat} {y : Cx} (hy : s.2[i]? = some y) : w.cell? ⟨O, i, none⟩ = some (.complex .f32 y.1 y.2) := by
  obtain ⟨_, _, h3, h4⟩ := h
  obtain ⟨A, c, e, _, hc⟩ := h4
  injection e with e1 e2 e3
  have hl := (List.getElem?_eq_some_iff.1 hy).1
  obtain ⟨off, e4, _, _, _, h5, _⟩ := hc (by omega)
  rw [← e1] at e4
  injection e4 with e4
  injection e4 with e5 e6
  have := h5 i y hy
  rw [← e6, Nat.zero_add] at this
  exact this
theorem CircAt.thaw0 {W X : List Nat} {Q O n H bU bS : Nat} {C : Value} {us : List (Kd × Nat)} {ss : List (Nat × List Nat × (Kd × Nat))} {fs : List (List Nat)} {s : List Un × List Cx} {w : World} (h : CircAt W X Q O n H bU bS C us ss fs s w) {i : Nat} (hi : i < n) : w.frozen? ⟨O, i, none⟩ = false := by
  obtain ⟨_, _, h3, h4⟩ := h
  obtain ⟨A, c, e, _, hc⟩ := h4
  injection e with e1 e2 e3
  obtain ⟨off, e4, _, _, _, _, h5⟩ := hc (by omega)
  rw [← e1] at e4
  injection e4 with e4
  injection e4 with e5 e6
  have := h5 rfl i (by omega)
  rw [← e6, Nat.zero_add] at this
  exact this
theorem CircAt.putO {W X : List Nat} {Q O n H bU bS : Nat} {C : Value} {us : List (Kd × Nat)} {ss : List (Nat × List Nat × (Kd × Nat))} {fs : List (List Nat)} {s : List Un × List Cx} {w : World} (h : CircAt W X Q O n H bU bS C us ss fs s w) {i : Nat} (hi : i < n) (y : Cx) :
    CircAt W X Q O n H bU bS C us ss fs (s.1, s.2.set i y) (w.setCell ⟨O, i, none⟩ (cxV y)) := by
  obtain ⟨h1, h2, h3, h4⟩ := h
  have kO : Keeps [O] w (w.setCell ⟨O, i, none⟩ (cxV y)) := (Keeps.refl [O] w).setCell O i (by simp) _
  have kW : Keeps W w (w.setCell ⟨O, i, none⟩ (cxV y)) := (Keeps.refl W w).setCell O i h1.nin.2.2.2 _
  refine ⟨h1.keeps kW, h2.far kO (fun b hb _ => by simpa using hb) (fun b hb => by
    have hb : b = O := by simpa using hb
    rw [hb]; exact h2.wx O h1.nin.2.2.2), by simp only [List.length_set]; exact h3, ?_⟩
  have h5 := h4.putB i y (by rw [h3]; exact hi)
  rwa [Nat.zero_add] at h5

set_option maxRecDepth 100000 in
set_option maxHeartbeats 8000000 in
theorem readDelays_any {W X : List Nat} {Q O n H bU bS : Nat} {C : Value} {us : List (Kd × Nat)} {ss : List (Nat × List Nat × (Kd × Nat))} {fs : List (List Nat)} {s : List Un × List Cx} {w : World} (h : CircAt W X Q O n H bU bS C us ss fs s w) (hv : ∀ (i : Nat) (xs : List Cx) (a : Nat), s.1[i]? = some (.ring xs a) → a < xs.length ∧ xs.length ≤ 1048576) :
    Calls Tryz.prog 61 #[.pointer (some ⟨Q, 0, none⟩)] w fun e w' => e = .returned (.tuple #[]) ∧ CircAt W X Q O n H bU bS C us ss fs (s.1, readO s.1 s.2) w' ∧ Keeps W w w' := by
  obtain ⟨⟨hnin, ⟨i16, -, hn⟩, ⟨U, V, sts, hq, hs, -, -, -⟩, -, -⟩, hus, -, -⟩ := id h
  obtain ⟨AU, cU, rfl, -, -⟩ := id hs
  have HN := Lib.hid hn
  have HV := Lib.hid hv
  have HNI := Lib.hid hnin
  have HLF := Lib.hid hus.len
  have cq := hq.cells
  have i3 : (n : Int) ≤ 16 := by omega
  rw [hn] at cq hq hs
  have HQ := Lib.hid hq
  have HS := Lib.hid hs
  have HH := Lib.hid h
  clear hn hs hq hnin hus hv h i16
  go_enter Tryz.func61, Tryz.ntmps61
  go_wp2_with fail
  clear cq
  go_loopw [11] (fun c wr => ∃ (k : Nat) (zs : List Cx), k ≤ n ∧ c = .int .i64 k ∧ (∀ i, i < k → zs[i]? = (readO s.1 s.2)[i]?) ∧ (∀ i, k ≤ i → zs[i]? = s.2[i]?) ∧ CircAt W X Q O n H bU bS C us ss fs (s.1, zs) wr ∧ Keeps W w wr) (fun c _ => n - (intOf c).toNat)
  case atStart => exact ⟨0, s.2, Nat.zero_le _, rfl, fun i hi => absurd hi (Nat.not_lt_zero _), fun _ _ => rfl, HH.out, Keeps.refl ..⟩
  case round =>
    clear HH
    obtain ⟨k, zs, hk, rfl, hz1, hz2, hc, hkp⟩ := hrel
    by_cases hlt : k < n
    · obtain ⟨⟨kd, g⟩, hx⟩ := getElem?_some (xs := us) (j := k) (by rw [HN.out]; exact hlt)
      obtain ⟨f, hf⟩ := getElem?_some (xs := fs) (j := k) (by rw [HLF.out.1, HN.out]; exact hlt)
      obtain ⟨u, hu⟩ := getElem?_some (xs := s.1) (j := k) (by rw [HLF.out.2, HN.out]; exact hlt)
      have hU := hc.2.1.has k _ f u hx hf hu
      have hsr := HS.out.keeps hkp HNI.out.2.1
      obtain ⟨A5, c5, e5, -, hpc⟩ := id hsr
      injection e5 with e10 e11 e12
      subst e10
      obtain ⟨offU, rfl, -, -, -, hpc2, -⟩ := hpc (by rw [HN.out]; omega)
      have HC := Lib.hid hc
      have HKP := Lib.hid hkp
      have HLT := Lib.hid hlt
      have HZ1 := Lib.hid hz1
      have HZ2 := Lib.hid hz2
      have HU := Lib.hid hu
      have j1 : (0 : Int) ≤ (k : Int) := by omega
      have j2 : (k : Int) < (n : Int) := by omega
      cases u with
      | box cs =>
        obtain ⟨hnd, -, -⟩ := hU
        have hck : wr.cell? ⟨bU, offU + k, none⟩ = some (.iface kd.t (.pointer (some ⟨g, 0, none⟩))) := hpc2 k _ hx
        have has : ∀ (v : Value) (V : World), (Instr.typeAssert (.iface kd.t v) 94 134 true).run Tryz.prog V = .ok (.tuple #[.pointer none, .bool false]) V := fun v V => as_other kd hnd v V
        clear hx hf hu hsr hpc hpc2 e11 e12 hz1 hz2 hc hkp hlt hk hnd
        go_wp2_with fail
        go_roundw
        case rel =>
          refine ⟨k + 1, zs, HLT.out, by go_num, fun i hi => ?_, fun i hi => HZ2.out i (by omega), HC.out, HKP.out⟩
          by_cases he : i = k
          · subst he
            rw [HZ2.out i (Nat.le_refl _), readO_get, HU.out]
            simp
          · exact HZ1.out i (by omega)
        case measure => have := HLT.out; simp [intOf]; omega
      | ring xs a =>
        obtain ⟨hkd, hfg, h0, A, p, sb, hsX, hb, hst⟩ := hU
        simp only at hkd hb
        subst hkd
        obtain ⟨ha, hxm⟩ := HV.out k xs a hu
        obtain ⟨A6, c6, e6, -, hc6⟩ := id hst
        injection e6 with e7 e8 e9
        subst e7
        obtain ⟨offS, rfl, -, -, -, hc7, -⟩ := hc6 h0
        obtain ⟨⟨z1, z2⟩, hza⟩ := getElem?_some ha
        have hck : wr.cell? ⟨bU, offU + k, none⟩ = some (.iface 134 (.pointer (some ⟨g, 0, none⟩))) := hpc2 k _ hx
        have has : ∀ (v : Value) (V : World), (Instr.typeAssert (.iface 134 v) 94 134 true).run Tryz.prog V = .ok (.tuple #[v, .bool true]) V := fun v V => as_delay v V
        have HBQ := HQ.out.keeps hkp HNI.out.1
        have hsub := hc.2.1.sub k f hf g (by rw [hfg]; simp)
        have hOX := hc.2.1.wx O HNI.out.2.2.2
        have hQO : O ≠ Q := fun e => HNI.out.1 (by rw [← e]; exact HNI.out.2.2.2)
        have hGO : O ≠ g := fun e => hsub.2 e.symm
        have hSO : O ≠ sb := fun e => hsX (by rw [← e]; exact hOX)
        have dA : wr.cell? ⟨Q, 3, none⟩ = some (.slice (some ⟨O, 0, none⟩) n n) ∧ wr.cell? ⟨Q, 4, none⟩ = some (.func (.func 58) #[] #[]) ∧ wr.cell? ⟨g, 0, none⟩ = some (.slice (some ⟨sb, offS, none⟩) xs.length p) ∧ wr.cell? ⟨g, 1, none⟩ = some (.int .i64 (a : Int)) ∧ wr.cell? ⟨sb, offS + a, none⟩ = some (.complex .f32 z1 z2) := ⟨HBQ.cells 3, HBQ.cells 4, hb.cells 0, hb.cells 1, hc7 a _ hza⟩
        have dO : ∀ b i, O ≠ b → (wr.setCell ⟨O, k, none⟩ (.complex .f32 z1 z2)).cell? ⟨b, i, none⟩ = wr.cell? ⟨b, i, none⟩ := fun b i hne => World.cell?_setCell_other _ _ _ _ (by intro e; injection e with e1 e2; exact hne (by first | exact e1 | exact e1.symm))
        have d7 : (wr.setCell ⟨O, k, none⟩ (.complex .f32 z1 z2)).cell? ⟨Q, 3, none⟩ = some (.slice (some ⟨O, 0, none⟩) n n) ∧ (wr.setCell ⟨O, k, none⟩ (.complex .f32 z1 z2)).cell? ⟨Q, 4, none⟩ = some (.func (.func 58) #[] #[]) ∧ (wr.setCell ⟨O, k, none⟩ (.complex .f32 z1 z2)).cell? ⟨g, 0, none⟩ = some (.slice (some ⟨sb, offS, none⟩) xs.length p) ∧ (wr.setCell ⟨O, k, none⟩ (.complex .f32 z1 z2)).cell? ⟨g, 1, none⟩ = some (.int .i64 (a : Int)) ∧ (wr.setCell ⟨O, k, none⟩ (.complex .f32 z1 z2)).cell? ⟨sb, offS + a, none⟩ = some (.complex .f32 z1 z2) := ⟨(dO Q 3 hQO).trans dA.1, (dO Q 4 hQO).trans dA.2.1, (dO g 0 hGO).trans dA.2.2.1, (dO g 1 hGO).trans dA.2.2.2.1, (dO sb _ hSO).trans dA.2.2.2.2⟩
        have HP := Lib.hid (hc.putO hlt (z1, z2))
        have HKO := Lib.hid (hkp.setCell O k HNI.out.2.2.2 (cxV (z1, z2)))
        have HZA := Lib.hid hza
        obtain ⟨⟨o1, o2⟩, ho⟩ := getElem?_some (xs := zs) (j := k) (by rw [show zs.length = n from hc.2.2.1]; exact hlt)
        have HZL := Lib.hid (show zs.length = n from hc.2.2.1)
        have oc : wr.cell? ⟨O, k, none⟩ = some (.complex .f32 o1 o2) := (hc.out0 ho)
        have of : wr.frozen? ⟨O, k, none⟩ = false := hc.thaw0 hlt
        have j3 : (0 : Int) ≤ (a : Int) := by omega
        have j4 : (a : Int) < (xs.length : Int) := by omega
        have j5 : (xs.length : Int) ≤ 1048576 := by omega
        have HS0 := Lib.hid (show s.2.length = n by
          have h1 := HZL.out
          have h2 := (List.getElem?_eq_some_iff.1 ((HZ2.out k (Nat.le_refl _)).symm.trans ho)).1
          by_cases he : s.2.length = n
          · exact he
          · exfalso
            rcases Nat.lt_or_gt_of_ne he with h3 | h3
            · have h4 := HZ2.out s.2.length (by omega)
              rw [List.getElem?_eq_none (Nat.le_refl _)] at h4
              have := List.getElem?_eq_none_iff.1 h4
              omega
            · have h4 := HZ2.out n (by omega)
              rw [List.getElem?_eq_none (by omega)] at h4
              have := List.getElem?_eq_none_iff.1 h4.symm
              omega)
        clear hx hf hu hsr hpc hpc2 e11 e12 hz1 hz2 hc hkp hlt hk hfg h0 hsX hb hst ha hxm e8 e9 hc6 hc7 hza HBQ hsub hOX hQO hGO hSO dO ho
        go_upto_region 5 with fail
        go_region_held3 (fun w' => w'.cell? ⟨Q, 3, none⟩ = some (.slice (some ⟨O, 0, none⟩) n n) ∧ w'.cell? ⟨Q, 4, none⟩ = some (.func (.func 58) #[] #[]) ∧ w'.cell? ⟨g, 0, none⟩ = some (.slice (some ⟨sb, offS, none⟩) xs.length p) ∧ w'.cell? ⟨g, 1, none⟩ = some (.int .i64 (a : Int)) ∧ w'.cell? ⟨sb, offS + a, none⟩ = some (.complex .f32 z1 z2))
          (first
            | exact dA
            | exact d7)
          ((first
            | (go_at_call 58; refine (asGiven_is _ _ _ _).mono ?_; rintro _ _ ⟨rfl, rfl⟩)))
        all_goals
          go_wp2_with fail
          go_roundw
          case rel =>
            refine ⟨k + 1, zs.set k (z1, z2), HLT.out, by go_num, fun i hi => ?_, fun i hi => ?_, HP.out.far (Span.refl 0 0 _).drew, HKO.out.trans (Keeps.span (Span.refl 0 0 _).drew)⟩
            · by_cases he : i = k
              · subst he
                obtain ⟨o', ho'⟩ := getElem?_some (xs := s.2) (j := i) (by rw [HS0.out]; exact HLT.out)
                rw [List.getElem?_set_self (by rw [HZL.out]; exact HLT.out), readO_get, HU.out, ho']
                simp [List.getD_eq_getElem?_getD, HZA.out]
              · rw [List.getElem?_set_ne (by omega)]
                exact HZ1.out i (by omega)
            · rw [List.getElem?_set_ne (by omega)]
              exact HZ2.out i (by omega)
          case measure => have := HLT.out; simp [intOf]; omega
    · have hkn : k = n := by omega
      subst hkn
      have hzl : zs.length = k := hc.2.2.1
      have hzy : zs = readO s.1 s.2 := by
        apply List.ext_getElem?
        intro i
        by_cases hi : i < k
        · exact hz1 i hi
        · have h2 := hz2 i (by omega)
          rw [List.getElem?_eq_none (by omega)] at h2 ⊢
          have := List.getElem?_eq_none_iff.1 h2.symm
          rw [List.getElem?_eq_none (by rw [readO_len]; omega)]
      have HC := Lib.hid hc
      rw [hzy] at HC
      have HKP := Lib.hid hkp
      clear hz1 hz2 hc hkp hlt hk hzl hzy
      go_wp2_with fail
      exact bodyPost_end (v := .tuple #[]) (by simp [results, Tryz.results61, go_sem]) rfl ⟨rfl, HC.out, HKP.out⟩
end
section
open Go.RowKit

theorem ownsRow_reads {α : Type} {val : α → Value} {w : World} {base : Nat} {e : TypeId} {v : Value} {n : Nat} {xs : List α} (h : w.ownsRow base e 1 v n (xs.map val)) (B : Nat) :
    ∃ b, ((v.ownBlock = none ∧ b = B) ∨ v.ownBlock = some b) ∧ HasS val false b 0 w.heap.size w v xs := by
  have hl : xs.length = n := by have := h.1; rw [List.length_map, Nat.mul_one] at this; exact this
  rcases h.2 with ⟨rfl, h0⟩ | ⟨g, cap, cur, rfl, hg, hh, hc, _⟩
  · have : xs = [] := List.eq_nil_of_length_eq_zero (by omega)
    subst this
    exact ⟨B, .inl ⟨rfl, rfl⟩, HasS.empty ..⟩
  · have hg2 := (Array.getElem?_eq_some_iff.1 hh).1
    refine ⟨g, .inr rfl, some ⟨g, 0, none⟩, cap, by rw [hl], by omega, fun _ => ⟨0, rfl, Nat.zero_le _, hg2, hg2, fun j x hj => ?_, fun hf => by cases hf⟩⟩
    have := h.cells (g := g) rfl j (val x) (by rw [List.getElem?_map, hj]; rfl)
    rw [Addr.add_lit] at this
    exact this

/-- A kind whose units are their boxes, and read nothing else. -/
def Kd.plain (k : Kd) : Prop := k ≠ .delay ∧ k ≠ .slicer
theorem uC_plain {k : Kd} (h : k.plain) (m : Mw) (S : Option Addr) (sp : Nat) (P : Option Addr) (pp : Nat) (L : Option Addr) (lp : Nat) : uC k { m with S := S, sp := sp, P := P, pp := pp, L := L, lp := lp } = uC k m := by
  cases k
  · rfl
  · rfl
  · rfl
  · exact absurd rfl h.1
  · rfl
  · exact absurd rfl h.2
  · rfl
  · rfl
theorem Kd.num_inj : ∀ {a b : Kd}, a.num = b.num → a = b := by
  intro a b h
  cases a <;> cases b <;> first | rfl | (simp [Kd.num] at h)

/-- The stations of a rack, without its memory: module, feeds, kind. -/
def stOf (kds : List Kd) (fd : List (List Nat)) (i : Nat) (t : Nat × List Nat × (Kd × Nat)) : Prop := t.1 = i ∧ fd[i]? = some t.2.1 ∧ kds[i]? = some t.2.2.1
/-- The unit of a module whose ring holds a list. -/
def unM (k : Kd) (m : Mw) (r : List Cx × Tab) : Un := match k with
  | .delay => .ring r.1 m.a.toNat
  | k => .box (uC k m)
theorem unM_box {k : Kd} (h : k ≠ .delay) (m : Mw) (r : List Cx × Tab) : unM k m r = .box (uC k m) := by
  cases k <;> first | rfl | exact absurd rfl h
/-- The units of modules. -/
def unOf (kds : List Kd) (Ms : List Mw) (Rs : List (List Cx × Tab)) : List Un := ((kds.zip Ms).zip Rs).map fun p => unM p.1.1 p.1.2 p.2
/-- A module that is no slicer; a delay's ring is full. -/
def GoodM (k : Kd) (x : Mw) (r : List Cx × Tab) : Prop := x.k = k.num ∧ k ≠ .slicer ∧ (k = .delay → 0 < r.1.length ∧ 0 ≤ x.a ∧ x.cnt = (r.1.length : Int))

/-- A circuit of a rack without slicers. -/
def MixC (n m : Nat) (kds : List Kd) (Ms : List Mw) (Rs : List (List Cx × Tab)) (Cs : List (Nat × Nat)) (os : List Int) (w : World) (e : Ending) (w' : World) : Prop :=
  ∃ (W : List Nat) (Q O bU bS bC : Nat) (A : Option Addr) (q : Nat) (us : List (Kd × Nat)) (ss : List (Nat × List Nat × (Kd × Nat))) (fs : List (List Nat)),
    e = .returned (.tuple #[.pointer (some ⟨Q, 0, none⟩), .bool true]) ∧ Span 0 0 w w' ∧ (∀ b ∈ W, w.heap.size ≤ b) ∧ HasC 2 cabC bC w.heap.size w'.heap.size w' (.slice A m q) Cs ∧ bC ∉ W ∧
    us.map (·.1) = kds ∧ ss.length = os.length ∧ (∀ (j i : Nat) t, os[j]? = some (i : Int) → ss[j]? = some t → stOf kds (feedsC n Cs) i t) ∧
    CircAt W W Q O n w'.heap.size bU bS (.slice A m q) us ss fs (unOf kds Ms Rs, List.replicate n (0, 0)) w'

theorem feedsC_lt (n : Nat) (Cs : List (Nat × Nat)) (h : ∀ c ∈ Cs, c.1 < n) : ∀ l ∈ feedsC n Cs, ∀ f ∈ l, f < n := by
  have key : ∀ (Cs : List (Nat × Nat)) (L : List (List Nat)), (∀ c ∈ Cs, c.1 < n) → (∀ l ∈ L, ∀ f ∈ l, f < n) → ∀ l ∈ Cs.foldl feedOne L, ∀ f ∈ l, f < n := by
    intro Cs
    induction Cs with
    | nil => intro L _ h l hl; exact h l hl
    | cons c Cs ih =>
      intro L hc h
      refine ih (feedOne L c) (fun d hd => hc d (List.mem_cons_of_mem _ hd)) (fun l hl f hf => ?_)
      unfold feedOne at hl
      rcases List.mem_or_eq_of_mem_set hl with hl | rfl
      · exact h l hl f hf
      · rcases List.mem_append.1 hf with hf | hf
        · rw [List.getD_eq_getElem?_getD] at hf
          cases hx : L[c.2]? with
          | none => rw [hx] at hf; simp at hf
          | some x => rw [hx] at hf; exact h x (List.mem_of_getElem? hx) f hf
        · simp at hf; subst hf; exact hc c (List.mem_cons_self ..)
  exact key Cs _ h (fun l hl f hf => by rw [List.eq_of_mem_replicate hl] at hf; simp at hf)

theorem NewC.mix {n m : Nat} {Ms : List Mw} {Rs : List (List Cx × Tab)} {Cs : List (Nat × Nat)} {os : List Int} {w w' : World} {e : Ending} (h : NewC n m Ms Rs Cs os w e w') (kds : List Kd) (hk : ∀ (i : Nat) (kd : Kd) (x : Mw) (r : List Cx × Tab), kds[i]? = some kd → Ms[i]? = some x → Rs[i]? = some r → GoodM kd x r) (hkl : kds.length = n) (hml : Ms.length = n) (hrl : Rs.length = n) (hn : 0 < n ∧ n ≤ 16) (hos : os.length = n ∧ ∀ i ∈ os, ∃ t : Nat, i = (t : Int) ∧ t < n) (hcs : ∀ c ∈ Cs, c.1 < n) (hc40 : Cs.length ≤ 40) : MixC n m kds Ms Rs Cs os w e w' := by
  obtain ⟨Q, O, F, Z, b, A, q, bC, U, V, Ns, us, vs, sts, w2, rfl, s2, hbb, hcp, hNs, hcab, sW, hO, hQ, hF, hZ, hq, hout, hun, hux, huo, hfd, hst⟩ := h
  have kin : ∀ (i : Nat) (x : Kd × Nat), us[i]? = some x → kds[i]? = some x.1 ∧ ∃ m' r, Ms[i]? = some m' ∧ Rs[i]? = some r ∧ ∀ W : List Nat, (∀ b ∈ W, w2.heap.size ≤ b) → HasU W (unM x.1 m' r) x [x.2] w' := fun i x hx => by
    obtain ⟨_, nm, h1, h2, h3⟩ := hun.box i x hx
    obtain ⟨m', r, bs, lo', mid', hi', g1, g2, g3, _, _, g4⟩ := hcp i nm h1
    obtain ⟨kd, hkd⟩ := getElem?_some (xs := kds) (j := i) (by rw [hkl, ← hml]; exact (List.getElem?_eq_some_iff.1 g1).1)
    obtain ⟨g5, g6, g7⟩ := hk i kd m' r hkd g1 g2
    have : nm.k = m'.k := by rw [g3]
    have hkx : kd = x.1 := Kd.num_inj (by rw [← g5, ← this, h2])
    subst hkx
    refine ⟨hkd, m', r, g1, g2, fun W hW => ?_⟩
    by_cases hd : x.1 = .delay
    · obtain ⟨e1, e2, e3⟩ := g7 hd
      have hr := g4.1
      obtain ⟨A', c', e4, _, hc⟩ := id hr
      injection e4 with e5 e6 e7
      obtain ⟨off, _, _, _, hbs, _⟩ := hc e1
      rw [hd] at h3 ⊢
      have ha : nm.a = ((m'.a.toNat : Nat) : Int) := by
        have : nm.a = m'.a := by rw [g3]
        rw [this]; omega
      have hcn : nm.cnt = (r.1.length : Int) := by
        have : nm.cnt = m'.cnt := by rw [g3]
        rw [this, e3]
      refine ⟨hd, rfl, e1, nm.S, nm.sp, bs, fun hm => by have := hW bs hm; omega, ?_, ?_⟩
      · have h4 : uC .delay nm = #[.slice nm.S r.1.length nm.sp, .int .i64 ((m'.a.toNat : Nat) : Int), .int .i64 (r.1.length : Int)] := by
          show #[Value.slice nm.S nm.sn nm.sp, .int .i64 nm.a, .int .i64 nm.cnt] = _
          rw [e6, ha, hcn]
        rw [← h4]; exact h3
      · have h5 := (hr.bare.span sW (.inl (Nat.le_refl _))).weak (lo' := 0) (hi' := w'.heap.size) (Nat.zero_le _) (.inr (Nat.le_refl _))
        rw [← e6]; exact h5
    · rw [unM_box hd]
      refine ⟨hd, rfl, ?_⟩
      rw [g3, uC_plain ⟨hd, g6⟩] at h3
      exact h3
  have hNb := hfd.box.1
  obtain ⟨bU, hbU, hU⟩ := ownsRow_reads hun.own Q
  have hfl : ∀ (i : Nat) (v : Value) (l : List Nat), vs[i]? = some v → (feedsC n Cs)[i]? = some l → ∃ bF, F ≤ bF ∧ bF < w'.heap.size ∧ HasS nV false bF 0 w'.heap.size w' v l := fun i v l hv hl => by
    have ho := hfd.own i v l hv hl
    obtain ⟨bF, hb1, hb2⟩ := ownsRow_reads ho F
    rcases hb1 with ⟨_, rfl⟩ | hb1
    · exact ⟨_, Nat.le_refl _, hNb, hb2⟩
    · have := ho.lt bF hb1
      exact ⟨bF, by omega, this.2, hb2⟩
  obtain ⟨bS, hS, hSl, hSb⟩ := ownsRow_hasC (by decide) stC_len hst.own
  have hstl := hst.len
  have hSown := hSb (by rw [hstl, hos.1]; exact hn.1)
  have hbS := hst.own.lt bS hSown
  have hul := hun.len
  have hub := hun.own.lt
  have hUown : U.ownBlock = some bU := by
    rcases hbU with ⟨h1, _⟩ | h1
    · obtain ⟨g, c, rfl, _⟩ := hun.own.form hn.1
      cases h1
    · exact h1
  have hbU2 := hub bU hUown
  have hWmem : ∀ x ∈ us, Q < x.2 ∧ x.2 < F ∧ x.2 < w'.heap.size := fun x hx => by
    obtain ⟨i, hi⟩ := List.getElem?_of_mem hx
    obtain ⟨h1, _, _, _, h4⟩ := hun.box i x hi
    exact ⟨h1, hux x hx, h4.1⟩
  have inW : ∀ k, k ∈ O :: us.map (·.2) → k = O ∨ ∃ x ∈ us, x.2 = k := fun k hk => by
    rcases List.mem_cons.1 hk with h | h
    · exact .inl h
    · obtain ⟨x, hx, he⟩ := List.mem_map.1 h
      exact .inr ⟨x, hx, he⟩
  have nin : ∀ k, (k = Q ∨ F ≤ k ∨ k = bU) → k ∉ O :: us.map (·.2) := fun k hk hm => by
    rcases inW k hm with rfl | ⟨x, hx, rfl⟩
    · omega
    · have := hWmem x hx
      have := hun.off bU hUown x hx
      omega
  have hw2 := s2.size
  have hsw := sW.size
  have hsl : (flatG stC sts).length = sts.length * 3 := flatG_length stC_len sts
  have hkus : us.map (·.1) = kds := by
    apply List.ext_getElem?
    intro i
    rw [List.getElem?_map]
    cases hx : us[i]? with
    | none =>
      have : us.length ≤ i := List.getElem?_eq_none_iff.1 hx
      rw [List.getElem?_eq_none (by omega)]; rfl
    | some x => rw [(kin i x hx).1]; rfl
  have hfl2 : (feedsC n Cs).length = n := hfd.len.2
  -- the stations
  have hss : ∀ (j : Nat) (s : Nat × Value × (Kd × Nat)), sts[j]? = some s → s.1 < n ∧ os[j]? = some (s.1 : Int) ∧ ∃ l, (feedsC n Cs)[s.1]? = some l ∧ us[s.1]? = some s.2.2 ∧ vs[s.1]? = some s.2.1 := fun j s hs => by
    obtain ⟨h1, h2, h3⟩ := hst.is j s hs
    obtain ⟨t, h4, h5⟩ := hos.2 _ (List.mem_of_getElem? h1)
    have h6 : s.1 < n := by omega
    obtain ⟨l, hl⟩ := getElem?_some (xs := feedsC n Cs) (j := s.1) (by omega)
    exact ⟨h6, h1, l, hl, h3, h2⟩
  obtain ⟨bC2, hC1, hC2⟩ : ∃ bC2, bC2 ∉ O :: us.map (·.2) ∧ HasC 2 cabC bC2 w.heap.size w'.heap.size w' (.slice A m q) Cs := by
    by_cases hp : 0 < Cs.length
    · refine ⟨bC, fun hm => ?_, (hcab.keep sW).weak (by omega) (.inl hsw)⟩
      obtain ⟨A', c', e', _, hcc⟩ := hcab
      obtain ⟨off, _, _, h2, _⟩ := hcc hp
      rcases inW _ hm with rfl | ⟨x, hx, hxe⟩
      · omega
      · have := hWmem x hx; omega
    · have h0 : Cs = [] := List.eq_nil_of_length_eq_zero (by omega)
      have hm0 := hcab.len.1
      subst h0
      simp at hm0
      subst hm0
      exact ⟨Q, nin Q (.inl rfl), HasC.empty ..⟩
  refine ⟨O :: us.map (·.2), Q, O, bU, bS, bC2, A, q, us, sts.map (fun s => (s.1, (feedsC n Cs).getD s.1 [], s.2.2)), us.map (fun x => [x.2]), rfl, s2.trans sW, ?_, hC2, hC1, hkus, by rw [List.length_map, hstl], ?_, ⟨⟨?_, ?_, ?_, ?_, ?_⟩, ⟨?_, ?_, ?_, ?_, ?_, ?_⟩, by simp, hout⟩⟩
  · intro k hk
    rcases inW k hk with rfl | ⟨x, hx, rfl⟩
    · omega
    · have := hWmem x hx; omega
  · intro j i t hoj hsj
    rw [List.getElem?_map, Option.map_eq_some_iff] at hsj
    obtain ⟨s, hs, rfl⟩ := hsj
    obtain ⟨h1, h2, l, h3, h4, h5⟩ := hss j s hs
    rw [hoj] at h2
    injection h2 with h2
    have h2 : i = s.1 := by omega
    subst h2
    exact ⟨rfl, by simp [List.getD_eq_getElem?_getD, h3], (kin _ _ h4).1⟩
  · exact ⟨nin Q (.inl rfl), nin bU (.inr (.inr rfl)), nin bS (.inr (.inl (by omega))), List.mem_cons_self ..⟩
  · exact ⟨hn.2, by rw [List.length_map, hstl, hos.1]; exact hn.2, hul⟩
  · refine ⟨U, V, sts, hq, hU, by rw [List.length_map], hS.weak (Nat.zero_le _) (.inl (Nat.le_refl _)), fun j s t hs ht => ?_⟩
    rw [List.getElem?_map, hs] at ht
    cases ht
    obtain ⟨h1, h2, l, h3, h4, h5⟩ := hss j s hs
    obtain ⟨bF, hb1, hb2, hb3⟩ := hfl s.1 s.2.1 l h5 h3
    refine ⟨rfl, rfl, bF, nin bF (.inr (.inl hb1)), hb2, ?_⟩
    simp only [List.getD_eq_getElem?_getD, h3, Option.getD_some]
    exact hb3
  · refine ⟨fun k hk => ?_, Nat.le_refl _, hq.1, hbU2.2, hbS.2⟩
    rcases inW k hk with rfl | ⟨x, hx, rfl⟩
    · omega
    · exact (hWmem x hx).2.2
  · intro j t ht
    rw [List.getElem?_map, Option.map_eq_some_iff] at ht
    obtain ⟨s, hs, rfl⟩ := ht
    obtain ⟨h1, h2, l, h3, h4, h5⟩ := hss j s hs
    simp only [List.getD_eq_getElem?_getD, h3, Option.getD_some]
    refine ⟨h1, h4, ?_, feedsC_lt n Cs hcs l (List.mem_of_getElem? h3)⟩
    have := feedsC_most n Cs l (List.mem_of_getElem? h3)
    omega
  · exact ⟨by simp, by simp [unOf, hkl, hml, hul, hrl]⟩
  · intro i x f u hx hf hu
    rw [List.getElem?_map, hx] at hf
    cases hf
    obtain ⟨h1, m', r, h2, h3, h4⟩ := kin i x hx
    unfold unOf at hu
    rw [List.getElem?_map] at hu
    have hz : ((kds.zip Ms).zip Rs)[i]? = some ((x.1, m'), r) := by rw [List.getElem?_zip_eq_some, List.getElem?_zip_eq_some]; exact ⟨⟨h1, h2⟩, h3⟩
    rw [hz] at hu
    cases hu
    exact h4 _ (fun k hk => by
      rcases inW k hk with rfl | ⟨y, hy, rfl⟩
      · omega
      · have := hWmem y hy; omega)
  · intro i f hf b' hb'
    rw [List.getElem?_map, Option.map_eq_some_iff] at hf
    obtain ⟨x, hx, rfl⟩ := hf
    simp at hb'
    subst hb'
    refine ⟨List.mem_cons_of_mem _ (List.mem_map.2 ⟨x, List.mem_of_getElem? hx, rfl⟩), ?_⟩
    have := hWmem x (List.mem_of_getElem? hx)
    omega
  · intro i j f f' hf hf' b' hb' hb2
    rw [List.getElem?_map, Option.map_eq_some_iff] at hf hf'
    obtain ⟨x, hx, rfl⟩ := hf
    obtain ⟨y, hy, rfl⟩ := hf'
    simp at hb' hb2
    exact hun.inj i j x y hx hy (by rw [← hb', ← hb2])
  · exact fun b hb => hb
  · intro k hk
    rcases inW k hk with rfl | ⟨x, hx, rfl⟩
    · have := hq.1; omega
    · exact (hWmem x hx).2.2
end
end Go.Proofs.YtkjlodoppmipfaaGreat
