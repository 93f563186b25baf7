/- The samples that are put into a run; the length of a run. A circuit is listened to; the rack that it is then. A circuit is stepped many times; the rack that it is then. -/
import Derived.Test.YtkjlodoppmipfaaGreatJg11
import Derived.Test.YtkjlodoppmipfaaGreatJg12
import Derived.Outline
import Derived.Test.YtkjlodoppmipfaaGreatJg20
namespace Go.Proofs.YtkjlodoppmipfaaGreat
section
open Go.RowKit

set_option maxRecDepth 100000 in
set_option maxHeartbeats 1000000 in
theorem sampleOf_any (xs : List Cx) (i : Nat) (hi : i ≤ 1048576) (o : Bool) (b lo hh : Nat) (v : Value) (w : World) (hx : HasS cxV o b lo hh w v xs) (hlen : xs.length ≤ 4194304) :
    Calls Tryz.prog 46 #[v, .int .i64 (i : Int)] w fun e w' => e = .returned (.complex .f32 (xs.getD i (0, 0)).1 (xs.getD i (0, 0)).2) ∧ w = w' := by
  obtain ⟨A, cap, rfl, hcap, hc⟩ := hx
  obtain ⟨len, hl⟩ : ∃ len, len = xs.length := ⟨_, rfl⟩
  have HL := Lib.hid hl
  have HC := Lib.hid hc
  rw [← hl] at hcap hlen ⊢
  have j1 : (0 : Int) ≤ (i : Int) := by omega
  obtain ⟨z, hz⟩ : ∃ z, z = xs.getD i (0, 0) := ⟨_, rfl⟩
  have HZ := Lib.hid hz
  rw [← hz]
  clear hl hc hz
  by_cases hlt : i < len
  · obtain ⟨off, rfl, -, -, -, hcell, -⟩ := HC.out (by rw [← HL.out]; omega)
    obtain ⟨⟨x, y⟩, hx⟩ := getElem?_some (xs := xs) (j := i) (by rw [← HL.out]; exact hlt)
    have hck : w.cell? ⟨b, off + i, none⟩ = some (.complex .f32 x y) := hcell i _ hx
    have HG : Hid (xs.getD i (0, 0) = (x, y)) := by unfold Hid; rw [List.getD_eq_getElem?_getD, hx]; rfl
    have j2 : (i : Int) < (len : Int) := by omega
    clear hcell hx
    go_enter Tryz.func46, Tryz.ntmps46
    go_wp2_with fail
    go_ret
    rw [HZ.out.trans HG.out]
    exact ⟨rfl, rfl⟩
  · have HG : Hid (xs.getD i (0, 0) = (0, 0)) := by unfold Hid; rw [List.getD_eq_getElem?_getD, List.getElem?_eq_none (by rw [← HL.out]; omega)]; rfl
    have j2 : ¬ (i : Int) < (len : Int) := by omega
    go_enter Tryz.func46, Tryz.ntmps46
    go_wp2_with fail
    go_ret
    rw [HZ.out.trans HG.out]
    exact ⟨rfl, rfl⟩

set_option maxRecDepth 100000 in
theorem isRunLength_true (n : Nat) (h : n ≤ 500) (w : World) : Calls Tryz.prog 21 #[.int .i64 (n : Int)] w fun e w' => e = .returned (.bool true) ∧ w = w' := by
  have h1 : (0 : Int) ≤ (n : Int) := by omega
  have h2 : (n : Int) ≤ 500 := by omega
  clear h
  go_enter Tryz.func21, Tryz.ntmps21
  go_wp2_with fail
  go_ret
  exact ⟨rfl, rfl⟩
end
section
open Go.RowKit

/-- A step of a circuit leads from s to s'. -/
def StepTo (W : List Nat) (Q O n H bU bS : Nat) (C : Value) (us : List (Kd × Nat)) (ss : List (Nat × List Nat × (Kd × Nat))) (fs : List (List Nat)) (inn : Int) (z : Cx) (s s' : List Un × List Cx) : Prop :=
  ∀ X w, CircAt W X Q O n H bU bS C us ss fs s w → Calls Tryz.prog 45 #[.pointer (some ⟨Q, 0, none⟩), .int .i64 inn, .complex .f32 z.1 z.2] w fun e w' => e = .returned (.tuple #[]) ∧ CircAt W X Q O n H bU bS C us ss fs s' w' ∧ Keeps W w w'

theorem CircAt.out {W X : List Nat} {Q O n H bU bS : Nat} {C : Value} {us : List (Kd × Nat)} {ss : List (Nat × List Nat × (Kd × Nat))} {fs : List (List Nat)} {s : List Un × List Cx} {w : World} (h : CircAt W X Q O n H bU bS C us ss fs s w) {i : Nat} {y : Cx} (hy : s.2[i]? = some y) : w.cell? ⟨Q, 3, none⟩ = some (.slice (some ⟨O, 0, none⟩) n n) ∧ w.cell? ⟨O, i, none⟩ = some (.complex .f32 y.1 y.2) := by
  obtain ⟨h1, _, h3, h4⟩ := h
  obtain ⟨U, V, sts, hq, _⟩ := h1.box
  refine ⟨hq.cells 3, ?_⟩
  obtain ⟨A, c, e, _, hc⟩ := h4
  injection e with e1 e2 e3
  have hl := (List.getElem?_eq_some_iff.1 hy).1
  obtain ⟨off, e4, _, _, _, h5, _⟩ := hc (by omega)
  rw [← e1] at e4
  injection e4 with e4
  injection e4 with e5 e6
  have := h5 i y hy
  rw [← e6, Nat.zero_add] at this
  exact this
theorem Keeps.undrawn1 {W : List Nat} {a c : World} (h : Keeps W a.drew c) : Keeps W a c := ⟨h.os, h.tape, h.output, h.size, h.block⟩

set_option maxRecDepth 100000 in
set_option maxHeartbeats 8000000 in
theorem hear_any {W X : List Nat} {Q O n H bU bS : Nat} {C : Value} {us : List (Kd × Nat)} {ss : List (Nat × List Nat × (Kd × Nat))} {fs : List (List Nat)} (inn : Int) (o : Nat) (xs : List Cx) (hx : xs.length ≤ 4194304) (i : Nat) (hi : i ≤ 1048576) (s s' : List Un × List Cx) (hst : StepTo W Q O n H bU bS C us ss fs inn (xs.getD i (0, 0)) s s') (y : Cx) (hy : s'.2[o]? = some y) (ob : Bool) (b lo hh : Nat) (v : Value) (w : World) (hv : HasS cxV ob b lo hh w v xs) (hc : CircAt W X Q O n H bU bS C us ss fs s w) :
    Calls Tryz.prog 26 #[.pointer (some ⟨Q, 0, none⟩), .agg #[.int .i64 inn, .int .i64 (o : Int)], v, .int .i64 (i : Int)] w fun e w' => e = .returned (.complex .f32 y.1 y.2) ∧ CircAt W X Q O n H bU bS C us ss fs s' w' ∧ Keeps W w w' := by
  obtain ⟨y1, y2⟩ := y
  have h16 : (n : Int) ≤ 16 := by have := hc.1.sizes.1; omega
  have HST := Lib.hid hst
  have HY := Lib.hid hy
  have HV := Lib.hid hv
  have HC := Lib.hid hc
  have HX := Lib.hid hx
  have HI := Lib.hid hi
  have ik : (i : Int) ≤ 1048576 := by omega
  obtain ⟨Av, cv, rfl, -, -⟩ := id hv
  clear hst hy hv hc hx hi
  go_enter Tryz.func26, Tryz.ntmps26
  go_upto_region 1 with fail
  have BX := Lib.hid (Bx.new w #[.int .i64 inn, .int .i64 (o : Int)] 44)
  have SA := Lib.hid ((Span.refl 0 0 w).alloc (.cells #[.int .i64 inn, .int .i64 (o : Int)] 44))
  obtain ⟨PB, hPB⟩ : ∃ t, t = w.heap.size := ⟨_, rfl⟩
  have HPB := Lib.hid hPB
  rw [← hPB] at BX ⊢
  clear hPB
  generalize w.alloc (.cells #[.int .i64 inn, .int .i64 (o : Int)] 44) = wA at *
  have SMP := Lib.hid (sampleOf_any xs i HI.out ob b lo hh _ wA.drew (HV.out.span SA.out.drew (.inl (Nat.le_refl _))) HX.out)
  have STP := Lib.hid (HST.out X wA.drew (HC.out.far SA.out.drew))
  have pA : wA.cell? ⟨PB, 0, none⟩ = some (.int .i64 inn) := BX.out.cells 0
  go_cut [] (fun wx => CircAt W X Q O n H bU bS C us ss fs s' wx ∧ Keeps W w wx ∧ Bx PB #[.int .i64 inn, .int .i64 (o : Int)] wx)
  case first => as_aux_lemma =>
    go_region_held3 (fun w' => w'.cell? ⟨PB, 0, none⟩ = some (.int .i64 inn))
      (first
        | exact pA
        | exact p5)
      ((first
        | (go_at_call 46; refine SMP.out.mono ?_; rintro _ _ ⟨rfl, rfl⟩)
        | (go_at_call 45; refine STP.out.mono ?_; rintro _ w5 ⟨rfl, c5, k5⟩
           have K5 := Lib.hid k5.undrawn1
           have C5 := Lib.hid c5
           have hn : PB ∉ W := fun hm => by have := HC.out.1.top.1 PB hm; have := HC.out.1.top.2.1; have := HPB.out; omega
           have B5 := Lib.hid (BX.out.keeps K5.out hn)
           have p5 : w5.cell? ⟨PB, 0, none⟩ = some (.int .i64 inn) := B5.out.cells 0
           clear c5 k5 hn)))
    all_goals
      go_wp2_with fail
      go_meet
      exact ⟨C5.out, (Keeps.span SA.out).trans K5.out, B5.out⟩
  case rest =>
    obtain ⟨c5, k5, b5⟩ := hcut
    have q1 := (c5.out HY.out).1
    have q2 := (c5.out HY.out).2
    have p1 := b5.cells 1
    have C5 := Lib.hid c5
    have K5 := Lib.hid k5
    have on : o < n := by
      have h := (List.getElem?_eq_some_iff.1 HY.out).1
      rw [c5.2.2.1] at h; exact h
    have j1 : (0 : Int) ≤ (o : Int) := by omega
    have j2 : (o : Int) < (n : Int) := by omega
    simp only at q2
    clear pA c5 k5 b5 on
    go_wp2_with fail
    go_region_held3 (fun w' => w'.cell? ⟨Q, 3, none⟩ = some (.slice (some ⟨O, 0, none⟩) n n) ∧ w'.cell? ⟨PB, 1, none⟩ = some (.int .i64 (o : Int)) ∧ w'.cell? ⟨O, o, none⟩ = some (.complex .f32 y1 y2))
      (first | exact ⟨q1, p1, q2⟩)
      ((fail))
    all_goals
      go_wp2_with fail
      go_ret
      exact ⟨rfl, C5.out.far ((Span.refl 0 0 _).drew), K5.out.trans (Keeps.span ((Span.refl 0 0 _).drew))⟩
end
section
open Go.RowKit

set_option maxRecDepth 100000 in
set_option maxHeartbeats 8000000 in
theorem listen_any {W X : List Nat} {Q O n H bU bS : Nat} {C : Value} {us : List (Kd × Nat)} {ss : List (Nat × List Nat × (Kd × Nat))} {fs : List (List Nat)} (inn : Int) (o : Nat) (xs : List Cx) (hx : xs.length ≤ 4194304) (N : Nat) (hN : N ≤ 500) (St : Nat → List Un × List Cx) (hst : ∀ i, i < N → StepTo W Q O n H bU bS C us ss fs inn (xs.getD i (0, 0)) (St i) (St (i + 1))) (ys : List Cx) (hyl : ys.length = N) (hys : ∀ (i : Nat) (y : Cx), ys[i]? = some y → (St (i + 1)).2[o]? = some y) (ob : Bool) (b lo hh : Nat) (v : Value) (w : World) (hb : b ∉ W ∧ b < w.heap.size) (hv : HasS cxV ob b lo hh w v xs) (hc : CircAt W X Q O n H bU bS C us ss fs (St 0) w) :
    Calls Tryz.prog 28 #[.pointer (some ⟨Q, 0, none⟩), .agg #[.int .i64 inn, .int .i64 (o : Int)], v, .int .i64 (N : Int)] w fun e w' => ∃ g, e = .returned (.slice (some ⟨g, 0, none⟩) N N) ∧ w.heap.size ≤ g ∧ HasS cxV true g g (g + 1) w' (.slice (some ⟨g, 0, none⟩) N N) ys ∧ CircAt W (g :: X) Q O n H bU bS C us ss fs (St N) w' ∧ Keeps W w w' := by
  have HST := Lib.hid hst
  have HYL := Lib.hid hyl
  have HYS := Lib.hid hys
  have HV := Lib.hid hv
  have HC := Lib.hid hc
  have HX := Lib.hid hx
  have HB := Lib.hid hb
  have iN : (N : Int) ≤ 500 := by omega
  have HN := Lib.hid hN
  obtain ⟨Av, cv, rfl, -, -⟩ := id hv
  have hmk : ∀ V : World, (Instr.makeSlice 25 (.int .i64 (N : Int)) (.int .i64 (N : Int))).run Tryz.prog V = .ok (.slice (some ⟨V.heap.size, 0, none⟩) N N) (V.alloc (.cells (zerosV (.complex .f32 0 0) N) 23)) := fun V => run_make_zeros (P := Tryz.prog) V 25 23 (.complex .f32 0 0) 8 Tryz.underlying25 info_c64 rfl N (by omega) (by omega)
  clear hst hyl hys hv hc hx hb hN
  go_enter Tryz.func28, Tryz.ntmps28
  go_wp2_with fail
  clear hmk
  have BX := Lib.hid ((Bx.new w #[.int .i64 inn, .int .i64 (o : Int)] 44).alloc (.cells (zerosV (.complex .f32 0 0) N) 23))
  have SA := Lib.hid (((Span.refl 0 0 w).alloc (.cells #[.int .i64 inn, .int .i64 (o : Int)] 44)).alloc (.cells (zerosV (.complex .f32 0 0) N) 23))
  have HZ := hasS_zc (w.alloc (.cells #[.int .i64 inn, .int .i64 (o : Int)] 44)) N
  rw [show (w.alloc (.cells #[.int .i64 inn, .int .i64 (o : Int)] 44)).heap.size = w.heap.size + 1 by simp] at HZ
  have HZ := Lib.hid HZ
  have EZ : Hid (((w.alloc (.cells #[.int .i64 inn, .int .i64 (o : Int)] 44)).alloc (.cells (zerosV (.complex .f32 0 0) N) 23)).heap.size = w.heap.size + 2) := by unfold Hid; simp
  generalize (w.alloc (.cells #[.int .i64 inn, .int .i64 (o : Int)] 44)).alloc (.cells (zerosV (.complex .f32 0 0) N) 23) = wB at *
  obtain ⟨G, hG⟩ : ∃ t, t = w.heap.size + 1 := ⟨_, rfl⟩
  obtain ⟨PB, hPB⟩ : ∃ t, t = w.heap.size := ⟨_, rfl⟩
  rw [← hG] at HZ ⊢
  rw [← hPB] at BX
  have HG := Lib.hid hG
  have HPB := Lib.hid hPB
  have HHW : Hid (H ≤ w.heap.size ∧ ∀ b ∈ W, b < H) := ⟨HC.out.1.top.2.1, HC.out.1.top.1⟩
  rw [← hPB]
  clear hG hPB
  go_loopw [15] (fun c wr => ∃ (k : Nat) (zs : List Cx), k ≤ N ∧ c = .int .i64 k ∧ zs.length = N ∧ (∀ i, i < k → zs[i]? = ys[i]?) ∧ HasS cxV true G G (G + 1) wr (.slice (some ⟨G, 0, none⟩) N N) zs ∧ CircAt W (G :: X) Q O n H bU bS C us ss fs (St k) wr ∧ Bx PB #[.int .i64 inn, .int .i64 (o : Int)] wr ∧ Keeps (G :: W) wB wr) (fun c _ => N - (intOf c).toNat)
  case atStart => exact ⟨0, List.replicate N (0, 0), Nat.zero_le _, rfl, by simp, fun i hi => absurd hi (Nat.not_lt_zero _), HZ.out, HC.out.more SA.out (by have := HG.out; omega) (by have := HG.out; have := EZ.out; omega), BX.out, Keeps.refl ..⟩
  case round =>
    clear HZ BX HC
    obtain ⟨k, zs, hk, rfl, hzl, hzs, hz, hc, hp, hkp⟩ := hrel
    by_cases hlt : k < N
    · obtain ⟨⟨y1, y2⟩, hy⟩ := getElem?_some (xs := ys) (j := k) (by rw [HYL.out]; exact hlt)
      have hKW : Keeps (G :: W) w wr := (Keeps.span SA.out).trans hkp
      have HE := Lib.hid (hear_any inn o xs HX.out k (by have := HN.out; omega) (St k) (St (k + 1)) (HST.out k hlt) (y1, y2) (HYS.out k _ hy) ob b lo hh _ wr (HV.out.keeps hKW (fun hm => by
        rcases List.mem_cons.1 hm with rfl | hm
        · have := HB.out.2; have := HG.out; omega
        · exact HB.out.1 hm)) hc)
      have p := hp.cells
      have HZL := Lib.hid hzl
      have HZS := Lib.hid hzs
      have HZ := Lib.hid hz
      have HP := Lib.hid hp
      have HKP := Lib.hid hkp
      have HLT := Lib.hid hlt
      have HY := Lib.hid hy
      have j1 : (0 : Int) ≤ (k : Int) := by omega
      have j2 : (k : Int) < (N : Int) := by omega
      clear hzl hzs hz hc hp hkp hlt hy hk hKW
      go_wp2_with fail
      refine HE.out.mono ?_
      rintro _ w5 ⟨rfl, c5, k5⟩
      have hGW : G ∉ W := fun hm => by have := HHW.out.2 G hm; have := HG.out; have := HHW.out.1; omega
      have hPW : PB ∉ W := fun hm => by have := HHW.out.2 PB hm; have := HPB.out; have := HHW.out.1; omega
      have Z5 := HZ.out.keeps k5 hGW
      obtain ⟨A5, cc5, e5, -, hpc⟩ := id Z5
      injection e5 with e10 e11 e12
      obtain ⟨offO, e13, -, -, -, hpc2, hpf⟩ := hpc (by have := HZL.out; have := HLT.out; omega)
      rw [← e10] at e13
      injection e13 with e13
      injection e13 with e14 e15
      subst e15
      obtain ⟨z0, hz0⟩ := getElem?_some (xs := zs) (j := k) (by rw [HZL.out]; exact HLT.out)
      have oc5 : w5.cell? ⟨G, k, none⟩ = some (cxV z0) := by
        have h := hpc2 k _ hz0
        rwa [Nat.zero_add] at h
      have of5 : w5.frozen? ⟨G, k, none⟩ = false := by
        have h := hpf rfl k (by have := HZL.out; have := HLT.out; omega)
        rwa [Nat.zero_add] at h
      have Z7 := Z5.putB k (y1, y2) (by rw [HZL.out]; exact HLT.out)
      rw [Nat.zero_add] at Z7
      have kG : Keeps [G] w5 (w5.setCell ⟨G, k, none⟩ (cxV (y1, y2))) := (Keeps.refl [G] w5).setCell G k (by simp) _
      have C7 := Lib.hid (c5.other kG (fun b hb => by
        have hb : b = G := by simpa using hb
        have := HG.out; have := HHW.out.1; omega) (fun b hb => by
        have hb : b = G := by simpa using hb
        rw [hb]; exact List.mem_cons_self ..))
      have P7 := Lib.hid ((HP.out.keeps k5 hPW).keeps kG (by have := HPB.out; have := HG.out; simp; omega))
      have K7 := Lib.hid ((HKP.out.trans (k5.weak (fun b hb => .inl (List.mem_cons_of_mem _ hb)))).setCell G k (by simp) (cxV (y1, y2)))
      have HZ7 := Lib.hid Z7
      clear c5 k5 hGW hPW Z5 hpc hpc2 hpf hz0 Z7 kG e10 e11 e12 e14 p
      go_wp2_with fail
      go_roundw
      case rel =>
        refine ⟨k + 1, zs.set k (y1, y2), HLT.out, by go_num, by rw [List.length_set]; exact HZL.out, fun i hi => ?_, HZ7.out, C7.out, P7.out, K7.out⟩
        by_cases he : i = k
        · subst he
          rw [List.getElem?_set_self (by rw [HZL.out]; exact HLT.out), HY.out]
        · rw [List.getElem?_set_ne (by omega)]
          exact HZS.out i (by omega)
      case measure => have := HLT.out; simp [intOf]; omega
    · have hkn : k = N := by omega
      subst hkn
      have hzy : zs = ys := by
        apply List.ext_getElem?
        intro i
        by_cases hi : i < k
        · exact hzs i hi
        · rw [List.getElem?_eq_none (by omega), List.getElem?_eq_none (by have := HYL.out; omega)]
      subst hzy
      have HZ := Lib.hid hz
      have HCC := Lib.hid hc
      have HKW := Lib.hid ((Keeps.span (W := G :: W) SA.out).trans hkp)
      clear hzl hzs hz hc hp hkp hlt hk
      go_wp2_with fail
      go_ret
      refine ⟨G, rfl, by have := HG.out; omega, HZ.out, HCC.out, HKW.out.weak (fun b hb => ?_)⟩
      rcases List.mem_cons.1 hb with rfl | hb
      · right; have := HG.out; omega
      · exact .inl hb

/-- The module that a unit is. -/
def ModU (X : List Nat) (x : Kd × Nat) (f : List Nat) (u : Un) (R : Mw → Prop) : Prop :=
  ∀ w, HasU X u x f w → Calls Tryz.prog x.1.fm #[.pointer (some ⟨x.2, 0, none⟩)] w fun e w' => ∃ m : Mw, e = .returned (.agg #[.int .i64 m.k, .complex .f32 m.t1 m.t2, .complex .f32 m.s1 m.s2, .float .f32 m.lv, .slice m.S m.sn m.sp, .int .i64 m.a, .int .i64 m.cnt, .slice m.P m.pn m.pp, .slice m.L m.ln m.lp, .int .i64 m.c, .int .i64 m.f]) ∧ R m ∧ Span 0 0 w w'

set_option maxRecDepth 100000 in
set_option maxHeartbeats 8000000 in
theorem rack_any {W X : List Nat} {Q O n H bU bS : Nat} {C : Value} {us : List (Kd × Nat)} {ss : List (Nat × List Nat × (Kd × Nat))} {fs : List (List Nat)} {s : List Un × List Cx} (R : Nat → Mw → Prop) (hm : ∀ (i : Nat) (x : Kd × Nat) (f : List Nat) (u : Un), us[i]? = some x → fs[i]? = some f → s.1[i]? = some u → ModU X x f u (R i)) (w : World) (hc : CircAt W X Q O n H bU bS C us ss fs s w) (hC : ∃ A m c, C = .slice A m c) :
    Calls Tryz.prog 27 #[.pointer (some ⟨Q, 0, none⟩)] w fun e w' => ∃ (b : Nat) (Ns : List Mw), e = .returned (.agg #[.slice (some ⟨b, 0, none⟩) n n, C]) ∧ w.heap.size ≤ b ∧ MadeK b n w' Ns ∧ Ns.length = n ∧ (∀ i m, Ns[i]? = some m → R i m) ∧ Span 0 0 w w' := by
  obtain ⟨AC, mC, cC, rfl⟩ := hC
  obtain ⟨⟨-, ⟨i16, -, hn⟩, ⟨U, V, sts, hq, hs, -, -, -⟩, -, -⟩, hus, -, -⟩ := id hc
  obtain ⟨AU, cU, rfl, -, -⟩ := id hs
  have HM := Lib.hid hm
  have HN := Lib.hid hn
  have HQ := Lib.hid hq
  have HU := Lib.hid hus
  have HS := Lib.hid hs
  have i3 : (n : Int) ≤ 16 := by omega
  have H16 := Lib.hid i16
  have q0 := (hq.alloc (.cells #[.slice none 0 0, .slice none 0 0] 37)).cells
  rw [hn] at q0 HQ HS
  have hmk : ∀ V : World, (Instr.makeSlice 34 (.int .i64 (n : Int)) (.int .i64 (n : Int))).run Tryz.prog V = .ok (.slice (some ⟨V.heap.size, 0, none⟩) n n) (V.alloc (.cells (madeCells zM (n * 11)) 32)) := fun V => run_make_mods V n (by omega)
  have q1 := ((hq.alloc (.cells #[.slice none 0 0, .slice none 0 0] 37)).alloc (.cells (madeCells zM (n * 11)) 32)).cells
  rw [hn] at q1
  clear hm hn hq hus hs hc i16
  go_enter Tryz.func27, Tryz.ntmps27
  go_wp2_with fail
  clear hmk q0 q1
  have e1 : (w.alloc (.cells #[.slice none 0 0, .slice none 0 0] 37)).heap.size = w.heap.size + 1 := by simp
  have BZ := Lib.hid ((Bx.new w #[.slice none 0 0, .slice none 0 0] 37).alloc (.cells (madeCells zM (n * 11)) 32))
  have MK := MadeK.new (w.alloc (.cells #[.slice none 0 0, .slice none 0 0] 37)) n
  rw [e1] at MK
  have MK := Lib.hid MK
  have S2 := Lib.hid (((Span.refl 0 0 w).alloc (.cells #[.slice none 0 0, .slice none 0 0] 37)).alloc (.cells (madeCells zM (n * 11)) 32))
  generalize (w.alloc (.cells #[.slice none 0 0, .slice none 0 0] 37)).alloc (.cells (madeCells zM (n * 11)) 32) = w2 at *
  obtain ⟨b, hb⟩ : ∃ t, t = w.heap.size + 1 := ⟨_, rfl⟩
  rw [← hb] at MK ⊢
  have HB := Lib.hid hb
  clear hb e1
  go_loopw [17] (fun c wr => ∃ (k : Nat) (Ns : List Mw), k ≤ n ∧ c = .int .i64 k ∧ Ns.length = k ∧ MadeK b n wr Ns ∧ (∀ i m, Ns[i]? = some m → R i m) ∧ Bx w.heap.size #[.slice none 0 0, .slice none 0 0] wr ∧ Span 0 0 w wr) (fun c _ => n - (intOf c).toNat)
  case atStart => exact ⟨0, [], Nat.zero_le _, rfl, rfl, MK.out, fun i m h => by simp at h, BZ.out, S2.out⟩
  case round =>
    clear MK BZ S2
    obtain ⟨k, Ns, hk, rfl, hNs, hmk, hR, hbz, hs⟩ := hrel
    by_cases hlt : k < n
    · obtain ⟨⟨kd, g⟩, hx⟩ := getElem?_some (xs := us) (j := k) (by rw [HN.out]; exact hlt)
      obtain ⟨f, hf⟩ := getElem?_some (xs := fs) (j := k) (by rw [HU.out.len.1, HN.out]; exact hlt)
      obtain ⟨u, hu⟩ := getElem?_some (xs := s.1) (j := k) (by rw [HU.out.len.2, HN.out]; exact hlt)
      have MU := Lib.hid (HM.out k _ f u hx hf hu wr ((HU.out.has k _ f u hx hf hu).keep hs))
      have hsr := HS.out.span hs (.inl (Nat.le_refl _))
      obtain ⟨A5, c5, e5, -, hpc⟩ := id hsr
      injection e5 with e10 e11 e12
      subst e10
      obtain ⟨offU, rfl, -, -, -, hpc2, -⟩ := hpc (by rw [HN.out]; omega)
      have uc : wr.cell? ⟨bU, offU + k, none⟩ = some (.iface kd.t (.pointer (some ⟨g, 0, none⟩))) := hpc2 k _ hx
      have cm := fun v W => Kd.meth_module kd v W
      have cc := fun args W => Kd.call_module kd args W
      have HMK := Lib.hid hmk
      have HR := Lib.hid hR
      have HBZ := Lib.hid hbz
      have HSR := Lib.hid hs
      have HNS := Lib.hid hNs
      have HLT := Lib.hid hlt
      have j1 : (0 : Int) ≤ (k : Int) := by omega
      have j2 : (k : Int) < (n : Int) := by omega
      clear hx hf hu hsr hpc hpc2 e11 e12 hmk hR hbz hs hNs hlt hk
      go_wp2_with fail
      refine MU.out.mono ?_
      rintro _ wa ⟨x, rfl, hrx, sa⟩
      have HX := Lib.hid hrx
      have MA := HMK.out.span sa (.inl (Nat.le_refl _))
      have SA := Lib.hid sa
      have hex : ∀ o', o' < 11 → ∃ u, wa.cell? ⟨b, k * 11 + o', none⟩ = some u := fun o' ho => MA.2.1 _ (by have := HLT.out; omega)
      obtain ⟨v0, d0⟩ := hex 0 (by omega)
      obtain ⟨v1, d1⟩ := hex 1 (by omega)
      obtain ⟨v2, d2⟩ := hex 2 (by omega)
      obtain ⟨v3, d3⟩ := hex 3 (by omega)
      obtain ⟨v4, d4⟩ := hex 4 (by omega)
      obtain ⟨v5, d5⟩ := hex 5 (by omega)
      obtain ⟨v6, d6⟩ := hex 6 (by omega)
      obtain ⟨v7, d7⟩ := hex 7 (by omega)
      obtain ⟨v8, d8⟩ := hex 8 (by omega)
      obtain ⟨v9, d9⟩ := hex 9 (by omega)
      obtain ⟨v10, d10⟩ := hex 10 (by omega)
      rw [Nat.add_zero] at d0
      have fz := MA.2.2.1
      have HMA := Lib.hid MA
      clear hex MA sa hrx uc
      obtain ⟨k', t1, t2, s1, s2, lv, S, sn, sp, a, cnt, P, pn, pp, L, ln, lp, c, f'⟩ := x
      go_wp2_with fail
      go_roundw
      case rel =>
        have z3 := HB.out
        have z1 := HMK.out.1
        have SQ := Span.cellsSet (lo := b) (hi := b + 1) (b := b) (a := wa) ⟨Nat.le_refl _, Nat.lt_succ_self _⟩ (Mw.l ⟨k', t1, t2, s1, s2, lv, S, sn, sp, a, cnt, P, pn, pp, L, ln, lp, c, f'⟩) (k * 11) wa (Span.refl _ _ _)
        have SW : Span 0 0 w (wa.setCells b (k * 11) (Mw.l ⟨k', t1, t2, s1, s2, lv, S, sn, sp, a, cnt, P, pn, pp, L, ln, lp, c, f'⟩)) := (HSR.out.trans SA.out).newTo SQ (by omega)
        have MP := HMA.out.put ⟨k', t1, t2, s1, s2, lv, S, sn, sp, a, cnt, P, pn, pp, L, ln, lp, c, f'⟩ (by rw [HNS.out]; exact HLT.out)
        rw [HNS.out] at MP
        have BZx := (HBZ.out.keep SA.out).span SQ (by omega)
        rw [setCells_mw] at MP BZx SW
        refine ⟨k + 1, Ns ++ [⟨k', t1, t2, s1, s2, lv, S, sn, sp, a, cnt, P, pn, pp, L, ln, lp, c, f'⟩], HLT.out, by go_num, by rw [List.length_append, HNS.out]; rfl, MP, fun i m hi => ?_, BZx, SW⟩
        rcases Nat.lt_trichotomy i Ns.length with hlt | he | hgt
        · rw [List.getElem?_append_left hlt] at hi; exact HR.out i m hi
        · rw [he, List.getElem?_append_right (Nat.le_refl _), Nat.sub_self] at hi
          simp at hi
          rw [he, HNS.out, ← hi]; exact HX.out
        · rw [List.getElem?_eq_none (by simp; omega)] at hi; cases hi
      case measure => have := HLT.out; simp [intOf]; omega
    · have hkn : k = n := by omega
      subst hkn
      have BB := hbz
      have cz := BB.cells
      have fz := BB.thaw
      have qz := (HQ.out.keep hs).cells
      have BS := Lib.hid (BB.set2 (.slice (some ⟨b, 0, none⟩) k k) (.slice AC mC cC))
      have HMK := Lib.hid hmk
      have HR := Lib.hid hR
      have HSR := Lib.hid hs
      have HNS := Lib.hid hNs
      clear BB hbz hmk hR hs hNs hlt hk
      go_wp2_with fail
      have d1 := BS.out.cells
      have SQ := ((Span.refl w.heap.size (w.heap.size + 1) wr).setCell (p := ⟨w.heap.size, 0, none⟩) (.inl ⟨Nat.le_refl _, Nat.lt_succ_self _⟩) (.slice (some ⟨b, 0, none⟩) k k)).setCell (p := ⟨w.heap.size, 1, none⟩) (.inl ⟨Nat.le_refl _, Nat.lt_succ_self _⟩) (.slice AC mC cC)
      have z3 := HB.out
      exact bodyPost_ret (v := .agg #[.slice (some ⟨b, 0, none⟩) k k, .slice AC mC cC]) (by simp [results, Tryz.results27, go_sem, d1]) rfl ⟨b, Ns, rfl, by omega, HMK.out.span SQ (by omega), HNS.out, HR.out, HSR.out.newTo SQ (Nat.le_refl _)⟩
end
end Go.Proofs.YtkjlodoppmipfaaGreat
