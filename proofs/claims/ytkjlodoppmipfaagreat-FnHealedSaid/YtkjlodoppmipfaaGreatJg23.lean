/- Racks without slicers are run. A circuit whose outputs become what a function makes of them. -/
import Derived.Test.YtkjlodoppmipfaaGreatJg22
import Derived.Outline
namespace Go.Proofs.YtkjlodoppmipfaaGreat
section
open Go.RowKit

theorem NewC.from {n m : Nat} {Ms : List Mw} {Rs : List (List Cx × Tab)} {Cs : List (Nat × Nat)} {os : List Int} {w0 w w' : World} {e : Ending} (h : NewC n m Ms Rs Cs os w e w') (s : Span 0 0 w0 w) : NewC n m Ms Rs Cs os w0 e w' := by
  obtain ⟨Q, O, F, Z, b, A, q, bC, U, V, Ns, us, vs, sts, w2, he, s2, hb, hr⟩ := h
  exact ⟨Q, O, F, Z, b, A, q, bC, U, V, Ns, us, vs, sts, w2, he, s.trans s2, Nat.le_trans s.size hb, hr⟩

set_option maxRecDepth 100000 in
set_option maxHeartbeats 8000000 in
theorem newRun_any {w : World} {bM bC lo hi : Nat} {AM : Option Addr} {n cM : Nat} {AC : Option Addr} {m cC : Nat} {Ms : List Mw} {Cs : List (Nat × Nat)} (hr : RkAt w bM bC lo hi AM n cM AC m cC Ms Cs) (Rs : List (List Cx × Tab)) (hR : Reads w Ms Rs) (hk : ∀ x ∈ Ms, ∃ kd : Kd, x.k = kd.num) (os : List Int) (hord : orderC (Ms.map Mw.k) Cs n = some os) (inn : Int) (hin : inn = -1 ∨ ∃ j : Nat, inn = (j : Int) ∧ j < n) (o : Nat) (ho : o < n) :
    Calls Tryz.prog 20 #[.agg #[.slice AM n cM, .slice AC m cC], .agg #[.int .i64 inn, .int .i64 (o : Int)]] w (NewC n m Ms Rs Cs os w) := by
  have i3 : (n : Int) ≤ 16 := by have := hr.most.1; omega
  have NC : Hid (∀ w', Span 0 0 w w' → Calls Tryz.prog 39 #[.agg #[.slice AM n cM, .slice AC m cC]] w' (NewC n m Ms Rs Cs os w')) := fun w' s => newCircuit_any (hr.keep s) Rs (hR.keep s) hk os hord
  have I2 := Lib.hid (isIndex_true o n ho)
  have SA := Lib.hid (((Span.refl 0 0 w).alloc (.cells #[.slice AM n cM, .slice AC m cC] 37)).alloc (.cells #[.int .i64 inn, .int .i64 (o : Int)] 44))
  clear hr hR hk hord ho
  rcases hin with rfl | ⟨j, rfl, hj⟩
  · go_enter Tryz.func20, Tryz.ntmps20
    go_wp2_with fail
    refine (I2.out _).mono ?_
    rintro _ _ ⟨rfl, rfl⟩
    go_wp2_with fail
    refine (NC.out _ SA.out).mono ?_
    intro e w' h
    have h := h.from SA.out
    obtain ⟨Q, rest⟩ := id h
    obtain ⟨O, F, Z, b, A, q, bC, U, V, Ns, us, vs, sts, w2, rfl, -⟩ := rest
    have HH := Lib.hid h
    clear h
    go_wp2_with fail
    exact bodyPost_ret (v := .tuple #[.pointer (some ⟨Q, 0, none⟩), .bool true]) (by simp [results, Tryz.results20, go_sem]) rfl HH.out
  · have I1 := Lib.hid (isIndex_true j n hj)
    have hne : ((j : Int) = -1) = False := eq_false (by omega)
    have hne2 : ¬ (j : Int) = -1 := by omega
    clear hj
    go_enter Tryz.func20, Tryz.ntmps20
    go_wp2_with fail
    refine (I1.out _).mono ?_
    rintro _ _ ⟨rfl, rfl⟩
    go_wp2_with fail
    refine (I2.out _).mono ?_
    rintro _ _ ⟨rfl, rfl⟩
    go_wp2_with fail
    refine (NC.out _ SA.out).mono ?_
    intro e w' h
    have h := h.from SA.out
    obtain ⟨Q, rest⟩ := id h
    obtain ⟨O, F, Z, b, A, q, bC, U, V, Ns, us, vs, sts, w2, rfl, -⟩ := rest
    have HH := Lib.hid h
    clear h
    go_wp2_with fail
    exact bodyPost_ret (v := .tuple #[.pointer (some ⟨Q, 0, none⟩), .bool true]) (by simp [results, Tryz.results20, go_sem]) rfl HH.out

/-- What a run of a rack gives. -/
def RanRk (n m N : Nat) (Cs : List (Nat × Nat)) (ys : List Cx) (R : Nat → Mw → Prop) (w : World) (e : Ending) (w' : World) : Prop :=
  ∃ (b g bC : Nat) (Ns : List Mw) (A : Option Addr) (q : Nat), e = .returned (.tuple #[.agg #[.slice (some ⟨b, 0, none⟩) n n, .slice A m q], .slice (some ⟨g, 0, none⟩) N N, .bool true]) ∧ w.heap.size ≤ b ∧ w.heap.size ≤ g ∧ MadeK b n w' Ns ∧ Ns.length = n ∧ (∀ i x, Ns[i]? = some x → R i x) ∧ HasC 2 cabC bC w.heap.size w'.heap.size w' (.slice A m q) Cs ∧ HasS cxV true g g (g + 1) w' (.slice (some ⟨g, 0, none⟩) N N) ys ∧ Span 0 0 w w'

theorem stepTo_mix {W : List Nat} {Q O n H bU bS : Nat} {C : Value} {us : List (Kd × Nat)} {ss : List (Nat × List Nat × (Kd × Nat))} {fs : List (List Nat)} (inn : Int) (z : Cx) (s : List Un × List Cx) (hs : ∀ (i : Nat) (xs : List Cx) (a : Nat), s.1[i]? = some (.ring xs a) → a < xs.length ∧ xs.length ≤ 1048576) (tr : Nat → List Un × List Cx) (h0 : tr 0 = (s.1, readO s.1 s.2)) (ht : ∀ (j : Nat) (t : Nat × List Nat × (Kd × Nat)), ss[j]? = some t → One inn z t (tr j) (tr (j + 1))) : StepTo W Q O n H bU bS C us ss fs inn z s (tr ss.length) := fun X w hc => by
  refine step_any inn z tr ht w ((readDelays_any hc hs).mono ?_)
  rintro e w' ⟨rfl, h1, h2⟩
  rw [← h0] at h1
  exact ⟨rfl, h1, h2⟩

/-- The states between the steps. -/
def stAt (n : Nat) (s0 : List Un × List Cx) (tr : Nat → Nat → List Un × List Cx) : Nat → List Un × List Cx
  | 0 => s0
  | r + 1 => tr r n

set_option maxRecDepth 100000 in
set_option maxHeartbeats 8000000 in
theorem runRack_mix {w : World} {bM bC lo hi : Nat} {AM : Option Addr} {n cM : Nat} {AC : Option Addr} {m cC : Nat} {Ms : List Mw} {Cs : List (Nat × Nat)} (hr : RkAt w bM bC lo hi AM n cM AC m cC Ms Cs) (Rs : List (List Cx × Tab)) (hR : Reads w Ms Rs) (kds : List Kd) (hkl : kds.length = n) (hk : ∀ (i : Nat) (kd : Kd) (x : Mw) (r : List Cx × Tab), kds[i]? = some kd → Ms[i]? = some x → Rs[i]? = some r → GoodM kd x r) (os : List Int) (hord : orderC (Ms.map Mw.k) Cs n = some os)
    (inn : Int) (hin : inn = -1 ∨ ∃ j : Nat, inn = (j : Int) ∧ j < n) (o : Nat) (ho : o < n) (xs : List Cx) (hxs : xs.length ≤ 4194304) (ob : Bool) (b0 lo0 hi0 : Nat) (v : Value) (hb0 : b0 < w.heap.size) (hv : HasS cxV ob b0 lo0 hi0 w v xs) (N : Nat) (hN : N ≤ 500)
    (tr : Nat → Nat → List Un × List Cx)
    (hread : ∀ r, r < N → tr r 0 = ((stAt n (unOf kds Ms Rs, List.replicate n (0, 0)) tr r).1, readO (stAt n (unOf kds Ms Rs, List.replicate n (0, 0)) tr r).1 (stAt n (unOf kds Ms Rs, List.replicate n (0, 0)) tr r).2))
    (hring : ∀ r, r < N → ∀ (i : Nat) (xs : List Cx) (a : Nat), (stAt n (unOf kds Ms Rs, List.replicate n (0, 0)) tr r).1[i]? = some (.ring xs a) → a < xs.length ∧ xs.length ≤ 1048576)
    (hstep : ∀ r, r < N → ∀ (j i : Nat) (kd : Kd) (l : List Nat), os[j]? = some (i : Int) → kds[i]? = some kd → (feedsC n Cs)[i]? = some l → One inn (xs.getD r (0, 0)) (i, l, (kd, 0)) (tr r j) (tr r (j + 1)))
    (ys : List Cx) (hyl : ys.length = N) (hys : ∀ (i : Nat) (y : Cx), ys[i]? = some y → (tr i n).2[o]? = some y)
    (R : Nat → Mw → Prop) (hmod : ∀ (i : Nat) (kd : Kd) (u : Un), kds[i]? = some kd → (stAt n (unOf kds Ms Rs, List.replicate n (0, 0)) tr N).1[i]? = some u → ∀ X g f, ModU X (kd, g) f u (R i)) :
    Calls Tryz.prog 11 #[.agg #[.slice AM n cM, .slice AC m cC], .agg #[.int .i64 inn, .int .i64 (o : Int)], v, .int .i64 (N : Int)] w (RanRk n m N Cs ys R w) := by
  have hn : 0 < n := by omega
  have h16 := hr.most
  have hml : Ms.length = n := hr.mods.len.1.symm
  have hrl : Rs.length = n := hR.1.trans hml
  have hcl : m = Cs.length := hr.cabs.len.1
  have hkx : ∀ x ∈ Ms, ∃ kd : Kd, x.k = kd.num := fun x hx => by
    obtain ⟨i, hi⟩ := List.getElem?_of_mem hx
    have hil := (List.getElem?_eq_some_iff.1 hi).1
    obtain ⟨kd, hkd⟩ := getElem?_some (xs := kds) (j := i) (by omega)
    obtain ⟨r, hr⟩ := getElem?_some (xs := Rs) (j := i) (by omega)
    exact ⟨kd, (hk i kd x r hkd hi hr).1⟩
  have hinv := orderC_inv hord
  generalize hU0 : (unOf kds Ms Rs, List.replicate n ((0, 0) : Cx)) = s0 at *
  have NR : Hid (∀ w', Span 0 0 w w' → Calls Tryz.prog 20 #[.agg #[.slice AM n cM, .slice AC m cC], .agg #[.int .i64 inn, .int .i64 (o : Int)]] w' (MixC n m kds Ms Rs Cs os w')) := fun w' s =>
    (newRun_any (hr.keep s) Rs (hR.keep s) hkx os hord inn hin o ho).mono fun e w2 h => h.mix kds hk hkl hml hrl ⟨hn, h16.1⟩ hinv (fun c hc => (hr.ends c hc).1) (by omega)
  have RL := Lib.hid (isRunLength_true N hN)
  have HV := Lib.hid hv
  have HST : Hid (∀ (W : List Nat) (Q O H bU bS : Nat) (C : Value) (us : List (Kd × Nat)) (ss : List (Nat × List Nat × (Kd × Nat))) (fs : List (List Nat)), ss.length = os.length → (∀ (j i : Nat) t, os[j]? = some (i : Int) → ss[j]? = some t → stOf kds (feedsC n Cs) i t) → ∀ r, r < N → StepTo W Q O n H bU bS C us ss fs inn (xs.getD r (0, 0)) (stAt n s0 tr r) (stAt n s0 tr (r + 1))) := fun W Q O H bU bS C us ss fs h2 h3 r hr => by
    have h4 := stepTo_mix (W := W) (Q := Q) (O := O) (n := n) (H := H) (bU := bU) (bS := bS) (C := C) (us := us) (ss := ss) (fs := fs) inn (xs.getD r (0, 0)) (stAt n s0 tr r) (hring r hr) (tr r) (hread r hr) (fun j t hj => by
      obtain ⟨i0, hi0⟩ := getElem?_some (xs := os) (j := j) (by rw [← h2]; exact (List.getElem?_eq_some_iff.1 hj).1)
      obtain ⟨i, rfl, _⟩ := hinv.2 i0 (List.mem_of_getElem? hi0)
      obtain ⟨g1, g2, g3⟩ := h3 j i t hi0 hj
      have := hstep r hr j i t.2.2.1 t.2.1 hi0 g3 g2
      rw [← g1] at this
      exact this)
    rw [h2, hinv.1] at h4
    exact h4
  have HYL := Lib.hid hyl
  have HYS : Hid (∀ (i : Nat) (y : Cx), ys[i]? = some y → (stAt n s0 tr (i + 1)).2[o]? = some y) := hys
  have HMOD := Lib.hid hmod
  have HX := Lib.hid hxs
  have HN := Lib.hid hN
  have HB0 := Lib.hid hb0
  have H0 := Lib.hid hU0
  have iN : (N : Int) ≤ 500 := by omega
  obtain ⟨Av, cv, rfl, -, -⟩ := id hv
  have SA := Lib.hid ((((Span.refl 0 0 w).alloc (.cells #[.slice AM n cM, .slice AC m cC] 37)).alloc (.cells #[.int .i64 inn, .int .i64 (o : Int)] 44)).alloc (.cells #[.slice none 0 0, .slice none 0 0] 37))
  have BP := (Bx.new (w.alloc (.cells #[.slice AM n cM, .slice AC m cC] 37)) #[.int .i64 inn, .int .i64 (o : Int)] 44).alloc (.cells #[.slice none 0 0, .slice none 0 0] 37)
  rw [show (w.alloc (.cells #[.slice AM n cM, .slice AC m cC] 37)).heap.size = w.heap.size + 1 by simp] at BP
  have BP := Lib.hid BP
  have BZ := Bx.new ((w.alloc (.cells #[.slice AM n cM, .slice AC m cC] 37)).alloc (.cells #[.int .i64 inn, .int .i64 (o : Int)] 44)) #[.slice none 0 0, .slice none 0 0] 37
  rw [show ((w.alloc (.cells #[.slice AM n cM, .slice AC m cC] 37)).alloc (.cells #[.int .i64 inn, .int .i64 (o : Int)] 44)).heap.size = w.heap.size + 2 by simp] at BZ
  have BZ := Lib.hid BZ
  clear hr hR hk hord hv hstep hread hring hyl hys hmod hxs hN hb0 hU0 hkx hinv hin h16 hml hcl hkl hrl
  go_enter Tryz.func11, Tryz.ntmps11
  go_wp2_with fail
  have Z3 : Hid ((((w.alloc (.cells #[.slice AM n cM, .slice AC m cC] 37)).alloc (.cells #[.int .i64 inn, .int .i64 (o : Int)] 44)).alloc (.cells #[.slice none 0 0, .slice none 0 0] 37)).heap.size = w.heap.size + 3) := by unfold Hid; simp
  generalize ((w.alloc (.cells #[.slice AM n cM, .slice AC m cC] 37)).alloc (.cells #[.int .i64 inn, .int .i64 (o : Int)] 44)).alloc (.cells #[.slice none 0 0, .slice none 0 0] 37) = w3 at *
  refine (NR.out _ SA.out).mono ?_
  rintro _ w4 ⟨W, Q, O, bU, bS, bC, A, q, us, ss, fs, rfl, s4, hW, hcab, hbC, hku, hsl, hso, hc⟩
  have BP4 := Lib.hid (BP.out.keep s4)
  have BZ4 := Lib.hid (BZ.out.keep s4)
  have S4 := Lib.hid (SA.out.trans s4)
  have S43 : Hid (w3.heap.size ≤ w4.heap.size) := s4.size
  have HW : Hid (∀ b ∈ W, w.heap.size + 3 ≤ b) := fun b hb => by have := hW b hb; have := Z3.out; omega
  have HCAB := Lib.hid hcab
  have HBC := Lib.hid hbC
  rw [H0.out] at hc
  have HCC := Lib.hid hc
  have HSO := Lib.hid (HST.out W Q O w4.heap.size bU bS (.slice A m q) us ss fs hsl hso)
  have HKU := Lib.hid hku
  have p0 := BP4.out.cells
  have hbw : b0 ∉ W ∧ b0 < w4.heap.size := ⟨fun hm => by have := HW.out b0 hm; have := HB0.out; omega, Nat.lt_of_lt_of_le HB0.out S4.out.size⟩
  have LI := Lib.hid (listen_any inn o xs HX.out N HN.out (stAt n s0 tr) HSO.out ys HYL.out HYS.out ob b0 lo0 hi0 _ w4 hbw (HV.out.span S4.out (.inl (Nat.le_refl _))) HCC.out)
  clear s4 hW hcab hbC hku hsl hso hc BP BZ hbw
  go_wp2_with fail
  refine (RL.out _).mono ?_
  rintro _ _ ⟨rfl, rfl⟩
  go_wp2_with fail
  refine LI.out.mono ?_
  rintro _ w5 ⟨g, rfl, hg, hy5, hc5, k5⟩
  have RK := Lib.hid (rack_any R (fun i x f u hx hf hu => HMOD.out i x.1 u (by rw [← HKU.out, List.getElem?_map, hx]; rfl) hu _ x.2 f) w5 hc5 ⟨A, m, q, rfl⟩)
  have BZ5 := Lib.hid (BZ4.out.keeps k5 (fun hm => by have := HW.out _ hm; omega))
  have HG : Hid (w.heap.size + 3 ≤ g) := by
    have h1 := Z3.out
    have h2 := S43.out
    unfold Hid
    omega
  have Z5 : Hid (w.heap.size + 3 ≤ w5.heap.size ∧ w4.heap.size ≤ w5.heap.size) := by
    have h1 := Z3.out
    have h2 := S43.out
    have h3 := k5.size
    exact ⟨by omega, h3⟩
  have HY5 := Lib.hid hy5
  have S5 := Lib.hid (k5.fresh S4.out (fun k hk => by have := HW.out k hk; omega))
  have HC5 := Lib.hid (HCAB.out.keeps k5 HBC.out)
  clear hg hy5 hc5 k5 p0
  go_wp2_with fail
  refine RK.out.mono ?_
  rintro _ w6 ⟨b', Ns, rfl, hb', hmk, hNs, hR, s6⟩
  have BZ6 := BZ5.out.keep s6
  have cz := BZ6.cells
  have fz := BZ6.thaw
  have BS := Lib.hid (BZ6.set2 (.slice (some ⟨b', 0, none⟩) n n) (.slice A m q))
  have SQ := Lib.hid (((Span.refl (w.heap.size + 2) (w.heap.size + 3) w6).setCell (p := ⟨w.heap.size + 2, 0, none⟩) (.inl ⟨Nat.le_refl _, Nat.lt_succ_self _⟩) (.slice (some ⟨b', 0, none⟩) n n)).setCell (p := ⟨w.heap.size + 2, 1, none⟩) (.inl ⟨Nat.le_refl _, Nat.lt_succ_self _⟩) (.slice A m q))
  have HMK := Lib.hid hmk
  have HNS := Lib.hid hNs
  have HR := Lib.hid hR
  have S6 := Lib.hid (S5.out.trans s6)
  have HB' := Lib.hid hb'
  have HC6 := Lib.hid (HC5.out.keep s6)
  have HY6 := Lib.hid (HY5.out.span s6 (.inl (Nat.le_refl _)))
  have Z56 : Hid (w.heap.size + 3 ≤ w5.heap.size ∧ w4.heap.size ≤ w6.heap.size) := ⟨Z5.out.1, Nat.le_trans Z5.out.2 s6.size⟩
  clear BZ6 hmk hNs hR s6 hb'
  go_wp2_with fail
  have d1 := BS.out.cells
  have z1 := Z56.out
  have z2 := HG.out
  have z3 := HB'.out
  refine bodyPost_ret (v := .tuple #[.agg #[.slice (some ⟨b', 0, none⟩) n n, .slice A m q], .slice (some ⟨g, 0, none⟩) N N, .bool true]) (by simp [results, Tryz.results11, go_sem, d1]) rfl ?_
  refine ⟨b', g, bC, Ns, A, q, rfl, by omega, by omega, HMK.out.span SQ.out (by omega), HNS.out, HR.out, ?_, HY6.out.span SQ.out (by omega), S6.out.newTo SQ.out (by omega)⟩
  have z4 := Z3.out
  exact (HC6.out.span SQ.out (by omega)).weak (by omega) (.inl (Nat.le_trans z1.2 SQ.out.size))
end
section
open Go.RowKit

/-- What of a circuit no step changes. -/
structure CircT (W : List Nat) (Q O n H bU bS : Nat) (C Bv : Value) (us : List (Kd × Nat)) (ss : List (Nat × List Nat × (Kd × Nat))) (w : World) : Prop where
  nin : Q ∉ W ∧ bU ∉ W ∧ bS ∉ W ∧ O ∈ W
  sizes : n ≤ 16 ∧ ss.length ≤ 16 ∧ us.length = n
  box : ∃ (U V : Value) (sts : List (Nat × Value × (Kd × Nat))), Bx Q #[C, U, V, .slice (some ⟨O, 0, none⟩) n n, Bv] w ∧ HasS uxV false bU 0 H w U us ∧ sts.length = ss.length ∧ HasC 3 stC bS 0 H w V sts ∧
    ∀ (j : Nat) (s : Nat × Value × (Kd × Nat)) (t : Nat × List Nat × (Kd × Nat)), sts[j]? = some s → ss[j]? = some t → s.1 = t.1 ∧ s.2.2 = t.2.2 ∧ ∃ bF, bF ∉ W ∧ bF < H ∧ HasS nV false bF 0 H w s.2.1 t.2.1
  top : (∀ b ∈ W, b < H) ∧ H ≤ w.heap.size ∧ Q < H ∧ bU < H ∧ bS < H
  places : ∀ (j : Nat) (t : Nat × List Nat × (Kd × Nat)), ss[j]? = some t → t.1 < n ∧ us[t.1]? = some t.2.2 ∧ t.2.1.length ≤ 40 ∧ ∀ f ∈ t.2.1, f < n
theorem CircT.keeps {W : List Nat} {Q O n H bU bS : Nat} {C Bv : Value} {us : List (Kd × Nat)} {ss : List (Nat × List Nat × (Kd × Nat))} {w w' : World} (h : CircT W Q O n H bU bS C Bv us ss w) (k : Keeps W w w') : CircT W Q O n H bU bS C Bv us ss w' := by
  obtain ⟨h1, h2, ⟨U, V, sts, g1, g2, g3, g4, g5⟩, h3, h4⟩ := h
  refine ⟨h1, h2, ⟨U, V, sts, g1.keeps k h1.1, g2.keeps k h1.2.1, g3, g4.keeps k h1.2.2.1, fun j s t hs ht => ?_⟩, ⟨h3.1, Nat.le_trans h3.2.1 k.size, h3.2.2⟩, h4⟩
  obtain ⟨e1, e2, bF, e3, e5, e4⟩ := g5 j s t hs ht
  exact ⟨e1, e2, bF, e3, e5, e4.keeps k e3⟩

theorem CircT.other {W V : List Nat} {Q O n H bU bS : Nat} {C Bv : Value} {us : List (Kd × Nat)} {ss : List (Nat × List Nat × (Kd × Nat))} {w w' : World} (h : CircT W Q O n H bU bS C Bv us ss w) (k : Keeps V w w') (hV : ∀ b ∈ V, H ≤ b) : CircT W Q O n H bU bS C Bv us ss w' := by
  obtain ⟨h1, h2, ⟨U, V', sts, g1, g2, g3, g4, g5⟩, h3, h4⟩ := h
  have out : ∀ b, b < H → b ∉ V := fun b hb hm => by have := hV b hm; omega
  refine ⟨h1, h2, ⟨U, V', sts, g1.keeps k (out _ h3.2.2.1), g2.keeps k (out _ h3.2.2.2.1), g3, g4.keeps k (out _ h3.2.2.2.2), fun j s t hs ht => ?_⟩, ⟨h3.1, Nat.le_trans h3.2.1 k.size, h3.2.2⟩, h4⟩
  obtain ⟨e1, e2, bF, e3, e5, e4⟩ := g5 j s t hs ht
  exact ⟨e1, e2, bF, e3, e5, e4.keeps k (out _ e5)⟩

/-- A circuit, its units and its outputs. -/
def CircB (W X : List Nat) (Q O n H bU bS : Nat) (C Bv : Value) (us : List (Kd × Nat)) (ss : List (Nat × List Nat × (Kd × Nat))) (fs : List (List Nat)) (s : List Un × List Cx) (w : World) : Prop :=
  CircT W Q O n H bU bS C Bv us ss w ∧ UnS W O X us fs s.1 w ∧ s.2.length = n ∧ HasS cxV true O O (O + 1) w (.slice (some ⟨O, 0, none⟩) n n) s.2
theorem CircB.far {W X : List Nat} {Q O n H bU bS : Nat} {C Bv : Value} {us : List (Kd × Nat)} {ss : List (Nat × List Nat × (Kd × Nat))} {fs : List (List Nat)} {s : List Un × List Cx} {w w' : World} (h : CircB W X Q O n H bU bS C Bv us ss fs s w) (k : Span 0 0 w w') : CircB W X Q O n H bU bS C Bv us ss fs s w' :=
  ⟨h.1.keeps (Keeps.span k), h.2.1.keep k, h.2.2.1, h.2.2.2.span k (.inl (Nat.le_refl _))⟩

theorem CircB.other {W X V : List Nat} {Q O n H bU bS : Nat} {C Bv : Value} {us : List (Kd × Nat)} {ss : List (Nat × List Nat × (Kd × Nat))} {fs : List (List Nat)} {s : List Un × List Cx} {w w' : World} (h : CircB W X Q O n H bU bS C Bv us ss fs s w) (k : Keeps V w w') (hV : ∀ b ∈ V, H ≤ b) (hX : ∀ b ∈ V, b ∈ X) : CircB W X Q O n H bU bS C Bv us ss fs s w' :=
  ⟨h.1.other k hV, h.2.1.far k (fun b hb hm => by have := hV b hb; have := h.1.top.1 b hm; omega) hX, h.2.2.1, h.2.2.2.keeps k (fun hm => by have := hV O hm; have := h.1.top.1 O h.1.nin.2.2.2; omega)⟩
theorem CircB.more {W X : List Nat} {Q O n H bU bS : Nat} {C Bv : Value} {us : List (Kd × Nat)} {ss : List (Nat × List Nat × (Kd × Nat))} {fs : List (List Nat)} {s : List Un × List Cx} {w w' : World} (h : CircB W X Q O n H bU bS C Bv us ss fs s w) (k : Span 0 0 w w') {G : Nat} (hG : w.heap.size ≤ G) (hG2 : G < w'.heap.size) : CircB W (G :: X) Q O n H bU bS C Bv us ss fs s w' :=
  ⟨h.1.keeps (Keeps.span k), h.2.1.more k hG hG2, h.2.2.1, h.2.2.2.span k (.inl (Nat.le_refl _))⟩
theorem CircB.next {W X : List Nat} {Q O n H bU bS : Nat} {C Bv : Value} {us : List (Kd × Nat)} {ss : List (Nat × List Nat × (Kd × Nat))} {fs : List (List Nat)} {s : List Un × List Cx} {wo wA w5 : World} (h : CircB W X Q O n H bU bS C Bv us ss fs s wo) (sA : Span 0 0 wo wA) {i : Nat} {x : Kd × Nat} {f : List Nat} {u' : Un} (y : Cx) (hi : i < n) (hx : us[i]? = some x) (hf : fs[i]? = some f) (k5 : Keeps f wA w5) (hu : HasU X u' x f w5) :
    CircB W X Q O n H bU bS C Bv us ss fs (s.1.set i u', s.2.set i y) (w5.setCell ⟨O, i, none⟩ (cxV y)) ∧ Keeps W wo (w5.setCell ⟨O, i, none⟩ (cxV y)) := by
  obtain ⟨h1, h2, h3, h4⟩ := h
  have hsub := h2.sub i f hf
  have kW : Keeps W wo (w5.setCell ⟨O, i, none⟩ (cxV y)) := ((Keeps.span sA).trans (k5.weak (fun b hb => .inl (hsub b hb).1))).setCell O i h1.nin.2.2.2 _
  have kO : Keeps [O] w5 (w5.setCell ⟨O, i, none⟩ (cxV y)) := (Keeps.refl [O] w5).setCell O i (by simp) _
  refine ⟨⟨h1.keeps kW, ?_, by simp only [List.length_set]; exact h3, ?_⟩, kW⟩
  · exact ((h2.keep sA).set hx hf k5 hu).far kO (fun b hb _ => by simpa using hb) (fun b hb => by
      have hb : b = O := by simpa using hb
      rw [hb]; exact h2.wx O h1.nin.2.2.2)
  · have h5 := ((h4.span sA (.inl (Nat.le_refl _))).keeps k5 (fun hm => (hsub O hm).2 rfl)).putB i y (by rw [h3]; exact hi)
    rwa [Nat.zero_add] at h5

theorem CircB.out0 {W X : List Nat} {Q O n H bU bS : Nat} {C Bv : Value} {us : List (Kd × Nat)} {ss : List (Nat × List Nat × (Kd × Nat))} {fs : List (List Nat)} {s : List Un × List Cx} {w : World} (h : CircB W X Q O n H bU bS C Bv us ss fs s w) {i : Nat} {y : Cx} (hy : s.2[i]? = some y) : w.cell? ⟨O, i, none⟩ = some (.complex .f32 y.1 y.2) := by
  obtain ⟨_, _, h3, h4⟩ := h
  obtain ⟨A, c, e, _, hc⟩ := h4
  injection e with e1 e2 e3
  have hl := (List.getElem?_eq_some_iff.1 hy).1
  obtain ⟨off, e4, _, _, _, h5, _⟩ := hc (by omega)
  rw [← e1] at e4
  injection e4 with e4
  injection e4 with e5 e6
  have := h5 i y hy
  rw [← e6, Nat.zero_add] at this
  exact this
theorem CircB.thaw0 {W X : List Nat} {Q O n H bU bS : Nat} {C Bv : Value} {us : List (Kd × Nat)} {ss : List (Nat × List Nat × (Kd × Nat))} {fs : List (List Nat)} {s : List Un × List Cx} {w : World} (h : CircB W X Q O n H bU bS C Bv us ss fs s w) {i : Nat} (hi : i < n) : w.frozen? ⟨O, i, none⟩ = false := by
  obtain ⟨_, _, h3, h4⟩ := h
  obtain ⟨A, c, e, _, hc⟩ := h4
  injection e with e1 e2 e3
  obtain ⟨off, e4, _, _, _, _, h5⟩ := hc (by omega)
  rw [← e1] at e4
  injection e4 with e4
  injection e4 with e5 e6
  have := h5 rfl i (by omega)
  rw [← e6, Nat.zero_add] at this
  exact this
theorem CircB.putO {W X : List Nat} {Q O n H bU bS : Nat} {C Bv : Value} {us : List (Kd × Nat)} {ss : List (Nat × List Nat × (Kd × Nat))} {fs : List (List Nat)} {s : List Un × List Cx} {w : World} (h : CircB W X Q O n H bU bS C Bv us ss fs s w) {i : Nat} (hi : i < n) (y : Cx) :
    CircB W X Q O n H bU bS C Bv us ss fs (s.1, s.2.set i y) (w.setCell ⟨O, i, none⟩ (cxV y)) := by
  obtain ⟨h1, h2, h3, h4⟩ := h
  have kO : Keeps [O] w (w.setCell ⟨O, i, none⟩ (cxV y)) := (Keeps.refl [O] w).setCell O i (by simp) _
  have kW : Keeps W w (w.setCell ⟨O, i, none⟩ (cxV y)) := (Keeps.refl W w).setCell O i h1.nin.2.2.2 _
  refine ⟨h1.keeps kW, h2.far kO (fun b hb _ => by simpa using hb) (fun b hb => by
    have hb : b = O := by simpa using hb
    rw [hb]; exact h2.wx O h1.nin.2.2.2), by simp only [List.length_set]; exact h3, ?_⟩
  have h5 := h4.putB i y (by rw [h3]; exact hi)
  rwa [Nat.zero_add] at h5

theorem CircB.out {W X : List Nat} {Q O n H bU bS : Nat} {C Bv : Value} {us : List (Kd × Nat)} {ss : List (Nat × List Nat × (Kd × Nat))} {fs : List (List Nat)} {s : List Un × List Cx} {w : World} (h : CircB W X Q O n H bU bS C Bv us ss fs s w) {i : Nat} {y : Cx} (hy : s.2[i]? = some y) : w.cell? ⟨Q, 3, none⟩ = some (.slice (some ⟨O, 0, none⟩) n n) ∧ w.cell? ⟨O, i, none⟩ = some (.complex .f32 y.1 y.2) := by
  obtain ⟨h1, _, h3, h4⟩ := h
  obtain ⟨U, V, sts, hq, _⟩ := h1.box
  refine ⟨hq.cells 3, ?_⟩
  obtain ⟨A, c, e, _, hc⟩ := h4
  injection e with e1 e2 e3
  have hl := (List.getElem?_eq_some_iff.1 hy).1
  obtain ⟨off, e4, _, _, _, h5, _⟩ := hc (by omega)
  rw [← e1] at e4
  injection e4 with e4
  injection e4 with e5 e6
  have := h5 i y hy
  rw [← e6, Nat.zero_add] at this
  exact this

theorem CircAt.toB {W X : List Nat} {Q O n H bU bS : Nat} {C : Value} {us : List (Kd × Nat)} {ss : List (Nat × List Nat × (Kd × Nat))} {fs : List (List Nat)} {s : List Un × List Cx} {w : World} (h : CircAt W X Q O n H bU bS C us ss fs s w) : CircB W X Q O n H bU bS C asG us ss fs s w :=
  ⟨⟨h.1.nin, h.1.sizes, h.1.box, h.1.top, h.1.places⟩, h.2.1, h.2.2.1, h.2.2.2⟩
/-- A list whose cells the block Q does not hold stays when Q is written. -/
theorem HasS.putQ {α : Type} {val : α → Value} {own : Bool} {b lo hi Q i : Nat} {w : World} {v u : Value} {xs : List α} (h : HasS val own b lo hi w v xs) (hq : ∀ j x, w.cell? ⟨Q, j, none⟩ = some (val x) → False) : HasS val own b lo hi (w.setCell ⟨Q, i, none⟩ u) v xs := by
  obtain ⟨A, cap, rfl, hcap, hc⟩ := id h
  by_cases hp : 0 < xs.length
  · obtain ⟨off, rfl, _, _, _, h4, _⟩ := hc hp
    have hne : b ≠ Q := fun e => by
      subst e
      obtain ⟨x, hx⟩ := getElem?_some hp
      exact hq _ x (h4 0 x hx)
    exact h.keeps ((Keeps.refl [Q] w).setCell Q i (by simp) u) (by simpa using hne)
  · have : xs = [] := List.eq_nil_of_length_eq_zero (by omega)
    subst this
    exact HasS.empty ..
theorem HasC.putQ {α : Type} {s : Nat} {fl : α → List Value} {b lo hi Q i : Nat} {w : World} {v u : Value} {L : List α} (h : HasC s fl b lo hi w v L) (hq : ∀ j x y, (fl x)[0]? = some y → w.cell? ⟨Q, j, none⟩ = some y → False) (h0 : ∀ x, ∃ y, (fl x)[0]? = some y) : HasC s fl b lo hi (w.setCell ⟨Q, i, none⟩ u) v L := by
  obtain ⟨A, cap, rfl, hcap, hc⟩ := id h
  by_cases hp : 0 < L.length
  · obtain ⟨off, rfl, _, _, _, h4⟩ := hc hp
    have hne : b ≠ Q := fun e => by
      subst e
      obtain ⟨x, hx⟩ := getElem?_some hp
      obtain ⟨y, hy⟩ := h0 x
      exact hq _ x y hy (h4 0 x 0 y hx hy)
    exact h.keeps ((Keeps.refl [Q] w).setCell Q i (by simp) u) (by simpa using hne)
  · have : L = [] := List.eq_nil_of_length_eq_zero (by omega)
    subst this
    exact HasC.empty ..
/-- Another function. -/
theorem CircB.become {W X : List Nat} {Q O n H bU bS : Nat} {C Bv : Value} {us : List (Kd × Nat)} {ss : List (Nat × List Nat × (Kd × Nat))} {fs : List (List Nat)} {s : List Un × List Cx} {w : World} (h : CircB W X Q O n H bU bS C Bv us ss fs s w) (hC : ∃ A m c, C = .slice A m c) (hB : ∃ f a c, Bv = .func f a c) (Bw : Value) : CircB W X Q O n H bU bS C Bw us ss fs s (w.setCell ⟨Q, 4, none⟩ Bw) := by
  obtain ⟨⟨g1, g2, ⟨U, V, sts, q1, q2, q3, q4, q5⟩, g3, g4⟩, h2, h3, h4⟩ := h
  obtain ⟨CA, Cm, Cc, rfl⟩ := hC
  obtain ⟨B1, B2, B3, rfl⟩ := hB
  obtain ⟨UA, Uc, hU, _⟩ := id q2
  obtain ⟨VA, Vc, hV, _⟩ := id q4
  have hcell : ∀ i u, w.cell? ⟨Q, i, none⟩ = some u → (∃ a b c, u = .slice a b c) ∨ ∃ f a b, u = .func f a b := fun i u hu => by
    have e := (q1.cells i).symm.trans hu
    rw [hU, hV] at e
    rcases i with _ | _ | _ | _ | _ | i <;> simp at e <;> subst e
    · exact .inl ⟨_, _, _, rfl⟩
    · exact .inl ⟨_, _, _, rfl⟩
    · exact .inl ⟨_, _, _, rfl⟩
    · exact .inl ⟨_, _, _, rfl⟩
    · exact .inr ⟨_, _, _, rfl⟩
  have kQ : Keeps [Q] w (w.setCell ⟨Q, 4, none⟩ Bw) := (Keeps.refl [Q] w).setCell Q 4 (by simp) _
  have hQ4 := q1.set 4 Bw (by simp)
  refine ⟨⟨g1, g2, ⟨U, V, sts, by simpa using hQ4, q2.putQ (fun j x hx => ?_), q3, q4.putQ (fun j x y hy hx => ?_) (fun x => ⟨_, rfl⟩), fun j s t hs ht => ?_⟩, ⟨g3.1, Nat.le_trans g3.2.1 kQ.size, g3.2.2⟩, g4⟩, ⟨h2.len, fun i x f u hx hf hu => ?_, h2.sub, h2.dis, h2.wx, fun b hb => Nat.lt_of_lt_of_le (h2.lt b hb) kQ.size⟩, h3, ?_⟩
  · rcases hcell _ _ hx with ⟨a, b, c, e⟩ | ⟨a, b, c, e⟩ <;> cases e
  · cases hy
    rcases hcell _ _ hx with ⟨a, b, c, e⟩ | ⟨a, b, c, e⟩ <;> cases e
  · obtain ⟨e1, e2, bF, e3, e5, e4⟩ := q5 j s t hs ht
    exact ⟨e1, e2, bF, e3, e5, e4.putQ (fun j x hx => by rcases hcell _ _ hx with ⟨a, b, c, e⟩ | ⟨a, b, c, e⟩ <;> cases e)⟩
  · have hh := h2.has i x f u hx hf hu
    have hown := hh.own
    have hxW : x.2 ∉ [Q] := fun hm => by
      have e : x.2 = Q := by simpa using hm
      have := (h2.sub i f hf x.2 (by rw [hown.1]; simp)).1
      rw [e] at this
      exact g1.1 this
    cases u with
    | box cs =>
      obtain ⟨k1, k2, k3⟩ := hh
      exact ⟨k1, k2, k3.keeps kQ hxW⟩
    | ring xs a =>
      obtain ⟨k1, k2, k3, A, p, sb, k4, k5, k6⟩ := hh
      exact ⟨k1, k2, k3, A, p, sb, k4, k5.keeps kQ hxW, (k6.putQ (fun j x hx => by rcases hcell _ _ hx with ⟨a, b, c, e⟩ | ⟨a, b, c, e⟩ <;> cases e)).weak (Nat.le_refl _) (.inl kQ.size)⟩
  · exact h4.keeps kQ (fun hm => g1.1 (by have e : O = Q := by simpa using hm
                                          rw [← e]; exact g1.2.2.2))
end
end Go.Proofs.YtkjlodoppmipfaaGreat
