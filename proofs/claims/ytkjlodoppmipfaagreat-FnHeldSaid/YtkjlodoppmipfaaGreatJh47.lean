/- Racks without slicers are run, by what holds of their states. -/
import Derived.Test.YtkjlodoppmipfaaGreatJh46
import Derived.Outline
namespace Go.Proofs.YtkjlodoppmipfaaGreat
open Go.RowKit

/-- What a run of a rack gives. -/
def RanRel (n m N : Nat) (Cs : List (Nat × Nat)) (Y : Nat → Cx → Prop) (R : Nat → Mw → Prop) (w : World) (e : Ending) (w' : World) : Prop :=
  ∃ (b g bC : Nat) (Ns : List Mw) (A : Option Addr) (q : Nat) (ys : List Cx), e = .returned (.tuple #[.agg #[.slice (some ⟨b, 0, none⟩) n n, .slice A m q], .slice (some ⟨g, 0, none⟩) N N, .bool true]) ∧ ys.length = N ∧ (∀ i y, ys[i]? = some y → Y i y) ∧ w.heap.size ≤ b ∧ w.heap.size ≤ g ∧ MadeK b n w' Ns ∧ Ns.length = n ∧ (∀ i x, Ns[i]? = some x → R i x) ∧ HasC 2 cabC bC w.heap.size w'.heap.size w' (.slice A m q) Cs ∧ HasS cxV true g g (g + 1) w' (.slice (some ⟨g, 0, none⟩) N N) ys ∧ Span 0 0 w w'

set_option maxRecDepth 100000 in
set_option maxHeartbeats 8000000 in
theorem runRack_rel {w : World} {bM bC lo hi : Nat} {AM : Option Addr} {n cM : Nat} {AC : Option Addr} {m cC : Nat} {Ms : List Mw} {Cs : List (Nat × Nat)} (hr : RkAt w bM bC lo hi AM n cM AC m cC Ms Cs) (Rs : List (List Cx × Tab)) (hR : Reads w Ms Rs) (kds : List Kd) (hkl : kds.length = n) (hk : ∀ (i : Nat) (kd : Kd) (x : Mw) (r : List Cx × Tab), kds[i]? = some kd → Ms[i]? = some x → Rs[i]? = some r → GoodM kd x r) (os : List Int) (hord : orderC (Ms.map Mw.k) Cs n = some os)
    (inn : Int) (hin : inn = -1 ∨ ∃ j : Nat, inn = (j : Int) ∧ j < n) (o : Nat) (ho : o < n) (xs : List Cx) (hxs : xs.length ≤ 4194304) (ob : Bool) (b0 lo0 hi0 : Nat) (v : Value) (hb0 : b0 < w.heap.size) (hv : HasS cxV ob b0 lo0 hi0 w v xs) (N : Nat) (hN : N ≤ 500)
    (St : Nat → List Un × List Cx → Prop) (J : Nat → Nat → List Un × List Cx → Prop) (hs0 : St 0 (unOf kds Ms Rs, List.replicate n (0, 0)))
    (hread : ∀ r, r < N → ∀ s, St r s → J r 0 (s.1, readB (fun _ y => y) s.1 s.2))
    (hring : ∀ r, r < N → ∀ s, St r s → ∀ (i : Nat) (xs : List Cx) (a : Nat), s.1[i]? = some (.ring xs a) → a < xs.length ∧ xs.length ≤ 1048576)
    (hstep : ∀ r, r < N → ∀ (j i : Nat) (kd : Kd) (l : List Nat), os[j]? = some (i : Int) → kds[i]? = some kd → (feedsC n Cs)[i]? = some l → OneI inn (xs.getD r (0, 0)) (fun _ y => y) (i, l, (kd, 0)) (J r j) (J r (j + 1)))
    (hend : ∀ r, r < N → ∀ s, J r n s → St (r + 1) s)
    (Y : Nat → Cx → Prop) (hY : ∀ i s y, i < N → St (i + 1) s → s.2[o]? = some y → Y i y)
    (R : Nat → Mw → Prop) (hmod : ∀ (i : Nat) (kd : Kd) (u : Un) (s : List Un × List Cx), St N s → kds[i]? = some kd → s.1[i]? = some u → ∀ X g f, ModU X (kd, g) f u (R i)) :
    Calls Tryz.prog 11 #[.agg #[.slice AM n cM, .slice AC m cC], .agg #[.int .i64 inn, .int .i64 (o : Int)], v, .int .i64 (N : Int)] w (RanRel n m N Cs Y R w) := by
  have hn : 0 < n := by omega
  have h16 := hr.most
  have hml : Ms.length = n := hr.mods.len.1.symm
  have hrl : Rs.length = n := hR.1.trans hml
  have hcl : m = Cs.length := hr.cabs.len.1
  have hkx : ∀ x ∈ Ms, ∃ kd : Kd, x.k = kd.num := fun x hx => by
    obtain ⟨i, hi⟩ := List.getElem?_of_mem hx
    have hil := (List.getElem?_eq_some_iff.1 hi).1
    obtain ⟨kd, hkd⟩ := getElem?_some (xs := kds) (j := i) (by omega)
    obtain ⟨r, hr⟩ := getElem?_some (xs := Rs) (j := i) (by omega)
    exact ⟨kd, (hk i kd x r hkd hi hr).1⟩
  have hinv := orderC_inv hord
  generalize hU0 : (unOf kds Ms Rs, List.replicate n ((0, 0) : Cx)) = s0 at *
  have HS0 := Lib.hid hs0
  have NR : Hid (∀ w', Span 0 0 w w' → Calls Tryz.prog 20 #[.agg #[.slice AM n cM, .slice AC m cC], .agg #[.int .i64 inn, .int .i64 (o : Int)]] w' (MixC n m kds Ms Rs Cs os w')) := fun w' s =>
    (newRun_any (hr.keep s) Rs (hR.keep s) hkx os hord inn hin o ho).mono fun e w2 h => h.mix kds hk hkl hml hrl ⟨hn, h16.1⟩ hinv (fun c hc => (hr.ends c hc).1) (by omega)
  have RL := Lib.hid (isRunLength_true N hN)
  have HV := Lib.hid hv
  have HST : Hid (∀ (W : List Nat) (Q O H bU bS : Nat) (C : Value) (us : List (Kd × Nat)) (ss : List (Nat × List Nat × (Kd × Nat))) (fs : List (List Nat)), ss.length = os.length → (∀ (j i : Nat) t, os[j]? = some (i : Int) → ss[j]? = some t → stOf kds (feedsC n Cs) i t) → ∀ r, r < N → StepR W Q O n H bU bS C asG us ss fs inn (xs.getD r (0, 0)) (fun _ => True) (St r) (St (r + 1))) := fun W Q O H bU bS C us ss fs h2 h3 r hr => by
    have h4 := stepR_of (W := W) (Q := Q) (O := O) (n := n) (H := H) (bU := bU) (bS := bS) (C := C) (us := us) (ss := ss) (fs := fs) inn (xs.getD r (0, 0)) (fun _ y => y) (fun _ => True) (fun _ _ _ _ => trivial) (becomes_given n _) (St r) (hring r hr) (J r) (hread r hr) (fun j t hj => by
      obtain ⟨i0, hi0⟩ := getElem?_some (xs := os) (j := j) (by rw [← h2]; exact (List.getElem?_eq_some_iff.1 hj).1)
      obtain ⟨i, rfl, _⟩ := hinv.2 i0 (List.mem_of_getElem? hi0)
      obtain ⟨g1, g2, g3⟩ := h3 j i t hi0 hj
      have := hstep r hr j i t.2.2.1 t.2.1 hi0 g3 g2
      rw [← g1] at this
      exact this)
    rw [h2, hinv.1] at h4
    exact fun X w s h5 h6 h7 => (h4 X w s h5 h6 h7).mono fun _ _ ⟨e1, ⟨s', e2, e3⟩, e4⟩ => ⟨e1, ⟨s', hend r hr s' e2, e3⟩, e4⟩
  have HYY := Lib.hid hY
  have HMOD := Lib.hid hmod
  have HX := Lib.hid hxs
  have HN := Lib.hid hN
  have HB0 := Lib.hid hb0
  have H0 := Lib.hid hU0
  have iN : (N : Int) ≤ 500 := by omega
  obtain ⟨Av, cv, rfl, -, -⟩ := id hv
  have SA := Lib.hid ((((Span.refl 0 0 w).alloc (.cells #[.slice AM n cM, .slice AC m cC] 37)).alloc (.cells #[.int .i64 inn, .int .i64 (o : Int)] 44)).alloc (.cells #[.slice none 0 0, .slice none 0 0] 37))
  have BP := (Bx.new (w.alloc (.cells #[.slice AM n cM, .slice AC m cC] 37)) #[.int .i64 inn, .int .i64 (o : Int)] 44).alloc (.cells #[.slice none 0 0, .slice none 0 0] 37)
  rw [show (w.alloc (.cells #[.slice AM n cM, .slice AC m cC] 37)).heap.size = w.heap.size + 1 by simp] at BP
  have BP := Lib.hid BP
  have BZ := Bx.new ((w.alloc (.cells #[.slice AM n cM, .slice AC m cC] 37)).alloc (.cells #[.int .i64 inn, .int .i64 (o : Int)] 44)) #[.slice none 0 0, .slice none 0 0] 37
  rw [show ((w.alloc (.cells #[.slice AM n cM, .slice AC m cC] 37)).alloc (.cells #[.int .i64 inn, .int .i64 (o : Int)] 44)).heap.size = w.heap.size + 2 by simp] at BZ
  have BZ := Lib.hid BZ
  clear hr hR hk hord hv hstep hread hring hend hs0 hY hmod hxs hN hb0 hU0 hkx hinv hin h16 hml hcl hkl hrl
  go_enter Tryz.func11, Tryz.ntmps11
  go_wp2_with fail
  have Z3 : Hid ((((w.alloc (.cells #[.slice AM n cM, .slice AC m cC] 37)).alloc (.cells #[.int .i64 inn, .int .i64 (o : Int)] 44)).alloc (.cells #[.slice none 0 0, .slice none 0 0] 37)).heap.size = w.heap.size + 3) := by unfold Hid; simp
  generalize ((w.alloc (.cells #[.slice AM n cM, .slice AC m cC] 37)).alloc (.cells #[.int .i64 inn, .int .i64 (o : Int)] 44)).alloc (.cells #[.slice none 0 0, .slice none 0 0] 37) = w3 at *
  refine (NR.out _ SA.out).mono ?_
  rintro _ w4 ⟨W, Q, O, bU, bS, bC, A, q, us, ss, fs, rfl, s4, hW, hcab, hbC, hku, hsl, hso, hc⟩
  have BP4 := Lib.hid (BP.out.keep s4)
  have BZ4 := Lib.hid (BZ.out.keep s4)
  have S4 := Lib.hid (SA.out.trans s4)
  have S43 : Hid (w3.heap.size ≤ w4.heap.size) := s4.size
  have HW : Hid (∀ b ∈ W, w.heap.size + 3 ≤ b) := fun b hb => by have := hW b hb; have := Z3.out; omega
  have HCAB := Lib.hid hcab
  have HBC := Lib.hid hbC
  rw [H0.out] at hc
  have HCC := Lib.hid hc
  have HSO := Lib.hid (HST.out W Q O w4.heap.size bU bS (.slice A m q) us ss fs hsl hso)
  have HKU := Lib.hid hku
  have p0 := BP4.out.cells
  have hbw : b0 ∉ W ∧ b0 < w4.heap.size := ⟨fun hm => by have := HW.out b0 hm; have := HB0.out; omega, Nat.lt_of_lt_of_le HB0.out S4.out.size⟩
  have LI := Lib.hid (listen_rel (fb := 58) (cap := #[]) inn o ho xs HX.out N HN.out St HSO.out Y HYY.out ob b0 lo0 hi0 _ w4 hbw (HV.out.span S4.out (.inl (Nat.le_refl _))) s0 HS0.out HCC.out.toB)
  clear s4 hW hcab hbC hku hsl hso hc BP BZ hbw
  go_wp2_with fail
  refine (RL.out _).mono ?_
  rintro _ _ ⟨rfl, rfl⟩
  go_wp2_with fail
  refine LI.out.mono ?_
  rintro _ w5 ⟨g, ys, s5, rfl, hg, hyl, hyy, hs5, hy5, hc5, k5⟩
  have HYF := Lib.hid (And.intro hyl hyy)
  have RK := Lib.hid (rack_rel R (fun i x f u hx hf hu => HMOD.out i x.1 u s5 hs5 (by rw [← HKU.out, List.getElem?_map, hx]; rfl) hu _ x.2 f) w5 hc5 ⟨A, m, q, rfl⟩)
  have BZ5 := Lib.hid (BZ4.out.keeps k5 (fun hm => by have := HW.out _ hm; omega))
  have HG : Hid (w.heap.size + 3 ≤ g) := by
    have h1 := Z3.out
    have h2 := S43.out
    unfold Hid
    omega
  have Z5 : Hid (w.heap.size + 3 ≤ w5.heap.size ∧ w4.heap.size ≤ w5.heap.size) := by
    have h1 := Z3.out
    have h2 := S43.out
    have h3 := k5.size
    exact ⟨by omega, h3⟩
  have HY5 := Lib.hid hy5
  have S5 := Lib.hid (k5.fresh S4.out (fun k hk => by have := HW.out k hk; omega))
  have HC5 := Lib.hid (HCAB.out.keeps k5 HBC.out)
  clear hg hyl hyy hs5 hy5 hc5 k5 p0
  go_wp2_with fail
  refine RK.out.mono ?_
  rintro _ w6 ⟨b', Ns, rfl, hb', hmk, hNs, hR, s6⟩
  have BZ6 := BZ5.out.keep s6
  have cz := BZ6.cells
  have fz := BZ6.thaw
  have BS := Lib.hid (BZ6.set2 (.slice (some ⟨b', 0, none⟩) n n) (.slice A m q))
  have SQ := Lib.hid (((Span.refl (w.heap.size + 2) (w.heap.size + 3) w6).setCell (p := ⟨w.heap.size + 2, 0, none⟩) (.inl ⟨Nat.le_refl _, Nat.lt_succ_self _⟩) (.slice (some ⟨b', 0, none⟩) n n)).setCell (p := ⟨w.heap.size + 2, 1, none⟩) (.inl ⟨Nat.le_refl _, Nat.lt_succ_self _⟩) (.slice A m q))
  have HMK := Lib.hid hmk
  have HNS := Lib.hid hNs
  have HR := Lib.hid hR
  have S6 := Lib.hid (S5.out.trans s6)
  have HB' := Lib.hid hb'
  have HC6 := Lib.hid (HC5.out.keep s6)
  have HY6 := Lib.hid (HY5.out.span s6 (.inl (Nat.le_refl _)))
  have Z56 : Hid (w.heap.size + 3 ≤ w5.heap.size ∧ w4.heap.size ≤ w6.heap.size) := ⟨Z5.out.1, Nat.le_trans Z5.out.2 s6.size⟩
  clear BZ6 hmk hNs hR s6 hb'
  go_wp2_with fail
  have d1 := BS.out.cells
  have z1 := Z56.out
  have z2 := HG.out
  have z3 := HB'.out
  refine bodyPost_ret (v := .tuple #[.agg #[.slice (some ⟨b', 0, none⟩) n n, .slice A m q], .slice (some ⟨g, 0, none⟩) N N, .bool true]) (by simp [results, Tryz.results11, go_sem, d1]) rfl ?_
  refine ⟨b', g, bC, Ns, A, q, ys, rfl, HYF.out.1, HYF.out.2, by omega, by omega, HMK.out.span SQ.out (by omega), HNS.out, HR.out, ?_, HY6.out.span SQ.out (by omega), S6.out.newTo SQ.out (by omega)⟩
  have z4 := Z3.out
  exact (HC6.out.span SQ.out (by omega)).weak (by omega) (.inl (Nat.le_trans z1.2 SQ.out.size))
end Go.Proofs.YtkjlodoppmipfaaGreat
