/- Racks without slicers are run, by what holds of their states. Faults: what they make of outputs. -/
import Derived.Test.YtkjlodoppmipfaaGreatJg39
import Derived.Outline
import Derived.Test.YtkjlodoppmipfaaGreatJg6
import Derived.Test.YtkjlodoppmipfaaGreatJg33
import Derived.Deep.DeepCutAuto
namespace Go.Proofs.YtkjlodoppmipfaaGreat
section
open Go.RowKit

/-- What a run of a rack gives. -/
def RanRel (n m N : Nat) (Cs : List (Nat × Nat)) (Y : Nat → Cx → Prop) (R : Nat → Mw → Prop) (w : World) (e : Ending) (w' : World) : Prop :=
  ∃ (b g bC : Nat) (Ns : List Mw) (A : Option Addr) (q : Nat) (ys : List Cx), e = .returned (.tuple #[.agg #[.slice (some ⟨b, 0, none⟩) n n, .slice A m q], .slice (some ⟨g, 0, none⟩) N N, .bool true]) ∧ ys.length = N ∧ (∀ i y, ys[i]? = some y → Y i y) ∧ w.heap.size ≤ b ∧ w.heap.size ≤ g ∧ MadeK b n w' Ns ∧ Ns.length = n ∧ (∀ i x, Ns[i]? = some x → R i x) ∧ HasC 2 cabC bC w.heap.size w'.heap.size w' (.slice A m q) Cs ∧ HasS cxV true g g (g + 1) w' (.slice (some ⟨g, 0, none⟩) N N) ys ∧ Span 0 0 w w'

set_option maxRecDepth 100000 in
set_option maxHeartbeats 8000000 in
theorem runRack_rel {w : World} {bM bC lo hi : Nat} {AM : Option Addr} {n cM : Nat} {AC : Option Addr} {m cC : Nat} {Ms : List Mw} {Cs : List (Nat × Nat)} (hr : RkAt w bM bC lo hi AM n cM AC m cC Ms Cs) (Rs : List (List Cx × Tab)) (hR : Reads w Ms Rs) (kds : List Kd) (hkl : kds.length = n) (hk : ∀ (i : Nat) (kd : Kd) (x : Mw) (r : List Cx × Tab), kds[i]? = some kd → Ms[i]? = some x → Rs[i]? = some r → GoodM kd x r) (os : List Int) (hord : orderC (Ms.map Mw.k) Cs n = some os)
    (inn : Int) (hin : inn = -1 ∨ ∃ j : Nat, inn = (j : Int) ∧ j < n) (o : Nat) (ho : o < n) (xs : List Cx) (hxs : xs.length ≤ 4194304) (ob : Bool) (b0 lo0 hi0 : Nat) (v : Value) (hb0 : b0 < w.heap.size) (hv : HasS cxV ob b0 lo0 hi0 w v xs) (N : Nat) (hN : N ≤ 500)
    (St : Nat → List Un × List Cx → Prop) (J : Nat → Nat → List Un × List Cx → Prop) (hs0 : St 0 (unOf kds Ms Rs, List.replicate n (0, 0)))
    (hread : ∀ r, r < N → ∀ s, St r s → J r 0 (s.1, readB (fun _ y => y) s.1 s.2))
    (hring : ∀ r, r < N → ∀ s, St r s → ∀ (i : Nat) (xs : List Cx) (a : Nat), s.1[i]? = some (.ring xs a) → a < xs.length ∧ xs.length ≤ 1048576)
    (hstep : ∀ r, r < N → ∀ (j i : Nat) (kd : Kd) (l : List Nat), os[j]? = some (i : Int) → kds[i]? = some kd → (feedsC n Cs)[i]? = some l → OneI inn (xs.getD r (0, 0)) (fun _ y => y) (i, l, (kd, 0)) (J r j) (J r (j + 1)))
    (hend : ∀ r, r < N → ∀ s, J r n s → St (r + 1) s)
    (Y : Nat → Cx → Prop) (hY : ∀ i s y, i < N → St (i + 1) s → s.2[o]? = some y → Y i y)
    (R : Nat → Mw → Prop) (hmod : ∀ (i : Nat) (kd : Kd) (u : Un) (s : List Un × List Cx), St N s → kds[i]? = some kd → s.1[i]? = some u → ∀ X g f, ModU X (kd, g) f u (R i)) :
    Calls Tryz.prog 11 #[.agg #[.slice AM n cM, .slice AC m cC], .agg #[.int .i64 inn, .int .i64 (o : Int)], v, .int .i64 (N : Int)] w (RanRel n m N Cs Y R w) := by
  have hn : 0 < n := by omega
  have h16 := hr.most
  have hml : Ms.length = n := hr.mods.len.1.symm
  have hrl : Rs.length = n := hR.1.trans hml
  have hcl : m = Cs.length := hr.cabs.len.1
  have hkx : ∀ x ∈ Ms, ∃ kd : Kd, x.k = kd.num := fun x hx => by
    obtain ⟨i, hi⟩ := List.getElem?_of_mem hx
    have hil := (List.getElem?_eq_some_iff.1 hi).1
    obtain ⟨kd, hkd⟩ := getElem?_some (xs := kds) (j := i) (by omega)
    obtain ⟨r, hr⟩ := getElem?_some (xs := Rs) (j := i) (by omega)
    exact ⟨kd, (hk i kd x r hkd hi hr).1⟩
  have hinv := orderC_inv hord
  generalize hU0 : (unOf kds Ms Rs, List.replicate n ((0, 0) : Cx)) = s0 at *
  have HS0 := Lib.hid hs0
  have NR : Hid (∀ w', Span 0 0 w w' → Calls Tryz.prog 20 #[.agg #[.slice AM n cM, .slice AC m cC], .agg #[.int .i64 inn, .int .i64 (o : Int)]] w' (MixC n m kds Ms Rs Cs os w')) := fun w' s =>
    (newRun_any (hr.keep s) Rs (hR.keep s) hkx os hord inn hin o ho).mono fun e w2 h => h.mix kds hk hkl hml hrl ⟨hn, h16.1⟩ hinv (fun c hc => (hr.ends c hc).1) (by omega)
  have RL := Lib.hid (isRunLength_true N hN)
  have HV := Lib.hid hv
  have HST : Hid (∀ (W : List Nat) (Q O H bU bS : Nat) (C : Value) (us : List (Kd × Nat)) (ss : List (Nat × List Nat × (Kd × Nat))) (fs : List (List Nat)), ss.length = os.length → (∀ (j i : Nat) t, os[j]? = some (i : Int) → ss[j]? = some t → stOf kds (feedsC n Cs) i t) → ∀ r, r < N → StepR W Q O n H bU bS C asG us ss fs inn (xs.getD r (0, 0)) (fun _ => True) (St r) (St (r + 1))) := fun W Q O H bU bS C us ss fs h2 h3 r hr => by
    have h4 := stepR_of (W := W) (Q := Q) (O := O) (n := n) (H := H) (bU := bU) (bS := bS) (C := C) (us := us) (ss := ss) (fs := fs) inn (xs.getD r (0, 0)) (fun _ y => y) (fun _ => True) (fun _ _ _ _ => trivial) (becomes_given n _) (St r) (hring r hr) (J r) (hread r hr) (fun j t hj => by
      obtain ⟨i0, hi0⟩ := getElem?_some (xs := os) (j := j) (by rw [← h2]; exact (List.getElem?_eq_some_iff.1 hj).1)
      obtain ⟨i, rfl, _⟩ := hinv.2 i0 (List.mem_of_getElem? hi0)
      obtain ⟨g1, g2, g3⟩ := h3 j i t hi0 hj
      have := hstep r hr j i t.2.2.1 t.2.1 hi0 g3 g2
      rw [← g1] at this
      exact this)
    rw [h2, hinv.1] at h4
    exact fun X w s h5 h6 h7 => (h4 X w s h5 h6 h7).mono fun _ _ ⟨e1, ⟨s', e2, e3⟩, e4⟩ => ⟨e1, ⟨s', hend r hr s' e2, e3⟩, e4⟩
  have HYY := Lib.hid hY
  have HMOD := Lib.hid hmod
  have HX := Lib.hid hxs
  have HN := Lib.hid hN
  have HB0 := Lib.hid hb0
  have H0 := Lib.hid hU0
  have iN : (N : Int) ≤ 500 := by omega
  obtain ⟨Av, cv, rfl, -, -⟩ := id hv
  have SA := Lib.hid ((((Span.refl 0 0 w).alloc (.cells #[.slice AM n cM, .slice AC m cC] 37)).alloc (.cells #[.int .i64 inn, .int .i64 (o : Int)] 44)).alloc (.cells #[.slice none 0 0, .slice none 0 0] 37))
  have BP := (Bx.new (w.alloc (.cells #[.slice AM n cM, .slice AC m cC] 37)) #[.int .i64 inn, .int .i64 (o : Int)] 44).alloc (.cells #[.slice none 0 0, .slice none 0 0] 37)
  rw [show (w.alloc (.cells #[.slice AM n cM, .slice AC m cC] 37)).heap.size = w.heap.size + 1 by simp] at BP
  have BP := Lib.hid BP
  have BZ := Bx.new ((w.alloc (.cells #[.slice AM n cM, .slice AC m cC] 37)).alloc (.cells #[.int .i64 inn, .int .i64 (o : Int)] 44)) #[.slice none 0 0, .slice none 0 0] 37
  rw [show ((w.alloc (.cells #[.slice AM n cM, .slice AC m cC] 37)).alloc (.cells #[.int .i64 inn, .int .i64 (o : Int)] 44)).heap.size = w.heap.size + 2 by simp] at BZ
  have BZ := Lib.hid BZ
  clear hr hR hk hord hv hstep hread hring hend hs0 hY hmod hxs hN hb0 hU0 hkx hinv hin h16 hml hcl hkl hrl
  go_enter Tryz.func11, Tryz.ntmps11
  go_wp2_with fail
  have Z3 : Hid ((((w.alloc (.cells #[.slice AM n cM, .slice AC m cC] 37)).alloc (.cells #[.int .i64 inn, .int .i64 (o : Int)] 44)).alloc (.cells #[.slice none 0 0, .slice none 0 0] 37)).heap.size = w.heap.size + 3) := by unfold Hid; simp
  generalize ((w.alloc (.cells #[.slice AM n cM, .slice AC m cC] 37)).alloc (.cells #[.int .i64 inn, .int .i64 (o : Int)] 44)).alloc (.cells #[.slice none 0 0, .slice none 0 0] 37) = w3 at *
  refine (NR.out _ SA.out).mono ?_
  rintro _ w4 ⟨W, Q, O, bU, bS, bC, A, q, us, ss, fs, rfl, s4, hW, hcab, hbC, hku, hsl, hso, hc⟩
  have BP4 := Lib.hid (BP.out.keep s4)
  have BZ4 := Lib.hid (BZ.out.keep s4)
  have S4 := Lib.hid (SA.out.trans s4)
  have S43 : Hid (w3.heap.size ≤ w4.heap.size) := s4.size
  have HW : Hid (∀ b ∈ W, w.heap.size + 3 ≤ b) := fun b hb => by have := hW b hb; have := Z3.out; omega
  have HCAB := Lib.hid hcab
  have HBC := Lib.hid hbC
  rw [H0.out] at hc
  have HCC := Lib.hid hc
  have HSO := Lib.hid (HST.out W Q O w4.heap.size bU bS (.slice A m q) us ss fs hsl hso)
  have HKU := Lib.hid hku
  have p0 := BP4.out.cells
  have hbw : b0 ∉ W ∧ b0 < w4.heap.size := ⟨fun hm => by have := HW.out b0 hm; have := HB0.out; omega, Nat.lt_of_lt_of_le HB0.out S4.out.size⟩
  have LI := Lib.hid (listen_rel (fb := 58) (cap := #[]) inn o ho xs HX.out N HN.out St HSO.out Y HYY.out ob b0 lo0 hi0 _ w4 hbw (HV.out.span S4.out (.inl (Nat.le_refl _))) s0 HS0.out HCC.out.toB)
  clear s4 hW hcab hbC hku hsl hso hc BP BZ hbw
  go_wp2_with fail
  refine (RL.out _).mono ?_
  rintro _ _ ⟨rfl, rfl⟩
  go_wp2_with fail
  refine LI.out.mono ?_
  rintro _ w5 ⟨g, ys, s5, rfl, hg, hyl, hyy, hs5, hy5, hc5, k5⟩
  have HYF := Lib.hid (And.intro hyl hyy)
  have RK := Lib.hid (rack_rel R (fun i x f u hx hf hu => HMOD.out i x.1 u s5 hs5 (by rw [← HKU.out, List.getElem?_map, hx]; rfl) hu _ x.2 f) w5 hc5 ⟨A, m, q, rfl⟩)
  have BZ5 := Lib.hid (BZ4.out.keeps k5 (fun hm => by have := HW.out _ hm; omega))
  have HG : Hid (w.heap.size + 3 ≤ g) := by
    have h1 := Z3.out
    have h2 := S43.out
    unfold Hid
    omega
  have Z5 : Hid (w.heap.size + 3 ≤ w5.heap.size ∧ w4.heap.size ≤ w5.heap.size) := by
    have h1 := Z3.out
    have h2 := S43.out
    have h3 := k5.size
    exact ⟨by omega, h3⟩
  have HY5 := Lib.hid hy5
  have S5 := Lib.hid (k5.fresh S4.out (fun k hk => by have := HW.out k hk; omega))
  have HC5 := Lib.hid (HCAB.out.keeps k5 HBC.out)
  clear hg hyl hyy hs5 hy5 hc5 k5 p0
  go_wp2_with fail
  refine RK.out.mono ?_
  rintro _ w6 ⟨b', Ns, rfl, hb', hmk, hNs, hR, s6⟩
  have BZ6 := BZ5.out.keep s6
  have cz := BZ6.cells
  have fz := BZ6.thaw
  have BS := Lib.hid (BZ6.set2 (.slice (some ⟨b', 0, none⟩) n n) (.slice A m q))
  have SQ := Lib.hid (((Span.refl (w.heap.size + 2) (w.heap.size + 3) w6).setCell (p := ⟨w.heap.size + 2, 0, none⟩) (.inl ⟨Nat.le_refl _, Nat.lt_succ_self _⟩) (.slice (some ⟨b', 0, none⟩) n n)).setCell (p := ⟨w.heap.size + 2, 1, none⟩) (.inl ⟨Nat.le_refl _, Nat.lt_succ_self _⟩) (.slice A m q))
  have HMK := Lib.hid hmk
  have HNS := Lib.hid hNs
  have HR := Lib.hid hR
  have S6 := Lib.hid (S5.out.trans s6)
  have HB' := Lib.hid hb'
  have HC6 := Lib.hid (HC5.out.keep s6)
  have HY6 := Lib.hid (HY5.out.span s6 (.inl (Nat.le_refl _)))
  have Z56 : Hid (w.heap.size + 3 ≤ w5.heap.size ∧ w4.heap.size ≤ w6.heap.size) := ⟨Z5.out.1, Nat.le_trans Z5.out.2 s6.size⟩
  clear BZ6 hmk hNs hR s6 hb'
  go_wp2_with fail
  have d1 := BS.out.cells
  have z1 := Z56.out
  have z2 := HG.out
  have z3 := HB'.out
  refine bodyPost_ret (v := .tuple #[.agg #[.slice (some ⟨b', 0, none⟩) n n, .slice A m q], .slice (some ⟨g, 0, none⟩) N N, .bool true]) (by simp [results, Tryz.results11, go_sem, d1]) rfl ?_
  refine ⟨b', g, bC, Ns, A, q, ys, rfl, HYF.out.1, HYF.out.2, by omega, by omega, HMK.out.span SQ.out (by omega), HNS.out, HR.out, ?_, HY6.out.span SQ.out (by omega), S6.out.newTo SQ.out (by omega)⟩
  have z4 := Z3.out
  exact (HC6.out.span SQ.out (by omega)).weak (by omega) (.inl (Nat.le_trans z1.2 SQ.out.size))
end
section
open Go.RowKit

/-- A fault. -/
structure Ft where
  kd : Nat
  md : Nat
  fr : Nat
  til : Nat
def ftC (f : Ft) : List Value := [.int .i64 (f.kd : Int), .int .i64 (f.md : Int), .int .i64 (f.fr : Int), .int .i64 (f.til : Int)]
def flushX (x : Nat) : Nat := if subB x then (bits .and .u32 (x : Int) 2147483648).toNat else x
def alterF (f : Ft) (out before : Cx) : Cx := if f.kd = 1 then (0, 0) else if f.kd = 2 then before else (flushX out.1, flushX out.2)
def actsOn (f : Ft) (i k : Nat) : Bool := decide (f.md = k) && (decide (f.fr ≤ i) && decide (i < f.til))
/-- What the output of module k becomes in step i. -/
def faulty (L : List Ft) (i k : Nat) (before out : Cx) : Cx := L.foldl (fun o f => if actsOn f i k then alterF f o before else o) out

set_option maxHeartbeats 400000 in
theorem impl_flushX (x : Nat) (w : World) : Calls Tryz.prog 60 #[.float .f32 x] w fun e w' => e = .returned (.float .f32 (flushX x)) ∧ Span 0 0 w w' := by
  have hb := run_float32bits x
  have hfb := fun n : Int => run_float32frombits n
  go_enter Tryz.func60, Tryz.ntmps60
  go_wp2_with fail
  refine (impl_isSubnormal x _).mono ?_
  rintro _ _ ⟨n, rfl, rfl⟩
  cases hs : subB x with
  | true =>
    have hf : flushX x = (bits .and .u32 (x : Int) 2147483648).toNat := by unfold flushX; rw [hs]; rfl
    go_wp2_with fail
    go_ret
    exact ⟨by rw [hf]; rfl, (Span.refl 0 0 w).drewN _⟩
  | false =>
    have hf : flushX x = x := by unfold flushX; rw [hs]; rfl
    go_wp2_with fail
    go_ret
    exact ⟨by rw [hf]; rfl, (Span.refl 0 0 w).drewN _⟩

set_option maxRecDepth 100000 in
set_option maxHeartbeats 1000000 in
theorem alter_any (f : Ft) (out before : Cx) (w : World) : Calls Tryz.prog 44 #[.agg #[.int .i64 (f.kd : Int), .int .i64 (f.md : Int), .int .i64 (f.fr : Int), .int .i64 (f.til : Int)], .complex .f32 out.1 out.2, .complex .f32 before.1 before.2] w fun e w' => e = .returned (.complex .f32 (alterF f out before).1 (alterF f out before).2) ∧ Span 0 0 w w' := by
  have F1 := Lib.hid (fun w => impl_flushX out.1 w)
  have F2 := Lib.hid (fun w => impl_flushX out.2 w)
  obtain ⟨kd, md, fr, til⟩ := f
  obtain ⟨p, q⟩ := out
  obtain ⟨p', q'⟩ := before
  simp only at F1 F2
  have SA := Lib.hid ((Span.refl 0 0 w).alloc (.cells #[.int .i64 (kd : Int), .int .i64 (md : Int), .int .i64 (fr : Int), .int .i64 (til : Int)] 48))
  by_cases h1 : kd = 1
  · have e : Hid (alterF ⟨kd, md, fr, til⟩ (p, q) (p', q') = (0, 0)) := by unfold alterF; rw [if_pos h1]; exact rfl
    have i1 : (kd : Int) = 1 := by omega
    rw [e.out]
    clear h1
    go_enter Tryz.func44, Tryz.ntmps44
    go_wp2_with fail
    go_ret
    exact ⟨rfl, by rw [i1] at SA; exact SA.out⟩
  · by_cases h2 : kd = 2
    · have e : Hid (alterF ⟨kd, md, fr, til⟩ (p, q) (p', q') = (p', q')) := by unfold alterF; rw [if_neg h1, if_pos h2]; exact rfl
      have i1 : (kd : Int) = 2 := by omega
      rw [e.out]
      clear h1 h2
      go_enter Tryz.func44, Tryz.ntmps44
      go_wp2_with fail
      go_ret
      exact ⟨rfl, by rw [i1] at SA; exact SA.out⟩
    · have e : Hid (alterF ⟨kd, md, fr, til⟩ (p, q) (p', q') = (flushX p, flushX q)) := by unfold alterF; rw [if_neg h1, if_neg h2]; exact rfl
      have i1 : ¬ (kd : Int) = 1 := by omega
      have i2 : ¬ (kd : Int) = 2 := by omega
      rw [e.out]
      clear h1 h2
      go_enter Tryz.func44, Tryz.ntmps44
      go_wp2_with fail
      refine (F1.out _).mono ?_
      rintro _ w1 ⟨rfl, s1⟩
      have S1 := Lib.hid (SA.out.trans s1)
      clear s1
      go_wp2_with fail
      refine (F2.out _).mono ?_
      rintro _ w2 ⟨rfl, s2⟩
      have S2 := Lib.hid (S1.out.trans s2)
      clear s2
      go_wp2_with fail
      go_ret
      exact ⟨rfl, S2.out⟩

theorem faulty_snoc (L : List Ft) (i k : Nat) (before out : Cx) {j : Nat} {f : Ft} (hj : L[j]? = some f) : faulty (L.take (j + 1)) i k before out = if actsOn f i k then alterF f (faulty (L.take j) i k before out) before else faulty (L.take j) i k before out := by
  have e : L.take (j + 1) = L.take j ++ [f] := by
    rw [List.take_add_one, hj]; rfl
  unfold faulty
  rw [e, List.foldl_append]
  rfl

set_option maxRecDepth 100000 in
set_option maxHeartbeats 4000000 in
theorem faultyOutput_any (L : List Ft) (b lo hi : Nat) (v : Value) (i k : Nat) (out before : Cx) (w : World) (hL : HasC 4 ftC b lo hi w v L) (hm : L.length ≤ 1048576) :
    Calls Tryz.prog 25 #[v, .int .i64 (i : Int), .int .i64 (k : Int), .complex .f32 out.1 out.2, .complex .f32 before.1 before.2] w fun e w' => e = .returned (.complex .f32 (faulty L i k before out).1 (faulty L i k before out).2) ∧ Span 0 0 w w' := by
  have HL := Lib.hid hL
  obtain ⟨A, cap, rfl, -, -⟩ := hL
  obtain ⟨n, hn⟩ : ∃ n, n = L.length := ⟨_, rfl⟩
  have HN := Lib.hid hn
  rw [← hn] at HL hm ⊢
  have i1 : (n : Int) ≤ 1048576 := by omega
  have i0 : (0 : Int) ≤ (n : Int) := by omega
  clear hn hm
  go_enter Tryz.func25, Tryz.ntmps25
  go_wp2_with fail
  go_loopw [3, 15] (fun o q wr => ∃ j : Nat, j ≤ n ∧ q = .int .i64 j ∧ o = .complex .f32 (faulty (L.take j) i k before out).1 (faulty (L.take j) i k before out).2 ∧ Span 0 0 w wr) (fun _ q _ => n - (intOf q).toNat)
  case atStart => exact ⟨0, Nat.zero_le _, rfl, rfl, Span.refl _ _ _⟩
  case round =>
    obtain ⟨j, hj, rfl, rfl, hs⟩ := hrel
    have HSR := Lib.hid hs
    by_cases hlt : j < n
    · obtain ⟨x, hx⟩ := getElem?_some (xs := L) (j := j) (by rw [← HN.out]; exact hlt)
      have R := HL.out.keep hs
      obtain ⟨off, hoff⟩ := R.addr (by rw [← HN.out]; omega)
      subst hoff
      have c0 : wr.cell? ⟨b, off + j * 4, none⟩ = some (.int .i64 (x.kd : Int)) := R.at_ hx (i := 0) rfl
      have c1 : wr.cell? ⟨b, off + j * 4 + 1, none⟩ = some (.int .i64 (x.md : Int)) := R.at_ hx (i := 1) rfl
      have c2 : wr.cell? ⟨b, off + j * 4 + 2, none⟩ = some (.int .i64 (x.fr : Int)) := R.at_ hx (i := 2) rfl
      have c3 : wr.cell? ⟨b, off + j * 4 + 3, none⟩ = some (.int .i64 (x.til : Int)) := R.at_ hx (i := 3) rfl
      have HSN := Lib.hid (faulty_snoc L i k before out hx)
      have j1 : (0 : Int) ≤ (j : Int) := by omega
      have j2 : (j : Int) < (n : Int) := by omega
      obtain ⟨o, ho⟩ : ∃ o, o = faulty (L.take j) i k before out := ⟨_, rfl⟩
      rw [← ho] at HSN
      rw [← ho]
      have AL := Lib.hid (fun w => alter_any x o before w)
      obtain ⟨kd, md, fr, til⟩ := x
      simp only at c0 c1 c2 c3 AL
      have SA := Lib.hid (HSR.out.alloc (.cells #[.int .i64 (kd : Int), .int .i64 (md : Int), .int .i64 (fr : Int), .int .i64 (til : Int)] 48))
      have HLT := Lib.hid hlt
      clear R hx hs ho hlt hj
      by_cases h1 : md = k
      · subst h1
        by_cases h2 : fr ≤ i
        · have h2' : (fr : Int) ≤ (i : Int) := by omega
          by_cases h3 : i < til
          · have h3' : (i : Int) < (til : Int) := by omega
            have HA : Hid (actsOn ⟨kd, md, fr, til⟩ i md = true) := by unfold actsOn; simp [h2, h3, Hid]
            clear h2 h3
            go_wp2_with fail
            refine (AL.out _).mono ?_
            rintro _ wa ⟨rfl, sa⟩
            have SB := Lib.hid (SA.out.trans sa)
            clear sa
            go_wp2_with fail
            go_roundw
            case rel => exact ⟨j + 1, HLT.out, by go_num, by rw [HSN.out, if_pos HA.out], SB.out⟩
            case measure => have := HLT.out; simp [intOf]; omega
          · have h3' : ¬ (i : Int) < (til : Int) := by omega
            have HA : Hid (actsOn ⟨kd, md, fr, til⟩ i md = false) := by unfold actsOn; simp [h2, h3, Hid]
            clear h2 h3
            go_wp2_with fail
            go_roundw
            case rel => exact ⟨j + 1, HLT.out, by go_num, by rw [HSN.out, HA.out]; rfl, SA.out⟩
            case measure => have := HLT.out; simp [intOf]; omega
        · have h2' : ¬ (fr : Int) ≤ (i : Int) := by omega
          have HA : Hid (actsOn ⟨kd, md, fr, til⟩ i md = false) := by unfold actsOn; simp [h2, Hid]
          clear h2
          go_wp2_with fail
          go_roundw
          case rel => exact ⟨j + 1, HLT.out, by go_num, by rw [HSN.out, HA.out]; rfl, SA.out⟩
          case measure => have := HLT.out; simp [intOf]; omega
      · have h1' : ¬ ((md : Int) = (k : Int)) := by omega
        have HA : Hid (actsOn ⟨kd, md, fr, til⟩ i k = false) := by unfold actsOn; simp [h1, Hid]
        clear h1
        go_wp2_with fail
        go_roundw
        case rel => exact ⟨j + 1, HLT.out, by go_num, by rw [HSN.out, HA.out]; rfl, SA.out⟩
        case measure => have := HLT.out; simp [intOf]; omega
    · have hjn : j = n := by omega
      subst hjn
      have e : L.take j = L := by rw [HN.out, List.take_length]
      rw [e]
      clear hs e
      go_wp2_with fail
      go_ret
      exact ⟨rfl, HSR.out⟩
end
end Go.Proofs.YtkjlodoppmipfaaGreat
