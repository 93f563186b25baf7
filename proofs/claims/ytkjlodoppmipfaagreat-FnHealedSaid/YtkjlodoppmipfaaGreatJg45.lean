/- Racks without slicers are run with faults, by what holds of their states. -/
import Derived.Test.YtkjlodoppmipfaaGreatJg44
import Derived.Test.YtkjlodoppmipfaaGreatJg13
import Derived.Outline
namespace Go.Proofs.YtkjlodoppmipfaaGreat
open Go.RowKit

theorem NewC.far {n m : Nat} {Ms : List Mw} {Rs : List (List Cx × Tab)} {Cs : List (Nat × Nat)} {os : List Int} {w w' : World} {e : Ending} (h : NewC n m Ms Rs Cs os w e w') : ∃ Q, e = .returned (.tuple #[.pointer (some ⟨Q, 0, none⟩), .bool true]) ∧ w.heap.size < Q := by
  obtain ⟨Q, O, F, Z, b, A, q, bC, U, V, Ns, us, vs, sts, w2, rfl, s2, _, _, _, _, _, hO, hQ, _⟩ := h
  exact ⟨Q, rfl, by have := s2.size; omega⟩
theorem HasC.keepsN {α : Type} {s : Nat} {fl : α → List Value} {b lo hi : Nat} {V : List Nat} {w w1 : World} {v : Value} {L : List α} (h : HasC s fl b lo hi w v L) (k : Keeps V w w1) (hb : 0 < L.length → b ∉ V) : HasC s fl b lo hi w1 v L := by
  by_cases hp : 0 < L.length
  · exact h.keeps k (hb hp)
  · have : L = [] := List.eq_nil_of_length_eq_zero (by omega)
    subst this
    obtain ⟨A, cap, rfl, _⟩ := h
    exact HasC.empty ..
theorem CircB.cellQ {W X : List Nat} {Q O n H bU bS : Nat} {C Bv : Value} {us : List (Kd × Nat)} {ss : List (Nat × List Nat × (Kd × Nat))} {fs : List (List Nat)} {s : List Un × List Cx} {w : World} (h : CircB W X Q O n H bU bS C Bv us ss fs s w) (hC : ∃ A m c, C = .slice A m c) (hB : ∃ f a c, Bv = .func f a c) : ∀ i u, w.cell? ⟨Q, i, none⟩ = some u → (∃ a b c, u = .slice a b c) ∨ ∃ f a b, u = .func f a b := by
  obtain ⟨⟨g1, g2, ⟨U, V, sts, q1, q2, q3, q4, q5⟩, g3, g4⟩, h2, h3, h4⟩ := h
  obtain ⟨CA, Cm, Cc, rfl⟩ := hC
  obtain ⟨B1, B2, B3, rfl⟩ := hB
  obtain ⟨UA, Uc, hU, _⟩ := id q2
  obtain ⟨VA, Vc, hV, _⟩ := id q4
  intro i u hu
  have e := (q1.cells i).symm.trans hu
  rw [hU, hV] at e
  rcases i with _ | _ | _ | _ | _ | i <;> simp at e <;> subst e
  · exact .inl ⟨_, _, _, rfl⟩
  · exact .inl ⟨_, _, _, rfl⟩
  · exact .inl ⟨_, _, _, rfl⟩
  · exact .inl ⟨_, _, _, rfl⟩
  · exact .inr ⟨_, _, _, rfl⟩
theorem CircB.become4 {W X : List Nat} {Q O n H bU bS : Nat} {C Bv : Value} {us : List (Kd × Nat)} {ss : List (Nat × List Nat × (Kd × Nat))} {fs : List (List Nat)} {s : List Un × List Cx} {w : World} (h : CircB W X Q O n H bU bS C Bv us ss fs s w) : w.cell? ⟨Q, 3, none⟩ = some (.slice (some ⟨O, 0, none⟩) n n) ∧ w.cell? ⟨Q, 4, none⟩ = some Bv ∧ ∀ i, w.frozen? ⟨Q, i, none⟩ = false := by
  obtain ⟨⟨g1, g2, ⟨U, V, sts, q1, q2, q3, q4, q5⟩, g3, g4⟩, h2, h3, h4⟩ := h
  exact ⟨q1.cells 3, q1.cells 4, q1.thaw⟩

set_option maxRecDepth 100000 in
set_option maxHeartbeats 1000000 in
theorem areFaults_true {w : World} {bM bC lo hi : Nat} {AM : Option Addr} {n cM : Nat} {AC : Option Addr} {m cC : Nat} {Ms : List Mw} {Cs : List (Nat × Nat)} (hr : RkAt w bM bC lo hi AM n cM AC m cC Ms Cs) {os : List Int} (hord : orderC (Ms.map Mw.k) Cs n = some os) (L : List Ft) (b : Nat) (v : Value) (hf : ∀ f ∈ L, okF n f) (hm : L.length ≤ 20) (hL : HasC 4 ftC b 0 w.heap.size w v L) :
    Calls Tryz.prog 22 #[.agg #[.slice AM n cM, .slice AC m cC], v] w fun e w' => e = .returned (.bool true) ∧ Span 0 0 w w' := by
  have SA := Lib.hid ((Span.refl 0 0 w).alloc (.cells #[.slice AM n cM, .slice AC m cC] 37))
  have IR := Lib.hid (isRack_any (hr.keep SA.out))
  rw [hord] at IR
  have BX := Bx.new w #[.slice AM n cM, .slice AC m cC] 37
  have AA := Lib.hid (fun (w' : World) (s : Span 0 0 (w.alloc (.cells #[.slice AM n cM, .slice AC m cC] 37)) w') => areAll_faults L b v n cM w.heap.size AM (.slice AC m cC) hr.most.1 hf hm w' ((hL.keep (SA.out.trans s)).weak (Nat.le_refl _) (.inl (SA.out.trans s).size)) (BX.keep s))
  have hmf : ∀ (fn : Fn) (first cap : Array Value) (W : World), (Instr.makeFunc fn first cap).run Tryz.prog W = .ok (.func fn first cap) W := fun _ _ _ _ => rfl
  obtain ⟨AL, cL, rfl, -, -⟩ := id hL
  clear hr hord hf hm hL BX
  go_enter Tryz.func22, Tryz.ntmps22
  go_wp2_with fail
  refine IR.out.mono ?_
  rintro _ w1 ⟨rfl, s1⟩
  have S1 := Lib.hid s1
  clear s1
  go_wp2_with fail
  refine (AA.out _ S1.out).mono ?_
  rintro _ w2 ⟨rfl, s2⟩
  have S2 := Lib.hid ((SA.out.trans S1.out).trans s2)
  clear s2
  go_wp2_with fail
  go_ret
  exact ⟨rfl, S2.out⟩

set_option maxRecDepth 100000 in
set_option maxHeartbeats 8000000 in
theorem runFaults_rel {w : World} {bM bC lo hi : Nat} {AM : Option Addr} {n cM : Nat} {AC : Option Addr} {m cC : Nat} {Ms : List Mw} {Cs : List (Nat × Nat)} (hr : RkAt w bM bC lo hi AM n cM AC m cC Ms Cs) (Rs : List (List Cx × Tab)) (hR : Reads w Ms Rs) (kds : List Kd) (hkl : kds.length = n) (hk : ∀ (i : Nat) (kd : Kd) (x : Mw) (r : List Cx × Tab), kds[i]? = some kd → Ms[i]? = some x → Rs[i]? = some r → GoodM kd x r) (os : List Int) (hord : orderC (Ms.map Mw.k) Cs n = some os)
    (inn : Int) (hin : inn = -1 ∨ ∃ j : Nat, inn = (j : Int) ∧ j < n) (o : Nat) (ho : o < n) (xs : List Cx) (hxs : xs.length ≤ 4194304) (ob : Bool) (b0 lo0 hi0 : Nat) (v : Value) (hb0 : b0 < w.heap.size) (hv : HasS cxV ob b0 lo0 hi0 w v xs) (N : Nat) (hN : N ≤ 500)
    (L : List Ft) (hL20 : L.length ≤ 20) (hLok : ∀ f ∈ L, okF n f) (bL : Nat) (vL : Value) (hLs : HasC 4 ftC bL 0 w.heap.size w vL L) (hbL : bL < w.heap.size)
    (St : Nat → List Un × List Cx → Prop) (hs0 : St 0 (unOf kds Ms Rs, List.replicate n (0, 0)))
    (hring : ∀ r, r < N → ∀ s, St r s → ∀ (i : Nat) (xs : List Cx) (a : Nat), s.1[i]? = some (.ring xs a) → a < xs.length ∧ xs.length ≤ 1048576)
    (hstep : ∀ r, r < N → ∀ s, St r s → s.2.length = n → ∃ J : Nat → List Un × List Cx → Prop, J 0 (s.1, readB (fun i y => faulty L r i (s.2.getD i (0, 0)) y) s.1 s.2) ∧ (∀ (j i : Nat) (kd : Kd) (l : List Nat), os[j]? = some (i : Int) → kds[i]? = some kd → (feedsC n Cs)[i]? = some l → OneI inn (xs.getD r (0, 0)) (fun i y => faulty L r i (s.2.getD i (0, 0)) y) (i, l, (kd, 0)) (J j) (J (j + 1))) ∧ ∀ s', J n s' → St (r + 1) s')
    (Y : Nat → Cx → Prop) (hY : ∀ i s y, i < N → St (i + 1) s → s.2[o]? = some y → Y i y)
    (R : Nat → Mw → Prop) (hmod : ∀ (i : Nat) (kd : Kd) (u : Un) (s : List Un × List Cx), St N s → kds[i]? = some kd → s.1[i]? = some u → ∀ X g f, ModU X (kd, g) f u (R i)) :
    Calls Tryz.prog 10 #[.agg #[.slice AM n cM, .slice AC m cC], .agg #[.int .i64 inn, .int .i64 (o : Int)], v, vL, .int .i64 (N : Int)] w (RanRel n m N Cs Y R w) := by
  have hn : 0 < n := by omega
  have h16 := hr.most
  have hml : Ms.length = n := hr.mods.len.1.symm
  have hrl : Rs.length = n := hR.1.trans hml
  have hcl : m = Cs.length := hr.cabs.len.1
  have hkx : ∀ x ∈ Ms, ∃ kd : Kd, x.k = kd.num := fun x hx => by
    obtain ⟨i, hi⟩ := List.getElem?_of_mem hx
    have hil := (List.getElem?_eq_some_iff.1 hi).1
    obtain ⟨kd, hkd⟩ := getElem?_some (xs := kds) (j := i) (by omega)
    obtain ⟨r, hr⟩ := getElem?_some (xs := Rs) (j := i) (by omega)
    exact ⟨kd, (hk i kd x r hkd hi hr).1⟩
  have hinv := orderC_inv hord
  generalize hU0 : (unOf kds Ms Rs, List.replicate n ((0, 0) : Cx)) = s0 at *
  have HS0 := Lib.hid hs0
  have NR : Hid (∀ w', Span 0 0 w w' → Calls Tryz.prog 20 #[.agg #[.slice AM n cM, .slice AC m cC], .agg #[.int .i64 inn, .int .i64 (o : Int)]] w' fun e w2 => MixC n m kds Ms Rs Cs os w' e w2 ∧ ∃ Q, e = .returned (.tuple #[.pointer (some ⟨Q, 0, none⟩), .bool true]) ∧ w'.heap.size < Q) := fun w' s =>
    (newRun_any (hr.keep s) Rs (hR.keep s) hkx os hord inn hin o ho).mono fun e w2 h => ⟨h.mix kds hk hkl hml hrl ⟨hn, h16.1⟩ hinv (fun c hc => (hr.ends c hc).1) (by omega), h.far⟩
  have RL := Lib.hid (isRunLength_true N hN)
  have AF := Lib.hid (fun (w' : World) (s : Span 0 0 w w') => areFaults_true (hr.keep s) hord L bL vL hLok hL20 ((hLs.keep s).weak (Nat.le_refl _) (.inl s.size)))
  have HV := Lib.hid hv
  have HLS := Lib.hid hLs
  have HBL := Lib.hid hbL
  have HL20 := Lib.hid hL20
  have HST : Hid (∀ (W : List Nat) (Q O H bU bS : Nat) (C : Value) (us : List (Kd × Nat)) (ss : List (Nat × List Nat × (Kd × Nat))) (fs : List (List Nat)), ss.length = os.length → (∀ (j i : Nat) t, os[j]? = some (i : Int) → ss[j]? = some t → stOf kds (feedsC n Cs) i t) → ∀ r, r < N → ∀ s, St r s → s.2.length = n → ∀ (FB IB BB bb : Nat) (vb : Value), FB ∉ W → bL ∉ W → IB ∉ W → BB ∉ W → bb ∉ W → StepR W Q O n H bU bS C (.func (.func 24) #[] #[.pointer (some ⟨FB, 0, none⟩), .pointer (some ⟨IB, 0, none⟩), .pointer (some ⟨BB, 0, none⟩)]) us ss fs inn (xs.getD r (0, 0)) (FaultS L bL vL FB IB BB r s.2 bb vb) (fun t => t = s) (St (r + 1))) := fun W Q O H bU bS C us ss fs h2 h3 r hr s hs hsl FB IB BB bb vb e1 e2 e3 e4 e5 => by
    obtain ⟨J, j0, j1, j2⟩ := hstep r hr s hs hsl
    have h4 := stepR_of (W := W) (Q := Q) (O := O) (n := n) (H := H) (bU := bU) (bS := bS) (C := C) (us := us) (ss := ss) (fs := fs) inn (xs.getD r (0, 0)) (fun i y => faulty L r i (s.2.getD i (0, 0)) y) (FaultS L bL vL FB IB BB r s.2 bb vb) (fun _ _ h k => h.keeps k e1 e2 e3 e4 e5) (becomes_faults (by omega) n (by omega) (by omega)) (fun t => t = s) (fun t ht => by rw [ht]; exact hring r hr s hs) J (fun t ht => by rw [ht]; exact j0) (fun j t hj => by
      obtain ⟨i0, hi0⟩ := getElem?_some (xs := os) (j := j) (by rw [← h2]; exact (List.getElem?_eq_some_iff.1 hj).1)
      obtain ⟨i, rfl, _⟩ := hinv.2 i0 (List.mem_of_getElem? hi0)
      obtain ⟨g1, g2, g3⟩ := h3 j i t hi0 hj
      have := j1 j i t.2.2.1 t.2.1 hi0 g3 g2
      rw [← g1] at this
      exact this)
    rw [h2, hinv.1] at h4
    exact fun X w s h5 h6 h7 => (h4 X w s h5 h6 h7).mono fun _ _ ⟨e1, ⟨s', e2, e3⟩, e4⟩ => ⟨e1, ⟨s', j2 s' e2, e3⟩, e4⟩
  have HYY := Lib.hid hY
  have HMOD := Lib.hid hmod
  have HX := Lib.hid hxs
  have HN := Lib.hid hN
  have HB0 := Lib.hid hb0
  have H0 := Lib.hid hU0
  have HON := Lib.hid ho
  have iN : (N : Int) ≤ 500 := by omega
  obtain ⟨Av, cv, rfl, -, -⟩ := id hv
  obtain ⟨AL, cL, rfl, -, -⟩ := id hLs
  have SA := Lib.hid (((((Span.refl 0 0 w).alloc (.cells #[.slice AM n cM, .slice AC m cC] 37)).alloc (.cells #[.int .i64 inn, .int .i64 (o : Int)] 44)).alloc (.cells #[.slice AL L.length cL] 49)).alloc (.cells #[.slice none 0 0, .slice none 0 0] 37))
  clear hr hR hk hord hv hstep hring hs0 hY hmod hxs hN hb0 hU0 hkx hinv hin h16 hml hcl hkl hrl hL20 hLok hLs hbL ho
  go_enter Tryz.func10, Tryz.ntmps10
  go_wp2_with fail
  obtain ⟨B, hB⟩ : ∃ t, t = w.heap.size := ⟨_, rfl⟩
  have BRK : Bx B #[.slice AM n cM, .slice AC m cC] ((((w.alloc (.cells #[.slice AM n cM, .slice AC m cC] 37)).alloc (.cells #[.int .i64 inn, .int .i64 (o : Int)] 44)).alloc (.cells #[.slice AL L.length cL] 49)).alloc (.cells #[.slice none 0 0, .slice none 0 0] 37)) := by rw [hB]; exact (((Bx.new w _ _).alloc _).alloc _).alloc _
  have BP : Bx (B + 1) #[.int .i64 inn, .int .i64 (o : Int)] ((((w.alloc (.cells #[.slice AM n cM, .slice AC m cC] 37)).alloc (.cells #[.int .i64 inn, .int .i64 (o : Int)] 44)).alloc (.cells #[.slice AL L.length cL] 49)).alloc (.cells #[.slice none 0 0, .slice none 0 0] 37)) := by
    have h := ((Bx.new (w.alloc (.cells #[.slice AM n cM, .slice AC m cC] 37)) #[.int .i64 inn, .int .i64 (o : Int)] 44).alloc (.cells #[.slice AL L.length cL] 49)).alloc (.cells #[.slice none 0 0, .slice none 0 0] 37)
    rwa [show (w.alloc (.cells #[.slice AM n cM, .slice AC m cC] 37)).heap.size = B + 1 by simp [hB]] at h
  have BF : Bx (B + 1 + 1) #[.slice AL L.length cL] ((((w.alloc (.cells #[.slice AM n cM, .slice AC m cC] 37)).alloc (.cells #[.int .i64 inn, .int .i64 (o : Int)] 44)).alloc (.cells #[.slice AL L.length cL] 49)).alloc (.cells #[.slice none 0 0, .slice none 0 0] 37)) := by
    have h := (Bx.new ((w.alloc (.cells #[.slice AM n cM, .slice AC m cC] 37)).alloc (.cells #[.int .i64 inn, .int .i64 (o : Int)] 44)) #[.slice AL L.length cL] 49).alloc (.cells #[.slice none 0 0, .slice none 0 0] 37)
    rwa [show ((w.alloc (.cells #[.slice AM n cM, .slice AC m cC] 37)).alloc (.cells #[.int .i64 inn, .int .i64 (o : Int)] 44)).heap.size = B + 1 + 1 by simp [hB]] at h
  have BZ : Bx (B + 1 + 1 + 1) #[.slice none 0 0, .slice none 0 0] ((((w.alloc (.cells #[.slice AM n cM, .slice AC m cC] 37)).alloc (.cells #[.int .i64 inn, .int .i64 (o : Int)] 44)).alloc (.cells #[.slice AL L.length cL] 49)).alloc (.cells #[.slice none 0 0, .slice none 0 0] 37)) := by
    have h := Bx.new (((w.alloc (.cells #[.slice AM n cM, .slice AC m cC] 37)).alloc (.cells #[.int .i64 inn, .int .i64 (o : Int)] 44)).alloc (.cells #[.slice AL L.length cL] 49)) #[.slice none 0 0, .slice none 0 0] 37
    rwa [show (((w.alloc (.cells #[.slice AM n cM, .slice AC m cC] 37)).alloc (.cells #[.int .i64 inn, .int .i64 (o : Int)] 44)).alloc (.cells #[.slice AL L.length cL] 49)).heap.size = B + 1 + 1 + 1 by simp [hB]] at h
  have BRK := Lib.hid BRK
  have BP := Lib.hid BP
  have BF := Lib.hid BF
  have BZ := Lib.hid BZ
  generalize (((w.alloc (.cells #[.slice AM n cM, .slice AC m cC] 37)).alloc (.cells #[.int .i64 inn, .int .i64 (o : Int)] 44)).alloc (.cells #[.slice AL L.length cL] 49)).alloc (.cells #[.slice none 0 0, .slice none 0 0] 37) = w4 at *
  have HB := Lib.hid hB
  rw [← hB]
  obtain ⟨PB, hPB⟩ : ∃ t, t = B + 1 := ⟨_, rfl⟩
  obtain ⟨FB, hFB⟩ : ∃ t, t = B + 1 + 1 := ⟨_, rfl⟩
  obtain ⟨ZB, hZB⟩ : ∃ t, t = B + 1 + 1 + 1 := ⟨_, rfl⟩
  rw [← hPB] at BP
  rw [← hFB] at BF
  rw [← hZB] at BZ
  rw [← hZB, ← hFB, ← hPB]
  have HZ : Hid (PB < ZB ∧ FB < ZB ∧ B < ZB ∧ ZB < w4.heap.size ∧ PB = B + 1 ∧ FB = B + 2 ∧ ZB = B + 3) := ⟨by omega, by omega, by omega, BZ.out.1, by omega, by omega, by omega⟩
  clear hB hPB hFB hZB
  refine (NR.out _ SA.out).mono ?_
  rintro _ wn ⟨⟨W, Q, O, bU, bS, bC, A, q, us, ss, fs, rfl, s4, hW, hcab, hbC, hku, hsl, hso, hc⟩, Q', hQe, hQlt⟩
  have hQQ : Q = Q' := by simpa using hQe
  rw [← hQQ] at hQlt
  have HQL : Hid (w4.heap.size < Q) := hQlt
  clear hQQ hQe hQlt Q'
  have HW : Hid (∀ b ∈ W, w4.heap.size ≤ b) := hW
  have HCAB := Lib.hid hcab
  have HBC := Lib.hid hbC
  rw [H0.out] at hc
  have HCC := Lib.hid hc.toB
  have HSO := Lib.hid (HST.out W Q O wn.heap.size bU bS (.slice A m q) us ss fs hsl hso)
  have HKU := Lib.hid hku
  have S4 := Lib.hid s4
  have SN := Lib.hid (SA.out.trans s4)
  have k0 := (BRK.out.keep s4).cells
  have f0 := (BF.out.keep s4).cells
  clear s4 hW hcab hbC hku hsl hso hc
  go_wp2_with fail
  refine (RL.out _).mono ?_
  rintro _ _ ⟨rfl, rfl⟩
  go_wp2_with fail
  refine (AF.out _ SN.out).mono ?_
  rintro _ wa ⟨rfl, sa⟩
  have SAA := Lib.hid sa
  have hmk : ∀ V : World, (Instr.makeSlice 25 (.int .i64 (N : Int)) (.int .i64 (N : Int))).run Tryz.prog V = .ok (.slice (some ⟨V.heap.size, 0, none⟩) N N) (V.alloc (.cells (zerosV (.complex .f32 0 0) N) 23)) := fun V => run_make_zeros (P := Tryz.prog) V 25 23 (.complex .f32 0 0) 8 Tryz.underlying25 info_c64 rfl N (by have := HN.out; omega) (by have := HN.out; omega)
  clear sa k0 f0
  go_wp2_with fail
  clear hmk
  have HG0 := Lib.hid (hasS_zc wa N)
  have CB0 := Lib.hid ((HCC.out.far SAA.out).more ((Span.refl 0 0 wa).alloc (.cells (zerosV (.complex .f32 0 0) N) 23)) (G := wa.heap.size) (Nat.le_refl _) (by simp))
  have SB0 := Lib.hid (S4.out.trans (SAA.out.alloc (.cells (zerosV (.complex .f32 0 0) N) 23)))
  have SBN := Lib.hid (SAA.out.alloc (.cells (zerosV (.complex .f32 0 0) N) 23))
  generalize wa.alloc (.cells (zerosV (.complex .f32 0 0) N) 23) = wB at *
  obtain ⟨G, hG⟩ : ∃ t, t = wa.heap.size := ⟨_, rfl⟩
  rw [← hG] at HG0 CB0 ⊢
  have HG : Hid (wn.heap.size ≤ G) := by rw [hG]; exact SAA.out.size
  have HCL := Lib.hid ((HCAB.out.keep SBN.out).weak (Nat.le_refl _) (.inl SBN.out.size))
  clear hG
  have HTOP : Hid ((∀ b ∈ W, b < wn.heap.size) ∧ Q < wn.heap.size) := ⟨CB0.out.1.top.1, CB0.out.1.top.2.2.1⟩
  have HQW : Hid (Q ∉ W) := CB0.out.1.nin.1
  go_loopw [42] (fun c wr => ∃ (k : Nat) (zs : List Cx) (sk : List Un × List Cx), k ≤ N ∧ c = .int .i64 k ∧ zs.length = N ∧ (∀ i y, i < k → zs[i]? = some y → Y i y) ∧ St k sk ∧ HasS cxV true G G (G + 1) wr (.slice (some ⟨G, 0, none⟩) N N) zs ∧ (∃ (fb : Nat) (cap : Array Value), CircB W (G :: W) Q O n wn.heap.size bU bS (.slice A m q) (.func (.func fb) #[] cap) us ss fs sk wr) ∧ HasC 2 cabC bC w4.heap.size wr.heap.size wr (.slice A m q) Cs ∧ Keeps (Q :: G :: W) wB wr) (fun c _ => N - (intOf c).toNat)
  case atStart => exact ⟨0, List.replicate N (0, 0), s0, Nat.zero_le _, rfl, by simp, fun i y hi => absurd hi (Nat.not_lt_zero _), HS0.out, HG0.out, ⟨_, _, CB0.out⟩, HCL.out, Keeps.refl ..⟩
  case round =>
    clear HG0 CB0 HCL
    obtain ⟨k, zs, sk, hk, rfl, hzl, hzs, hsk, hz, ⟨fb, cap, hc⟩, hcl, hkp⟩ := hrel
    have out : ∀ b, b < w4.heap.size → b ∉ Q :: G :: W := fun b hb hm => by
      have h1 := HQL.out
      have h2 := HG.out
      have h3 := SB0.out.size
      have h4 := S4.out.size
      rcases List.mem_cons.1 hm with rfl | hm
      · omega
      · rcases List.mem_cons.1 hm with rfl | hm
        · omega
        · have := HW.out b hm; omega
    by_cases hlt : k < N
    · have HCI := Lib.hid hc
      have KW : Hid (Keeps (Q :: G :: W) w4 wr) := (Keeps.span SB0.out).trans hkp
      have BPR := Lib.hid (BP.out.keeps KW.out (out PB (by have := HZ.out; omega)))
      have BFR := Lib.hid (BF.out.keeps KW.out (out FB (by have := HZ.out; omega)))
      have hq := hc.become4
      have q3a : ∀ o, (wr.alloc o).cell? ⟨Q, 3, none⟩ = some (.slice (some ⟨O, 0, none⟩) n n) := fun o => ((hc.far ((Span.refl 0 0 wr).alloc o)).become4).1
      have i16 : (n : Int) ≤ 16 := by have := hc.1.sizes.1; omega
      have CL := Lib.hid (fun (w' : World) (s : Span 0 0 wr w') => cloneC_any sk.2 true O O (O + 1) _ w' (hc.2.2.2.span s (.inl (Nat.le_refl _))) (by have := hc.2.2.1; have := hc.1.sizes.1; omega))
      have HSL : Hid (sk.2.length = n) := hc.2.2.1
      have HZL := Lib.hid hzl
      have HZS := Lib.hid hzs
      have HSK := Lib.hid hsk
      have HZZ := Lib.hid hz
      have HCLR := Lib.hid hcl
      have HKP := Lib.hid hkp
      have HLT := Lib.hid hlt
      have OUT := Lib.hid out
      have j1 : (0 : Int) ≤ (k : Int) := by omega
      have j2 : (k : Int) < (N : Int) := by omega
      have SI := Lib.hid ((Span.refl 0 0 wr).alloc (.cells #[.int .i64 (k : Int)] 3))
      clear hzl hzs hsk hz hc hcl hkp hlt hk out hq
      go_wp2_with fail
      refine (CL.out _ SI.out).mono ?_
      rintro _ w5 ⟨vb, bb, rfl, hb5, s5⟩
      obtain ⟨Ab, cb, rfl, -, -⟩ := id hb5
      have hmf : ∀ (fn : Fn) (first cap : Array Value) (W : World), (Instr.makeFunc fn first cap).run Tryz.prog W = .ok (.func fn first cap) W := fun _ _ _ _ => rfl
      have S5 : Hid (Span 0 0 wr w5) := SI.out.trans s5
      have BI5 : Hid (Bx wr.heap.size #[.int .i64 (k : Int)] w5) := (Bx.new wr _ _).keep s5
      have hB5 : Hid (∃ bb' : Nat, bb' < w5.heap.size ∧ bb' ∉ W ∧ HasS cxV true bb' 0 w5.heap.size w5 (.slice Ab sk.2.length cb) sk.2) := by
        by_cases hp : 0 < sk.2.length
        · obtain ⟨_, _, _, _, hc5⟩ := id hb5
          obtain ⟨_, _, h1, h2, h3, _⟩ := hc5 hp
          refine ⟨bb, h3, fun hm => ?_, hb5.weak (Nat.zero_le _) (.inl (Nat.le_refl _))⟩
          have h4 := HTOP.out.1 bb hm
          have h5 := HCI.out.1.top.2.1
          simp at h1
          omega
        · have e : sk.2 = [] := List.eq_nil_of_length_eq_zero (by omega)
          exact absurd (by rw [← HSL.out, e]; rfl : n = 0) (by have := HON.out; omega)
      have q5 := ((HCI.out.far S5.out).far ((Span.refl 0 0 w5).alloc (.cells #[.slice Ab sk.2.length cb] 25))).become4
      have q4a : (w5.alloc (.cells #[.slice Ab sk.2.length cb] 25)).cell? ⟨Q, 4, none⟩ = some (.func (.func fb) #[] cap) := q5.2.1
      have z4a : (w5.alloc (.cells #[.slice Ab sk.2.length cb] 25)).frozen? ⟨Q, 4, none⟩ = false := q5.2.2 4
      have CB6 := Lib.hid ((HCI.out.far (S5.out.alloc (.cells #[.slice Ab sk.2.length cb] 25))).become ⟨_, _, _, rfl⟩ ⟨_, _, _, rfl⟩ (.func (.func 24) #[] #[.pointer (some ⟨FB, 0, none⟩), .pointer (some ⟨wr.heap.size, 0, none⟩), .pointer (some ⟨w5.heap.size, 0, none⟩)]))
      have kQ : Hid (Keeps [Q] (w5.alloc (.cells #[.slice Ab sk.2.length cb] 25)) ((w5.alloc (.cells #[.slice Ab sk.2.length cb] 25)).setCell ⟨Q, 4, none⟩ (.func (.func 24) #[] #[.pointer (some ⟨FB, 0, none⟩), .pointer (some ⟨wr.heap.size, 0, none⟩), .pointer (some ⟨w5.heap.size, 0, none⟩)]))) := (Keeps.refl [Q] _).setCell Q 4 (by simp) _
      have hQw : Hid (Q < wr.heap.size ∧ wr.heap.size < w5.heap.size) := ⟨Nat.lt_of_lt_of_le HTOP.out.2 HCI.out.1.top.2.1, BI5.out.1⟩
      have BI6 := Lib.hid ((BI5.out.alloc (.cells #[.slice Ab sk.2.length cb] 25)).keeps kQ.out (by have := hQw.out; simp; omega))
      have BB6 := Lib.hid ((Bx.new w5 #[.slice Ab sk.2.length cb] 25).keeps kQ.out (by have := hQw.out; simp; omega))
      have BP6 := Lib.hid ((BPR.out.keep (S5.out.alloc (.cells #[.slice Ab sk.2.length cb] 25))).keeps kQ.out (by have := HZ.out; have := HQL.out; simp; omega))
      have BF6 := Lib.hid ((BFR.out.keep (S5.out.alloc (.cells #[.slice Ab sk.2.length cb] 25))).keeps kQ.out (by have := HZ.out; have := HQL.out; simp; omega))
      have KW6 : Hid (Keeps (Q :: G :: W) wr ((w5.alloc (.cells #[.slice Ab sk.2.length cb] 25)).setCell ⟨Q, 4, none⟩ (.func (.func 24) #[] #[.pointer (some ⟨FB, 0, none⟩), .pointer (some ⟨wr.heap.size, 0, none⟩), .pointer (some ⟨w5.heap.size, 0, none⟩)]))) := (Keeps.span (S5.out.alloc _)).trans (kQ.out.weak (fun b hb => .inl (List.mem_cons.2 (.inl (List.mem_singleton.1 hb)))))
      have HZ6 := Lib.hid ((HZZ.out.span (S5.out.alloc (.cells #[.slice Ab sk.2.length cb] 25)) (.inl (Nat.le_refl _))).keeps kQ.out (by have := HG.out; have := HTOP.out.2; simp; omega))
      have HB6 : Hid (∃ bb' : Nat, bb' ∉ W ∧ HasS cxV true bb' 0 ((w5.alloc (.cells #[.slice Ab sk.2.length cb] 25)).setCell ⟨Q, 4, none⟩ (.func (.func 24) #[] #[.pointer (some ⟨FB, 0, none⟩), .pointer (some ⟨wr.heap.size, 0, none⟩), .pointer (some ⟨w5.heap.size, 0, none⟩)])).heap.size ((w5.alloc (.cells #[.slice Ab sk.2.length cb] 25)).setCell ⟨Q, 4, none⟩ (.func (.func 24) #[] #[.pointer (some ⟨FB, 0, none⟩), .pointer (some ⟨wr.heap.size, 0, none⟩), .pointer (some ⟨w5.heap.size, 0, none⟩)])) (.slice Ab sk.2.length cb) sk.2) := by
        obtain ⟨bb', h1, h2, h3⟩ := hB5.out
        refine ⟨bb', h2, ((h3.alloc _).putQ (fun j x hx => ?_)).weak (Nat.le_refl _) (.inl (by have := kQ.out.size; simp at this ⊢))⟩
        rcases (HCI.out.far (S5.out.alloc (.cells #[.slice Ab sk.2.length cb] 25))).cellQ ⟨_, _, _, rfl⟩ ⟨_, _, _, rfl⟩ _ _ hx with ⟨a, b, c, e⟩ | ⟨a, b, c, e⟩ <;> cases e
      have HCL6 := Lib.hid ((((HCLR.out.keep (S5.out.alloc (.cells #[.slice Ab sk.2.length cb] 25)))).putQ (Q := Q) (i := 4) (u := .func (.func 24) #[] #[.pointer (some ⟨FB, 0, none⟩), .pointer (some ⟨wr.heap.size, 0, none⟩), .pointer (some ⟨w5.heap.size, 0, none⟩)]) (fun j x y hy hx => by
        cases hy
        rcases (HCI.out.far (S5.out.alloc (.cells #[.slice Ab sk.2.length cb] 25))).cellQ ⟨_, _, _, rfl⟩ ⟨_, _, _, rfl⟩ _ _ hx with ⟨a, b, c, e⟩ | ⟨a, b, c, e⟩ <;> cases e) (fun x => ⟨_, rfl⟩)).weak (Nat.le_refl _) (.inl KW6.out.size))
      clear hb5 s5 q5 q3a
      go_upto_region 10 with fail
      clear q4a z4a hmf
      generalize (w5.alloc (.cells #[.slice Ab sk.2.length cb] 25)).setCell ⟨Q, 4, none⟩ (.func (.func 24) #[] #[.pointer (some ⟨FB, 0, none⟩), .pointer (some ⟨wr.heap.size, 0, none⟩), .pointer (some ⟨w5.heap.size, 0, none⟩)]) = w6 at *
      obtain ⟨IB, hIB⟩ : ∃ t, t = wr.heap.size := ⟨_, rfl⟩
      obtain ⟨BB, hBB⟩ : ∃ t, t = w5.heap.size := ⟨_, rfl⟩
      rw [← hIB] at BI6 CB6 ⊢
      rw [← hBB] at BB6 CB6 ⊢
      have HIB : Hid (wn.heap.size ≤ IB ∧ IB < BB ∧ IB = wr.heap.size) := ⟨by rw [hIB]; exact HCI.out.1.top.2.1, by rw [hIB, hBB]; exact hQw.out.2, hIB⟩
      obtain ⟨bb', hbW, hbS⟩ := HB6.out
      have HBS := Lib.hid hbS
      have KA6 : Hid (Keeps (Q :: G :: W) w4 w6) := KW.out.trans KW6.out
      have NW : Hid (∀ b, wn.heap.size ≤ b → b ∉ W) := fun b hb hm => by have := HTOP.out.1 b hm; omega
      have NO : Hid (∀ b, b < w4.heap.size → b ∉ W) := fun b hb hm => by have := HW.out b hm; omega
      have FS := Lib.hid (show FaultS L bL (.slice AL L.length cL) FB IB BB k sk.2 bb' (.slice Ab sk.2.length cb) w6.drew from ⟨BF6.out, ((HLS.out.keep SA.out).keeps KA6.out (OUT.out bL (by have := HBL.out; have := SA.out.size; omega))).weak (Nat.le_refl _) (.inl (Nat.le_trans SA.out.size KA6.out.size)), BI6.out, BB6.out, HBS.out⟩)
      have HE := Lib.hid (hear_rel (FaultS L bL (.slice AL L.length cL) FB IB BB k sk.2 bb' (.slice Ab sk.2.length cb)) (fun _ _ h kk => h.keeps kk (NO.out FB (by have := HZ.out; omega)) (NO.out bL (by have := HBL.out; have := SA.out.size; omega)) (NW.out IB HIB.out.1) (NW.out BB (by have := HIB.out; omega)) hbW) inn o HON.out xs HX.out k (by have := HN.out; have := HLT.out; omega) (fun t => t = sk) (St (k + 1)) (HSO.out k HLT.out sk HSK.out HSL.out FB IB BB bb' (.slice Ab sk.2.length cb) (NO.out FB (by have := HZ.out; omega)) (NO.out bL (by have := HBL.out; have := SA.out.size; omega)) (NW.out IB HIB.out.1) (NW.out BB (by have := HIB.out; omega)) hbW) sk rfl ob b0 lo0 hi0 _ w6.drew FS.out ((((HV.out.span SA.out (.inl (Nat.le_refl _))).keeps KA6.out (OUT.out b0 (by have := HB0.out; have := SA.out.size; omega)))).span ((Span.refl 0 0 w6).drew) (.inl (Nat.le_refl _))) (CB6.out.far ((Span.refl 0 0 w6).drew)))
      have dA : w6.cell? ⟨IB, 0, none⟩ = some (.int .i64 (k : Int)) ∧ w6.cell? ⟨PB, 0, none⟩ = some (.int .i64 inn) ∧ w6.cell? ⟨PB, 1, none⟩ = some (.int .i64 (o : Int)) := ⟨BI6.out.cells 0, BP6.out.cells 0, BP6.out.cells 1⟩
      clear hIB hBB hbS BI5 hB5 kQ
      go_region_held3 (fun w' => w'.cell? ⟨IB, 0, none⟩ = some (.int .i64 (k : Int)) ∧ w'.cell? ⟨PB, 0, none⟩ = some (.int .i64 inn) ∧ w'.cell? ⟨PB, 1, none⟩ = some (.int .i64 (o : Int)))
        (first
          | exact dA
          | exact d7
          | exact d8)
        ((first
          | (go_at_call 26; refine HE.out.mono ?_; rintro _ w7 ⟨s', ⟨y1, y2⟩, hj7, hy7, rfl, c7, k7⟩
             have K7 : Hid (Keeps W w6 w7) := k7.undrawn1
             have HJ7 := Lib.hid (And.intro hj7 hy7)
             have C7 := Lib.hid c7
             have B7 := BI6.out.keeps K7.out (NW.out IB HIB.out.1)
             have P7 := BP6.out.keeps K7.out (NO.out PB (by have := HZ.out; omega))
             have d7 : w7.cell? ⟨IB, 0, none⟩ = some (.int .i64 (k : Int)) ∧ w7.cell? ⟨PB, 0, none⟩ = some (.int .i64 inn) ∧ w7.cell? ⟨PB, 1, none⟩ = some (.int .i64 (o : Int)) := ⟨B7.cells 0, P7.cells 0, P7.cells 1⟩
             have hGI : G ≠ IB := fun e => by
               obtain ⟨_, _, _, _, h4⟩ := HZZ.out.addrT (by rw [HZL.out]; exact Nat.lt_of_le_of_lt (Nat.zero_le _) HLT.out)
               have := HIB.out.2.2
               omega
             have Z7 := HZ6.out.keeps K7.out (NW.out G HG.out)
             obtain ⟨A5, cc5, e5, -, hpc⟩ := id Z7
             injection e5 with e10 e11 e12
             obtain ⟨offO, e13, -, -, -, hpc2, hpf⟩ := hpc (by rw [HZL.out]; exact Nat.lt_of_le_of_lt (Nat.zero_le _) HLT.out)
             rw [← e10] at e13
             injection e13 with e13
             injection e13 with e14 e15
             subst e15
             obtain ⟨z0, hz0⟩ := getElem?_some (xs := zs) (j := k) (by rw [HZL.out]; exact HLT.out)
             have oc7 : w7.cell? ⟨G, k, none⟩ = some (cxV z0) := by
               have h := hpc2 k _ hz0
               rwa [Nat.zero_add] at h
             have of7 : w7.frozen? ⟨G, k, none⟩ = false := by
               have h := hpf rfl k (by rw [HZL.out]; exact HLT.out)
               rwa [Nat.zero_add] at h
             have Z8 := Z7.putB k (y1, y2) (by rw [HZL.out]; exact HLT.out)
             rw [Nat.zero_add] at Z8
             have HZ8 := Lib.hid Z8
             have hGP : G ≠ PB := fun e => by have := HZ.out; have := HG.out; have := S4.out.size; omega
             have B8 := B7.other (a := ⟨G, k, none⟩) hGI (.complex .f32 y1 y2)
             have P8 := P7.other (a := ⟨G, k, none⟩) hGP (.complex .f32 y1 y2)
             have d8 : (w7.setCell ⟨G, k, none⟩ (.complex .f32 y1 y2)).cell? ⟨IB, 0, none⟩ = some (.int .i64 (k : Int)) ∧ (w7.setCell ⟨G, k, none⟩ (.complex .f32 y1 y2)).cell? ⟨PB, 0, none⟩ = some (.int .i64 inn) ∧ (w7.setCell ⟨G, k, none⟩ (.complex .f32 y1 y2)).cell? ⟨PB, 1, none⟩ = some (.int .i64 (o : Int)) := ⟨B8.cells 0, P8.cells 0, P8.cells 1⟩
             clear hj7 hy7 c7 k7 B7 P7 hGI hGP B8 P8 Z7 hpc hpc2 hpf hz0 Z8 e10 e11 e12 e14)))
      all_goals
        go_wp2_with fail
        go_roundw
        case rel =>
          have kG : Keeps [G] w7 (w7.setCell ⟨G, k, none⟩ (cxV (y1, y2))) := (Keeps.refl [G] w7).setCell G k (by simp) _
          have hGt := HG.out
          refine ⟨k + 1, zs.set k (y1, y2), s', HLT.out, by go_num, by rw [List.length_set]; exact HZL.out, fun i y hi hy => ?_, HJ7.out.1, HZ8.out, ⟨_, _, C7.out.other kG (fun b hb => by rw [List.mem_singleton.1 hb]; exact hGt) (fun b hb => by rw [List.mem_singleton.1 hb]; exact List.mem_cons_self ..)⟩, ((HCL6.out.keeps K7.out HBC.out).keepsN kG (fun hp hm => ?_)).weak (Nat.le_refl _) (.inl (Nat.le_trans K7.out.size kG.size)), ((HKP.out.trans KW6.out).trans ((K7.out.weak (fun b hb => .inl (List.mem_cons_of_mem _ (List.mem_cons_of_mem _ hb)))).trans (kG.weak (fun b hb => .inl (List.mem_cons_of_mem _ (List.mem_cons.2 (.inl (List.mem_singleton.1 hb))))))))⟩
          · by_cases he : i = k
            · subst he
              rw [List.getElem?_set_self (by rw [HZL.out]; exact HLT.out)] at hy
              injection hy with hy
              rw [← hy]
              exact HYY.out i s' _ HLT.out HJ7.out.1 HJ7.out.2
            · rw [List.getElem?_set_ne (by omega)] at hy
              exact HZS.out i y (by omega) hy
          · obtain ⟨_, _, _, _, hcc⟩ := HCAB.out
            obtain ⟨_, _, _, h2, _⟩ := hcc hp
            have e : bC = G := List.mem_singleton.1 hm
            omega
        case measure => have := HLT.out; simp [intOf]; omega
    · have hkn : k = N := by omega
      subst hkn
      have RK := Lib.hid (rack_rel R (fun i x f u hx hf hu => HMOD.out i x.1 u sk hsk (by rw [← HKU.out, List.getElem?_map, hx]; rfl) hu _ x.2 f) wr hc ⟨A, m, q, rfl⟩)
      have KW : Hid (Keeps (Q :: G :: W) w4 wr) := (Keeps.span SB0.out).trans hkp
      have BZR := Lib.hid (BZ.out.keeps KW.out (out ZB HZ.out.2.2.2.1))
      have HFI := Lib.hid (And.intro hzl (fun i y hy => hzs i y (by have := (List.getElem?_eq_some_iff.1 hy).1; omega) hy : ∀ i y, zs[i]? = some y → Y i y))
      have HZZ := Lib.hid hz
      have HCLR := Lib.hid hcl
      have SW := Lib.hid (KW.out.fresh SA.out (fun b hb => by
        have h1 := HQL.out
        have h2 := HG.out
        have h4 := S4.out.size
        have h5 := SA.out.size
        rcases List.mem_cons.1 hb with rfl | hb
        · omega
        · rcases List.mem_cons.1 hb with rfl | hb
          · omega
          · have := HW.out b hb; omega))
      have HGW : Hid (wn.heap.size ≤ wr.heap.size) := hc.1.top.2.1
      clear hzl hzs hsk hz hc hcl hkp hlt hk out
      go_wp2_with fail
      refine RK.out.mono ?_
      rintro _ w6 ⟨b', Ns, rfl, hb', hmk, hNs, hR, s6⟩
      have BZ6 := BZR.out.keep s6
      have cz := BZ6.cells
      have fz := BZ6.thaw
      have BS := Lib.hid (BZ6.set2 (.slice (some ⟨b', 0, none⟩) n n) (.slice A m q))
      have SQ := Lib.hid (((Span.refl ZB (ZB + 1) w6).setCell (p := ⟨ZB, 0, none⟩) (.inl ⟨Nat.le_refl _, Nat.lt_succ_self _⟩) (.slice (some ⟨b', 0, none⟩) n n)).setCell (p := ⟨ZB, 1, none⟩) (.inl ⟨Nat.le_refl _, Nat.lt_succ_self _⟩) (.slice A m q))
      have HMK := Lib.hid hmk
      have HNS := Lib.hid hNs
      have HR := Lib.hid hR
      have S6 := Lib.hid (SW.out.trans s6)
      have HB' := Lib.hid hb'
      have HC6 := Lib.hid (HCLR.out.keep s6)
      have HY6 := Lib.hid (HZZ.out.span s6 (.inl (Nat.le_refl _)))
      have Z6 := Lib.hid s6.size
      clear BZ6 hmk hNs hR s6 hb'
      go_wp2_with fail
      have d1 := BS.out.cells
      have z1 := HZ.out
      have z2 := HG.out
      have z3 := HB'.out
      have z4 := HB.out
      have z5 := S4.out.size
      have z6 := HGW.out
      have z7 := Z6.out
      have z8 := SA.out.size
      refine bodyPost_ret (v := .tuple #[.agg #[.slice (some ⟨b', 0, none⟩) n n, .slice A m q], .slice (some ⟨G, 0, none⟩) k k, .bool true]) (by simp [results, Tryz.results10, go_sem, d1]) rfl ?_
      refine ⟨b', G, bC, Ns, A, q, zs, rfl, HFI.out.1, HFI.out.2, by omega, by omega, HMK.out.span SQ.out (by omega), HNS.out, HR.out, ?_, HY6.out.span SQ.out (by omega), S6.out.newTo SQ.out (by omega)⟩
      exact (HC6.out.span SQ.out (by omega)).weak (by omega) (.inl (Nat.le_trans z7 SQ.out.size))
end Go.Proofs.YtkjlodoppmipfaaGreat
