/- A rack of modules without tables is copied: what its copies are. Cables are added to a rack. A cable is added to a rack. -/
import Derived.Test.YtkjlodoppmipfaaGreatJg32
import Derived.Outline
import Derived.Test.YtkjlodoppmipfaaGreatJg19
import Derived.Deep.DeepCutAuto
namespace Go.Proofs.YtkjlodoppmipfaaGreat
section
open Go.RowKit

/-- A copy of a module: the module itself, where it has no slices; or a delay with a ring of its own, behind B. -/
def CpM (m : Mw) (r : List Cx) (x : Mw) (B : Nat) (w : World) : Prop :=
  (x = m ∧ m.S = none) ∨ ∃ A p bs hi, x = { m with S := A, sp := p } ∧ (m.sn = r.length ∧ 0 < r.length) ∧ HasS cxV true bs B hi w (.slice A r.length p) r
theorem CpM.span {m : Mw} {r : List Cx} {x : Mw} {B lo hi : Nat} {w w' : World} (h : CpM m r x B w) (s : Span lo hi w w') (hd : hi ≤ lo ∨ hi ≤ B) : CpM m r x B w' := by
  rcases h with h | ⟨A, p, bs, h2, h3, h4, h5⟩
  · exact .inl h
  · exact .inr ⟨A, p, bs, h2, h3, h4, h5.span s (by omega)⟩
theorem CpM.weak {m : Mw} {r : List Cx} {x : Mw} {B B' : Nat} {w : World} (h : CpM m r x B w) (hB : B' ≤ B) : CpM m r x B' w := by
  rcases h with h | ⟨A, p, bs, h2, h3, h4, h5⟩
  · exact .inl h
  · exact .inr ⟨A, p, bs, h2, h3, h4, h5.weak hB (.inl (Nat.le_refl _))⟩
def CopN (b : Nat) (w : World) (Ms : List Mw) (Rs : List (List Cx)) (Ns : List Mw) : Prop :=
  ∀ (i : Nat) (x : Mw), Ns[i]? = some x → ∃ m r, Ms[i]? = some m ∧ Rs[i]? = some r ∧ CpM m r x (b + 1) w
theorem CopN.span {b lo hi : Nat} {w w' : World} {Ms : List Mw} {Rs : List (List Cx)} {Ns : List Mw} (h : CopN b w Ms Rs Ns) (s : Span lo hi w w') (hd : hi ≤ lo ∨ hi ≤ b + 1) : CopN b w' Ms Rs Ns := fun i x hx => by
  obtain ⟨m, r, h1, h2, h3⟩ := h i x hx
  exact ⟨m, r, h1, h2, h3.span s hd⟩
theorem CopN.snoc {b : Nat} {w : World} {Ms : List Mw} {Rs : List (List Cx)} {Ns : List Mw} (h : CopN b w Ms Rs Ns) (x m : Mw) (r : List Cx) (hm : Ms[Ns.length]? = some m) (hr : Rs[Ns.length]? = some r) (hx : CpM m r x (b + 1) w) : CopN b w Ms Rs (Ns ++ [x]) := fun i y hy => by
  rcases Nat.lt_trichotomy i Ns.length with hlt | rfl | hgt
  · rw [List.getElem?_append_left hlt] at hy
    exact h i y hy
  · rw [List.getElem?_append_right (Nat.le_refl _), Nat.sub_self] at hy
    simp at hy; subst hy
    exact ⟨m, r, hm, hr, hx⟩
  · rw [List.getElem?_eq_none (by simp; omega)] at hy; cases hy
theorem CpM.lt {m : Mw} {r : List Cx} {x : Mw} {B : Nat} {w : World} (h : CpM m r x B w) (g : Addr) (hn : 0 < x.sn) (hg : x.S = some g) : g.block < w.heap.size := by
  rcases h with ⟨rfl, h⟩ | ⟨A, p, bs, h2, rfl, h4, h5⟩
  · rw [h] at hg; cases hg
  · simp only at hn hg
    obtain ⟨A', c', e, _, hc⟩ := h5
    injection e with e1 e2 e3
    obtain ⟨off, e4, _, _, h6, _⟩ := hc (by omega)
    rw [hg, e4] at e1
    injection e1 with e1
    rw [e1]; exact h6
/-- What lies ahead of Z is as it was. -/
theorem CopN.past {b Z : Nat} {w w' : World} {Ms : List Mw} {Rs : List (List Cx)} {Ns : List Mw} (h : CopN b w Ms Rs Ns) (hZ : ∀ (i : Nat) (x : Mw) (g : Addr), Ns[i]? = some x → 0 < x.sn → x.S = some g → g.block < Z) (hs : w.heap.size ≤ w'.heap.size) (hb : ∀ k, k < Z → w'.heap[k]? = w.heap[k]?) : CopN b w' Ms Rs Ns := fun i x hx => by
  obtain ⟨m, r, h1, h2, h3⟩ := h i x hx
  refine ⟨m, r, h1, h2, ?_⟩
  rcases h3 with h3 | ⟨A, p, bs, h4, rfl, h5, h6⟩
  · exact .inl h3
  · refine .inr ⟨A, p, bs, h4, rfl, h5, ?_⟩
    by_cases hp : 0 < r.length
    · obtain ⟨A', c', e, _, hc⟩ := id h6
      injection e with e1 e2 e3
      obtain ⟨off, e4, _⟩ := hc hp
      have := hZ i _ ⟨bs, off, none⟩ hx (by simp only; omega) (by simp only; rw [e1, e4])
      exact h6.same (fun hl => ⟨Nat.lt_of_lt_of_le hl hs, hb bs this⟩)
    · have h0 : r = [] := List.eq_nil_of_length_eq_zero (by omega)
      subst h0
      exact HasS.empty ..
/-- A module that is copied so. -/
def CopiesM (m : Mw) (r : List Cx) (w : World) : Prop := ∀ w', Span 0 0 w w' → Calls Tryz.prog 80 #[.agg #[.int .i64 m.k, .complex .f32 m.t1 m.t2, .complex .f32 m.s1 m.s2, .float .f32 m.lv, .slice m.S m.sn m.sp, .int .i64 m.a, .int .i64 m.cnt, .slice m.P m.pn m.pp, .slice m.L m.ln m.lp, .int .i64 m.c, .int .i64 m.f]] w' fun e w'' => ∃ x : Mw, e = .returned (.agg #[.int .i64 x.k, .complex .f32 x.t1 x.t2, .complex .f32 x.s1 x.s2, .float .f32 x.lv, .slice x.S x.sn x.sp, .int .i64 x.a, .int .i64 x.cnt, .slice x.P x.pn x.pp, .slice x.L x.ln x.lp, .int .i64 x.c, .int .i64 x.f]) ∧ CpM m r x w'.heap.size w'' ∧ Span 0 0 w' w''

/-- A copy of a rack. -/
def CopyRkN (n m : Nat) (Ms : List Mw) (Rs : List (List Cx)) (Cs : List (Nat × Nat)) (w : World) (e : Ending) (w' : World) : Prop :=
  ∃ b A q bC Ns Z, e = .returned (.agg #[.slice (some ⟨b, 0, none⟩) n n, .slice A m q]) ∧ w.heap.size ≤ b ∧ MadeK b n w' Ns ∧ Ns.length = n ∧ CopN b w' Ms Rs Ns ∧ HasC 2 cabC bC (b + 1) w'.heap.size w' (.slice A m q) Cs ∧ w'.ownsRow Z 42 2 (.slice A m q) m (flatG cabC Cs) ∧ b < Z ∧ Z ≤ w'.heap.size ∧ (∀ (i : Nat) (x : Mw) (g : Addr), Ns[i]? = some x → 0 < x.sn → x.S = some g → g.block < Z) ∧ Span 0 0 w w'

set_option maxRecDepth 100000 in
set_option maxHeartbeats 8000000 in
theorem copyRack_new {w : World} {bM bC lo hi : Nat} {AM : Option Addr} {n cM : Nat} {AC : Option Addr} {m cC : Nat} {Ms : List Mw} {Cs : List (Nat × Nat)} (hr : RkAt w bM bC lo hi AM n cM AC m cC Ms Cs) (Rs : List (List Cx)) (hR : Rs.length = Ms.length ∧ ∀ (i : Nat) (x : Mw) (r : List Cx), Ms[i]? = some x → Rs[i]? = some r → CopiesM x r w) :
    Calls Tryz.prog 57 #[.agg #[.slice AM n cM, .slice AC m cC]] w (CopyRkN n m Ms Rs Cs w) := by
  have HR := Lib.hid hr
  have HN := Lib.hid hr.mods.len.1
  have HM := Lib.hid hr.cabs.len.1
  have HRS := Lib.hid hR
  have h16 : n ≤ 16 := hr.most.1
  have i3 : (n : Int) ≤ 16 := by omega
  have H40 := Lib.hid hr.most.2
  clear hr hR
  go_enter Tryz.func57, Tryz.ntmps57
  obtain ⟨w1, hw1⟩ : ∃ t, t = (w.alloc (.cells #[.slice AM n cM, .slice AC m cC] 37)).alloc (.cells #[.slice none 0 0, .slice none 0 0] 37) := ⟨_, rfl⟩
  have e1 : w1.heap.size = w.heap.size + 2 := by rw [hw1]; simp
  have BR := Lib.hid ((Bx.new w #[.slice AM n cM, .slice AC m cC] 37).alloc (.cells #[.slice none 0 0, .slice none 0 0] 37))
  have BZ := Lib.hid (Bx.new (w.alloc (.cells #[.slice AM n cM, .slice AC m cC] 37)) #[.slice none 0 0, .slice none 0 0] 37)
  rw [show (w.alloc (.cells #[.slice AM n cM, .slice AC m cC] 37)).heap.size = w.heap.size + 1 by simp] at BZ
  have S1 := Lib.hid (((Span.refl 0 0 w).alloc (.cells #[.slice AM n cM, .slice AC m cC] 37)).alloc (.cells #[.slice none 0 0, .slice none 0 0] 37))
  have hmk := run_make_mods w1 n (by omega)
  rw [hw1] at hmk
  go_wp2_with fail
  clear hmk
  rw [← hw1] at BR BZ S1 ⊢
  have MK := Lib.hid (MadeK.new w1 n)
  have BR2 := Lib.hid (BR.out.alloc (.cells (madeCells zM (n * 11)) 32))
  have BZ2 := Lib.hid (BZ.out.alloc (.cells (madeCells zM (n * 11)) 32))
  have S2 := Lib.hid (S1.out.alloc (.cells (madeCells zM (n * 11)) 32))
  generalize w1.alloc (.cells (madeCells zM (n * 11)) 32) = w2 at *
  obtain ⟨b, hb⟩ : ∃ t, t = w.heap.size + 2 := ⟨_, rfl⟩
  rw [e1] at MK
  try rw [show w.heap.size + 1 + 1 = w.heap.size + 2 from rfl]
  rw [← hb] at MK ⊢
  have HB := Lib.hid hb
  clear hb hw1 BR BZ S1 e1
  go_loopw [13] (fun q wr => ∃ (k : Nat) (Ns : List Mw), k ≤ n ∧ q = .int .i64 k ∧ Ns.length = k ∧ MadeK b n wr Ns ∧ CopN b wr Ms Rs Ns ∧ Bx w.heap.size #[.slice AM n cM, .slice AC m cC] wr ∧ Bx (w.heap.size + 1) #[.slice none 0 0, .slice none 0 0] wr ∧ Span 0 0 w wr) (fun q _ => n - (intOf q).toNat)
  case atStart => exact ⟨0, [], Nat.zero_le _, rfl, rfl, MK.out, fun i x h => by simp at h, BR2.out, BZ2.out, S2.out⟩
  case round =>
    clear MK BR2 BZ2 S2
    obtain ⟨k, Ns, hk, rfl, hNs, hmk, hcp, hbr, hbz, hs⟩ := hrel
    by_cases hlt : k < n
    · obtain ⟨x, hx⟩ := getElem?_some (xs := Ms) (j := k) (by rw [← HN.out]; exact hlt)
      obtain ⟨r, hrr⟩ := getElem?_some (xs := Rs) (j := k) (by rw [HRS.out.1, ← HN.out]; exact hlt)
      have CM := Lib.hid (HRS.out.2 k x r hx hrr (wr.alloc (.cells #[.int .i64 x.k, .complex .f32 x.t1 x.t2, .complex .f32 x.s1 x.s2, .float .f32 x.lv, .slice x.S x.sn x.sp, .int .i64 x.a, .int .i64 x.cnt, .slice x.P x.pn x.pp, .slice x.L x.ln x.lp, .int .i64 x.c, .int .i64 x.f] 32)) (hs.alloc _))
      have R := HR.out.keep hs
      obtain ⟨off, hoff⟩ := R.mods.addr (by rw [← HN.out]; omega)
      subst hoff
      obtain ⟨c0, c1, c2, c3, c4, c5, c6, c7, c8, c9, c10⟩ := R.mods.mw hx
      have HX := Lib.hid hx
      have HRR := Lib.hid hrr
      have HMK := Lib.hid hmk
      have HCP := Lib.hid hcp
      have HBR := Lib.hid hbr
      have HBZ := Lib.hid hbz
      have HSR := Lib.hid hs
      have HNS := Lib.hid hNs
      have j1 : (0 : Int) ≤ (k : Int) := by omega
      have j2 : (k : Int) < (n : Int) := by omega
      clear R hx hrr hmk hcp hbr hbz hs hNs
      obtain ⟨k', t1, t2, s1, s2, lv, S, sn, sp, a, cnt, P, pn, pp, L, ln, lp, c, f⟩ := x
      simp only at c0 c1 c2 c3 c4 c5 c6 c7 c8 c9 c10 CM
      go_wp2_with fail
      refine CM.out.mono ?_
      rintro _ wa ⟨⟨k2, t3, t4, s3, s4, lv2, S', sn2, p', a2, cnt2, A', pn2, q', B', ln2, r', cN, fN⟩, rfl, hol, sa⟩
      simp only
      have SA := Lib.hid (((Span.refl 0 0 wr).alloc (.cells #[.int .i64 k', .complex .f32 t1 t2, .complex .f32 s1 s2, .float .f32 lv, .slice S sn sp, .int .i64 a, .int .i64 cnt, .slice P pn pp, .slice L ln lp, .int .i64 c, .int .i64 f] 32)).trans sa)
      have MA := HMK.out.span SA.out (.inl (Nat.le_refl _))
      have hex : ∀ o', o' < 11 → ∃ u, wa.cell? ⟨b, k * 11 + o', none⟩ = some u := fun o' ho => MA.2.1 _ (by omega)
      obtain ⟨v0, d0⟩ := hex 0 (by omega)
      obtain ⟨v1, d1⟩ := hex 1 (by omega)
      obtain ⟨v2, d2⟩ := hex 2 (by omega)
      obtain ⟨v3, d3⟩ := hex 3 (by omega)
      obtain ⟨v4, d4⟩ := hex 4 (by omega)
      obtain ⟨v5, d5⟩ := hex 5 (by omega)
      obtain ⟨v6, d6⟩ := hex 6 (by omega)
      obtain ⟨v7, d7⟩ := hex 7 (by omega)
      obtain ⟨v8, d8⟩ := hex 8 (by omega)
      obtain ⟨v9, d9⟩ := hex 9 (by omega)
      obtain ⟨v10, d10⟩ := hex 10 (by omega)
      rw [Nat.add_zero] at d0
      have fz := MA.2.2.1
      have zb : Hid (b < wr.heap.size) := HMK.out.1
      have HOL := Lib.hid hol
      have HMA := Lib.hid MA
      clear hex MA hol sa c0 c1 c2 c3 c4 c5 c6 c7 c8 c9 c10
      go_wp2_with fail
      go_roundw
      case rel =>
        have z1 := zb.out
        have z3 := HB.out
        have z4 : (wr.alloc (.cells #[.int .i64 k', .complex .f32 t1 t2, .complex .f32 s1 s2, .float .f32 lv, .slice S sn sp, .int .i64 a, .int .i64 cnt, .slice P pn pp, .slice L ln lp, .int .i64 c, .int .i64 f] 32)).heap.size = wr.heap.size + 1 := by simp
        have SQ := Span.cellsSet (lo := b) (hi := b + 1) (b := b) (a := wa) ⟨Nat.le_refl _, Nat.lt_succ_self _⟩ (Mw.l ⟨k2, t3, t4, s3, s4, lv2, S', sn2, p', a2, cnt2, A', pn2, q', B', ln2, r', cN, fN⟩) (k * 11) wa (Span.refl _ _ _)
        have SW : Span 0 0 w (wa.setCells b (k * 11) (Mw.l ⟨k2, t3, t4, s3, s4, lv2, S', sn2, p', a2, cnt2, A', pn2, q', B', ln2, r', cN, fN⟩)) := ⟨SQ.os.trans (HSR.out.trans SA.out).os, SQ.tape.trans (HSR.out.trans SA.out).tape, SQ.output.trans (HSR.out.trans SA.out).output, Nat.le_trans (HSR.out.trans SA.out).size SQ.size, fun j hj _ => (SQ.block j (Nat.lt_of_lt_of_le hj (HSR.out.trans SA.out).size) (by omega)).trans ((HSR.out.trans SA.out).block j hj (by omega))⟩
        have MP := HMA.out.put ⟨k2, t3, t4, s3, s4, lv2, S', sn2, p', a2, cnt2, A', pn2, q', B', ln2, r', cN, fN⟩ (by rw [HNS.out]; exact hlt)
        rw [HNS.out] at MP
        have CP := ((HCP.out.span SA.out (.inl (Nat.le_refl _))).snoc ⟨k2, t3, t4, s3, s4, lv2, S', sn2, p', a2, cnt2, A', pn2, q', B', ln2, r', cN, fN⟩ _ _ (by rw [HNS.out]; exact HX.out) (by rw [HNS.out]; exact HRR.out) (HOL.out.weak (by rw [z4]; omega))).span SQ (.inr (Nat.le_refl _))
        have BRx := (HBR.out.keep SA.out).span SQ (by omega)
        have BZx := (HBZ.out.keep SA.out).span SQ (by omega)
        rw [setCells_mw] at MP CP BRx BZx SW
        exact ⟨k + 1, Ns ++ [⟨k2, t3, t4, s3, s4, lv2, S', sn2, p', a2, cnt2, A', pn2, q', B', ln2, r', cN, fN⟩], by omega, by go_num, by rw [List.length_append, HNS.out]; rfl, MP, CP, BRx, BZx, SW⟩
      case measure => simp [intOf]; omega
    · have hkn : k = n := by omega
      subst hkn
      have CC := Lib.hid (cloneCab_own Cs _ _ _ _ wr (HR.out.keep hs).cabs (by rw [← HM.out]; have := H40.out; omega))
      have cr := hbr.cells
      have HMK := Lib.hid hmk
      have HCP := Lib.hid hcp
      have HBZ := Lib.hid hbz
      have HSR := Lib.hid hs
      have HNS := Lib.hid hNs
      clear hmk hcp hbr hbz hs hNs
      go_wp2_with fail
      refine CC.out.mono ?_
      rintro _ wb ⟨vC, bC', rfl, hO, hC, sb⟩
      obtain ⟨A1, q1, rfl, -⟩ := id hC
      rw [← HM.out] at hC hO ⊢
      have HO := Lib.hid hO
      have BB := HBZ.out.keep sb
      have cz := BB.cells
      have fz := BB.thaw
      have BS := Lib.hid (BB.set2 (.slice (some ⟨b, 0, none⟩) k k) (.slice A1 m q1))
      have HC := Lib.hid hC
      have SB := Lib.hid sb
      clear hC hO sb BB cr
      go_wp2_with fail
      have d1 := BS.out.cells
      have SQ := ((Span.refl (w.heap.size + 1) (w.heap.size + 2) wb).setCell (p := ⟨w.heap.size + 1, 0, none⟩) (.inl ⟨Nat.le_refl _, Nat.lt_succ_self _⟩) (.slice (some ⟨b, 0, none⟩) k k)).setCell (p := ⟨w.heap.size + 1, 1, none⟩) (.inl ⟨Nat.le_refl _, Nat.lt_succ_self _⟩) (.slice A1 m q1)
      have SW := ((HSR.out.trans SB.out).setCell (p := ⟨w.heap.size + 1, 0, none⟩) (.inr (Nat.le_succ _)) (.slice (some ⟨b, 0, none⟩) k k)).setCell (p := ⟨w.heap.size + 1, 1, none⟩) (.inr (Nat.le_succ _)) (.slice A1 m q1)
      have z3 := HB.out
      have z4 := HMK.out.1
      have z5 := SQ.size
      refine bodyPost_ret (v := .agg #[.slice (some ⟨b, 0, none⟩) k k, .slice A1 m q1]) (by simp [results, Tryz.results57, go_sem, d1]) rfl ⟨b, A1, q1, bC', Ns, wr.heap.size, rfl, by omega, (HMK.out.span SB.out (.inl (Nat.le_refl _))).span SQ (by omega), HNS.out, (HCP.out.span SB.out (.inl (Nat.le_refl _))).span SQ (by omega), ?_, ?_, z4, Nat.le_trans SB.out.size z5, fun i x g hx hn hg => (HCP.out i x hx).elim fun m h => h.elim fun r h => h.2.2.lt g hn hg, SW⟩
      · exact (HC.out.span SQ (by omega)).weak (by omega) (.inl z5)
      · exact ownsRow_span HO.out SQ (fun g hg => by have := (HO.out.lt g hg).1; omega)
end
section
open Go.RowKit

set_option maxRecDepth 100000 in
set_option maxHeartbeats 4000000 in
theorem isRack_any {w : World} {bM bC lo hi : Nat} {AM : Option Addr} {n cM : Nat} {AC : Option Addr} {m cC : Nat} {Ms : List Mw} {Cs : List (Nat × Nat)} (hr : RkAt w bM bC lo hi AM n cM AC m cC Ms Cs) :
    Calls Tryz.prog 40 #[.agg #[.slice AM n cM, .slice AC m cC]] w fun e w' => e = .returned (.bool (orderC (Ms.map Mw.k) Cs n).isSome) ∧ Span 0 0 w w' := by
  have SA := Lib.hid ((Span.refl 0 0 w).alloc (.cells #[.slice AM n cM, .slice AC m cC] 37))
  have OO := orderOf_any (hr.keep SA.out)
  cases ho : orderC (Ms.map Mw.k) Cs n with
  | none =>
    rw [ho] at OO
    have OO := Lib.hid OO
    clear hr ho
    go_enter Tryz.func40, Tryz.ntmps40
    go_wp2_with fail
    refine OO.out.mono ?_
    rintro _ w1 ⟨rfl, s1⟩
    have S1 := Lib.hid (SA.out.trans s1)
    clear s1
    go_wp2_with fail
    go_ret
    exact ⟨rfl, S1.out⟩
  | some os =>
    rw [ho] at OO
    have OO := Lib.hid OO
    clear hr ho
    go_enter Tryz.func40, Tryz.ntmps40
    go_wp2_with fail
    refine OO.out.mono ?_
    rintro _ w1 ⟨⟨v, b, rfl, -⟩, s1⟩
    have S1 := Lib.hid (SA.out.trans s1)
    clear s1
    go_wp2_with fail
    go_ret
    exact ⟨rfl, S1.out⟩
end
section
open Go.RowKit

theorem flatG_snoc0 {α : Type} (fl : α → List Value) (L : List α) (x : α) : flatG fl (L ++ [x]) = flatG fl L ++ fl x := by simp [flatG]
def TwoSl (v : Value) : Prop := ∃ A1 n1 c1 A2 n2 c2, v = .agg #[.slice A1 n1 c1, .slice A2 n2 c2]
end
end Go.Proofs.YtkjlodoppmipfaaGreat
