/- Cables are copied: the copy is owned. A rack is copied: its cables are owned. -/
import Derived.Test.YtkjlodoppmipfaaGreatJg18
import Derived.Outline
import Derived.Laws.IdiomCopy
namespace Go.Proofs.YtkjlodoppmipfaaGreat
section
open Go.RowKit

/-- A list of cables of its own. -/
def GivesCabO (xs : List (Nat × Nat)) (w : World) (e : Ending) (w' : World) : Prop :=
  ∃ v b, e = .returned v ∧ w'.ownsRow w.heap.size 42 2 v xs.length (flatG cabC xs) ∧ HasC 2 cabC b w.heap.size w'.heap.size w' v xs ∧ Span 0 0 w w'

set_option maxRecDepth 100000 in
set_option maxHeartbeats 1000000 in
theorem cloneCab_own (xs : List (Nat × Nat)) (b lo hi : Nat) (v : Value) (w : World) (hx : HasC 2 cabC b lo hi w v xs) (hlen : xs.length ≤ 4194304) :
    Calls Tryz.prog 81 #[v] w (GivesCabO xs w) := by
  have HX := Lib.hid hx
  obtain ⟨ip, hip, hzp, hsp, hbp⟩ := info_parts info_cab
  obtain ⟨A, cap, rfl, hcap, hc⟩ := hx
  obtain ⟨len, hl⟩ : ∃ len, len = xs.length := ⟨_, rfl⟩
  have HL := Lib.hid hl
  rw [← hl] at hcap hlen HX ⊢
  cases A with
  | none =>
    have h0 : len = 0 := by
      by_cases h : 0 < len
      · obtain ⟨off, e, _⟩ := hc (by omega)
        cases e
      · omega
    subst h0
    have HE : Hid (xs = []) := by cases xs with | nil => exact rfl | cons a l => simp at hl
    clear hc hl
    have hq := Lib.run_eql_slice_nil (P := Tryz.prog) w 35 42 none 0 cap 0 0 Tryz.underlying35
    go_enter Tryz.func81, Tryz.ntmps81
    go_wp2
    go_ret
    refine ⟨_, 0, rfl, ?_, ?_, Span.refl _ _ _⟩
    · rw [HE.out]; exact World.ownsRow_nil ..
    · rw [HE.out]; exact HasC.empty _ _ _ _ _ _ _ _
  | some ad =>
    have HO := Lib.hid (World.ownsRow_made (base := w.heap.size) (e := 42) (size := 2) w #[] 0 (Nat.le_refl _) (Nat.zero_le _) rfl)
    have HN : Hid (∀ (o : Obj) (j : Nat) u, (flatG cabC xs)[j]? = some u → (w.alloc o).cell? (ad.add j) = some u) := by
      unfold Hid
      intro o j u hj
      have hp : 0 < xs.length := by
        have := (List.getElem?_eq_some_iff.1 hj).1
        rw [flatG_length cab_len] at this; omega
      obtain ⟨off, e, _⟩ := hc hp
      cases e
      exact HX.out.news (by decide) cab_len o j u hj
    clear hc hl
    have hq := Lib.run_eql_slice_nil (P := Tryz.prog) w 35 42 (some ad) len cap 0 0 Tryz.underlying35
    go_enter Tryz.func81, Tryz.ntmps81
    go_wp2_with (at_builtin; go_loud ((refine wpList_append_own _ rfl _ _ 35 rfl w.heap.size 42 ip (.agg #[.int .i64 0, .int .i64 0]) 2 16 Tryz.underlying35 hip hzp hsp hbp rfl (by decide) _ _ _ rfl HO.out ad len cap (flatG cabC xs) rfl ?c1 ?c2 ?c3 ?c4 ?c5 ?c6 ?_); (case c1 => rw [flatG_length cab_len, ← HL.out]); (case c2 => exact HN.out _); (case c3 => exact fun u hu => flatG_cab hu); (case c4 => unfold maxLen; omega); (case c5 => omega); (case c6 => simp); intro v1 w1 ho hgr _; rw [Nat.zero_add, List.nil_append] at ho; obtain ⟨A1, q1, rfl⟩ := ownsRow_slice ho; have HO1 := Lib.hid ho; have HG1 := Lib.hid hgr; clear ho hgr))
    go_ret
    have ho := HO1.out
    obtain ⟨b', h1, _, _⟩ := ownsRow_hasC (by decide) cab_len ho
    exact ⟨_, b', rfl, by rw [← HL.out]; exact ho, h1, ((Span.refl _ _ _).alloc _).grown HG1.out (fun k hk => by have hk' : some w.heap.size = some k := hk; injection hk' with hk'; right; omega)⟩
end
section
open Go.RowKit

theorem ownsRow_base {w : World} {B B' : Nat} {e : TypeId} {s : Nat} {v : Value} {n : Nat} {xs : List Value} (h : w.ownsRow B e s v n xs) (hB : B' ≤ B) : w.ownsRow B' e s v n xs := by
  obtain ⟨h1, h2 | ⟨g, cap, cur, h3, h4, h5⟩⟩ := h
  · exact ⟨h1, .inl h2⟩
  · exact ⟨h1, .inr ⟨g, cap, cur, h3, Nat.le_trans hB h4, h5⟩⟩
/-- A copy of a rack. -/
def CopyRkO (n m : Nat) (Ms : List Mw) (Rs : List (List Cx × Tab)) (Cs : List (Nat × Nat)) (w : World) (e : Ending) (w' : World) : Prop :=
  ∃ b A q bC Ns, e = .returned (.agg #[.slice (some ⟨b, 0, none⟩) n n, .slice A m q]) ∧ w.heap.size ≤ b ∧ MadeK b n w' Ns ∧ Ns.length = n ∧ Copied b w' Ms Rs Ns ∧ HasC 2 cabC bC (b + 1) w'.heap.size w' (.slice A m q) Cs ∧ w'.ownsRow (b + 1) 42 2 (.slice A m q) m (flatG cabC Cs) ∧ Span 0 0 w w'

set_option maxRecDepth 100000 in
set_option maxHeartbeats 8000000 in
theorem copyRack_own {w : World} {bM bC lo hi : Nat} {AM : Option Addr} {n cM : Nat} {AC : Option Addr} {m cC : Nat} {Ms : List Mw} {Cs : List (Nat × Nat)} (hr : RkAt w bM bC lo hi AM n cM AC m cC Ms Cs) (Rs : List (List Cx × Tab)) (hR : Reads w Ms Rs) :
    Calls Tryz.prog 57 #[.agg #[.slice AM n cM, .slice AC m cC]] w (CopyRkO n m Ms Rs Cs w) := by
  have HR := Lib.hid hr
  have HN := Lib.hid hr.mods.len.1
  have HM := Lib.hid hr.cabs.len.1
  have HRS := Lib.hid hR
  have h16 : n ≤ 16 := hr.most.1
  have i3 : (n : Int) ≤ 16 := by omega
  have H40 := Lib.hid hr.most.2
  clear hr hR
  go_enter Tryz.func57, Tryz.ntmps57
  obtain ⟨w1, hw1⟩ : ∃ t, t = (w.alloc (.cells #[.slice AM n cM, .slice AC m cC] 37)).alloc (.cells #[.slice none 0 0, .slice none 0 0] 37) := ⟨_, rfl⟩
  have e1 : w1.heap.size = w.heap.size + 2 := by rw [hw1]; simp
  have BR := Lib.hid ((Bx.new w #[.slice AM n cM, .slice AC m cC] 37).alloc (.cells #[.slice none 0 0, .slice none 0 0] 37))
  have BZ := Lib.hid (Bx.new (w.alloc (.cells #[.slice AM n cM, .slice AC m cC] 37)) #[.slice none 0 0, .slice none 0 0] 37)
  rw [show (w.alloc (.cells #[.slice AM n cM, .slice AC m cC] 37)).heap.size = w.heap.size + 1 by simp] at BZ
  have S1 := Lib.hid (((Span.refl 0 0 w).alloc (.cells #[.slice AM n cM, .slice AC m cC] 37)).alloc (.cells #[.slice none 0 0, .slice none 0 0] 37))
  have hmk := run_make_mods w1 n (by omega)
  rw [hw1] at hmk
  go_wp2_with fail
  clear hmk
  rw [← hw1] at BR BZ S1 ⊢
  have MK := Lib.hid (MadeK.new w1 n)
  have BR2 := Lib.hid (BR.out.alloc (.cells (madeCells zM (n * 11)) 32))
  have BZ2 := Lib.hid (BZ.out.alloc (.cells (madeCells zM (n * 11)) 32))
  have S2 := Lib.hid (S1.out.alloc (.cells (madeCells zM (n * 11)) 32))
  generalize w1.alloc (.cells (madeCells zM (n * 11)) 32) = w2 at *
  obtain ⟨b, hb⟩ : ∃ t, t = w.heap.size + 2 := ⟨_, rfl⟩
  rw [e1] at MK
  try rw [show w.heap.size + 1 + 1 = w.heap.size + 2 from rfl]
  rw [← hb] at MK ⊢
  have HB := Lib.hid hb
  clear hb hw1 BR BZ S1 e1
  go_loopw [13] (fun q wr => ∃ (k : Nat) (Ns : List Mw), k ≤ n ∧ q = .int .i64 k ∧ Ns.length = k ∧ MadeK b n wr Ns ∧ Copied b wr Ms Rs Ns ∧ Bx w.heap.size #[.slice AM n cM, .slice AC m cC] wr ∧ Bx (w.heap.size + 1) #[.slice none 0 0, .slice none 0 0] wr ∧ Span 0 0 w wr) (fun q _ => n - (intOf q).toNat)
  case atStart => exact ⟨0, [], Nat.zero_le _, rfl, rfl, MK.out, fun i x h => by simp at h, BR2.out, BZ2.out, S2.out⟩
  case round =>
    clear MK BR2 BZ2 S2
    obtain ⟨k, Ns, hk, rfl, hNs, hmk, hcp, hbr, hbz, hs⟩ := hrel
    by_cases hlt : k < n
    · obtain ⟨x, hx⟩ := getElem?_some (xs := Ms) (j := k) (by rw [← HN.out]; exact hlt)
      obtain ⟨⟨xs, t⟩, hrr⟩ := getElem?_some (xs := Rs) (j := k) (by rw [HRS.out.1, ← HN.out]; exact hlt)
      obtain ⟨g1, g2, g3, o, bs, lo', mid, hi', hh⟩ := HRS.out.2 k x _ hx hrr
      have CM := Lib.hid (copyModule_any x xs t g1 g2 g3 o bs lo' mid hi' (wr.alloc (.cells #[.int .i64 x.k, .complex .f32 x.t1 x.t2, .complex .f32 x.s1 x.s2, .float .f32 x.lv, .slice x.S x.sn x.sp, .int .i64 x.a, .int .i64 x.cnt, .slice x.P x.pn x.pp, .slice x.L x.ln x.lp, .int .i64 x.c, .int .i64 x.f] 32)) (hh.span (hs.alloc _) (.inl (Nat.le_refl _))))
      have R := HR.out.keep hs
      obtain ⟨off, hoff⟩ := R.mods.addr (by rw [← HN.out]; omega)
      subst hoff
      obtain ⟨c0, c1, c2, c3, c4, c5, c6, c7, c8, c9, c10⟩ := R.mods.mw hx
      have HX := Lib.hid hx
      have HRR := Lib.hid hrr
      have HMK := Lib.hid hmk
      have HCP := Lib.hid hcp
      have HBR := Lib.hid hbr
      have HBZ := Lib.hid hbz
      have HSR := Lib.hid hs
      have HNS := Lib.hid hNs
      have j1 : (0 : Int) ≤ (k : Int) := by omega
      have j2 : (k : Int) < (n : Int) := by omega
      clear R hx hrr g1 g2 g3 hh hmk hcp hbr hbz hs hNs
      obtain ⟨k', t1, t2, s1, s2, lv, S, sn, sp, a, cnt, P, pn, pp, L, ln, lp, c, f⟩ := x
      simp only at c0 c1 c2 c3 c4 c5 c6 c7 c8 c9 c10 CM
      go_wp2_with fail
      refine CM.out.mono ?_
      rintro _ wa ⟨S', p', A', q', B', r', bs', mid', rfl, y1, y2, hol, sa⟩
      have SA := Lib.hid (((Span.refl 0 0 wr).alloc (.cells #[.int .i64 k', .complex .f32 t1 t2, .complex .f32 s1 s2, .float .f32 lv, .slice S sn sp, .int .i64 a, .int .i64 cnt, .slice P pn pp, .slice L ln lp, .int .i64 c, .int .i64 f] 32)).trans sa)
      have MA := HMK.out.span SA.out (.inl (Nat.le_refl _))
      have hex : ∀ o', o' < 11 → ∃ u, wa.cell? ⟨b, k * 11 + o', none⟩ = some u := fun o' ho => MA.2.1 _ (by omega)
      obtain ⟨v0, d0⟩ := hex 0 (by omega)
      obtain ⟨v1, d1⟩ := hex 1 (by omega)
      obtain ⟨v2, d2⟩ := hex 2 (by omega)
      obtain ⟨v3, d3⟩ := hex 3 (by omega)
      obtain ⟨v4, d4⟩ := hex 4 (by omega)
      obtain ⟨v5, d5⟩ := hex 5 (by omega)
      obtain ⟨v6, d6⟩ := hex 6 (by omega)
      obtain ⟨v7, d7⟩ := hex 7 (by omega)
      obtain ⟨v8, d8⟩ := hex 8 (by omega)
      obtain ⟨v9, d9⟩ := hex 9 (by omega)
      obtain ⟨v10, d10⟩ := hex 10 (by omega)
      rw [Nat.add_zero] at d0
      have fz := MA.2.2.1
      have zb : Hid (b < wr.heap.size) := HMK.out.1
      have HOL := Lib.hid hol
      have HY := Lib.hid (And.intro y1 y2)
      have HMA := Lib.hid MA
      clear hex MA hol sa y1 y2 c0 c1 c2 c3 c4 c5 c6 c7 c8 c9 c10
      go_wp2_with fail
      go_roundw
      case rel =>
        have z1 := zb.out
        have z2 := HY.out
        have z3 := HB.out
        have z4 : (wr.alloc (.cells #[.int .i64 k', .complex .f32 t1 t2, .complex .f32 s1 s2, .float .f32 lv, .slice S sn sp, .int .i64 a, .int .i64 cnt, .slice P pn pp, .slice L ln lp, .int .i64 c, .int .i64 f] 32)).heap.size = wr.heap.size + 1 := by simp
        have SQ := Span.cellsSet (lo := b) (hi := b + 1) (b := b) (a := wa) ⟨Nat.le_refl _, Nat.lt_succ_self _⟩ (Mw.l ⟨k', t1, t2, s1, s2, lv, S', sn, p', a, cnt, A', pn, q', B', ln, r', c, f⟩) (k * 11) wa (Span.refl _ _ _)
        have SW : Span 0 0 w (wa.setCells b (k * 11) (Mw.l ⟨k', t1, t2, s1, s2, lv, S', sn, p', a, cnt, A', pn, q', B', ln, r', c, f⟩)) := ⟨SQ.os.trans (HSR.out.trans SA.out).os, SQ.tape.trans (HSR.out.trans SA.out).tape, SQ.output.trans (HSR.out.trans SA.out).output, Nat.le_trans (HSR.out.trans SA.out).size SQ.size, fun j hj _ => (SQ.block j (Nat.lt_of_lt_of_le hj (HSR.out.trans SA.out).size) (by omega)).trans ((HSR.out.trans SA.out).block j hj (by omega))⟩
        have MP := HMA.out.put ⟨k', t1, t2, s1, s2, lv, S', sn, p', a, cnt, A', pn, q', B', ln, r', c, f⟩ (by rw [HNS.out]; exact hlt)
        rw [HNS.out] at MP
        have CP := ((HCP.out.span SA.out (.inl (Nat.le_refl _))).span SQ (.inr (Nat.le_refl _))).snoc ⟨k', t1, t2, s1, s2, lv, S', sn, p', a, cnt, A', pn, q', B', ln, r', c, f⟩ _ _ (by rw [HNS.out]; exact HX.out) (by rw [HNS.out]; exact HRR.out) rfl (by rw [z4]; omega) z2.1 (HOL.out.span SQ (.inr ⟨by rw [z4]; omega, by rw [z4] at z2; omega⟩))
        have BRx := (HBR.out.keep SA.out).span SQ (by omega)
        have BZx := (HBZ.out.keep SA.out).span SQ (by omega)
        rw [setCells_mw] at MP CP BRx BZx SW
        exact ⟨k + 1, Ns ++ [⟨k', t1, t2, s1, s2, lv, S', sn, p', a, cnt, A', pn, q', B', ln, r', c, f⟩], by omega, by go_num, by rw [List.length_append, HNS.out]; rfl, MP, CP, BRx, BZx, SW⟩
      case measure => simp [intOf]; omega
    · have hkn : k = n := by omega
      subst hkn
      have CC := Lib.hid (cloneCab_own Cs _ _ _ _ wr (HR.out.keep hs).cabs (by rw [← HM.out]; have := H40.out; omega))
      have cr := hbr.cells
      have HMK := Lib.hid hmk
      have HCP := Lib.hid hcp
      have HBZ := Lib.hid hbz
      have HSR := Lib.hid hs
      have HNS := Lib.hid hNs
      clear hmk hcp hbr hbz hs hNs
      go_wp2_with fail
      refine CC.out.mono ?_
      rintro _ wb ⟨vC, bC', rfl, hO, hC, sb⟩
      obtain ⟨A1, q1, rfl, -⟩ := id hC
      rw [← HM.out] at hC hO ⊢
      have HO := Lib.hid hO
      have BB := HBZ.out.keep sb
      have cz := BB.cells
      have fz := BB.thaw
      have BS := Lib.hid (BB.set2 (.slice (some ⟨b, 0, none⟩) k k) (.slice A1 m q1))
      have HC := Lib.hid hC
      have SB := Lib.hid sb
      clear hC hO sb BB cr
      go_wp2_with fail
      have d1 := BS.out.cells
      have SQ := ((Span.refl (w.heap.size + 1) (w.heap.size + 2) wb).setCell (p := ⟨w.heap.size + 1, 0, none⟩) (.inl ⟨Nat.le_refl _, Nat.lt_succ_self _⟩) (.slice (some ⟨b, 0, none⟩) k k)).setCell (p := ⟨w.heap.size + 1, 1, none⟩) (.inl ⟨Nat.le_refl _, Nat.lt_succ_self _⟩) (.slice A1 m q1)
      have SW := ((HSR.out.trans SB.out).setCell (p := ⟨w.heap.size + 1, 0, none⟩) (.inr (Nat.le_succ _)) (.slice (some ⟨b, 0, none⟩) k k)).setCell (p := ⟨w.heap.size + 1, 1, none⟩) (.inr (Nat.le_succ _)) (.slice A1 m q1)
      have z3 := HB.out
      have z4 := HMK.out.1
      have z5 := SQ.size
      refine bodyPost_ret (v := .agg #[.slice (some ⟨b, 0, none⟩) k k, .slice A1 m q1]) (by simp [results, Tryz.results57, go_sem, d1]) rfl ⟨b, A1, q1, bC', Ns, rfl, by omega, (HMK.out.span SB.out (.inl (Nat.le_refl _))).span SQ (by omega), HNS.out, (HCP.out.span SB.out (.inl (Nat.le_refl _))).span SQ (by omega), ?_, ?_, SW⟩
      · exact (HC.out.span SQ (by omega)).weak (by omega) (.inl z5)
      · exact ownsRow_base (ownsRow_span HO.out SQ (fun g hg => by have := (HO.out.lt g hg).1; omega)) (by omega)
end
end Go.Proofs.YtkjlodoppmipfaaGreat
