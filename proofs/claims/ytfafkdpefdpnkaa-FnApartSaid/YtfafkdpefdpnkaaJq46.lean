/- The model's pools: GiveBack, CutLease, AppendTo. -/
import Derived.Test.YtfafkdpefdpnkaaJq45
namespace Go.Proofs.Ytfafkdpefdpnkaa
open Go.RowKit

/-- A pool is given, or none. -/
def GivesQ (o : Option Pl) (w : World) (e : Ending) (w' : World) : Prop :=
  (match o with
    | some q => ∃ v, e = .returned (.tuple #[v, .bool true]) ∧ HasP w.heap.size w'.heap.size w' v q
    | none => e = .returned (.tuple #[.agg #[.slice none 0 0, .slice none 0 0], .bool false])) ∧ Span 0 0 w w'
/-- A pool and an index are given, or none. -/
def GivesQ3 (o : Option (Pl × Nat)) (w : World) (e : Ending) (w' : World) : Prop :=
  (match o with
    | some (q, id) => ∃ v, e = .returned (.tuple #[v, .int .i64 (id : Int), .bool true]) ∧ HasP w.heap.size w'.heap.size w' v q
    | none => e = .returned (.tuple #[.agg #[.slice none 0 0, .slice none 0 0], .int .i64 0, .bool false])) ∧ Span 0 0 w w'

theorem ownsRow_spanV {w w' : World} {B : Nat} {e : TypeId} {s : Nat} {v : Value} {n : Nat} {xs : List Value} {lo hi : Nat} (h : w.ownsRow B e s v n xs) (sp : Span lo hi w w') (ha : ∀ k, v.ownBlock = some k → ¬ (lo ≤ k ∧ k < hi)) : w'.ownsRow B e s v n xs := by
  refine ⟨h.1, ?_⟩
  rcases h.2 with h2 | ⟨g, cap, cur, rfl, h1, hg, rest⟩
  · exact .inl h2
  · exact .inr ⟨g, cap, cur, rfl, h1, by rw [sp.block g (Array.getElem?_eq_some_iff.1 hg).1 (ha g rfl)]; exact hg, rest⟩

/-- A pool of the call's own: its slices in the box T; R is the result's box. -/
structure Own (R T B : Nat) (w : World) (S : List Cx) (L : List Ls) (A : Option Addr) (q : Nat) (A' : Option Addr) (q' : Nat) (wr : World) : Prop where
  r : Box R (.slice none 0 0) (.slice none 0 0) wr
  t : Box T (.slice A S.length q) (.slice A' L.length q') wr
  hs : wr.ownsRow B 35 1 (.slice A S.length q) S.length (S.map cxV)
  hl : wr.ownsRow B 68 4 (.slice A' L.length q') L.length (flat L)
  s : Span 0 0 w wr
  ls : ∀ k, (Value.slice A S.length q).ownBlock = some k → k ≠ T
  ll : ∀ k, (Value.slice A' L.length q').ownBlock = some k → k ≠ T

theorem Own.span {R T B : Nat} {w : World} {S : List Cx} {L : List Ls} {A : Option Addr} {q : Nat} {A' : Option Addr} {q' : Nat} {wr w' : World} (h : Own R T B w S L A q A' q' wr) (s : Span 0 0 wr w') : Own R T B w S L A q A' q' w' :=
  ⟨h.r.span s (.inl (Nat.le_refl _)), h.t.span s (.inl (Nat.le_refl _)), ownsRow_spanV h.hs s (fun _ _ => by omega), ownsRow_spanV h.hl s (fun _ _ => by omega), s.after h.s, h.ls, h.ll⟩

theorem Own.new {R B : Nat} {w w3 : World} {p : Pl} {A : Option Addr} {q : Nat} {A' : Option Addr} {q' : Nat} (hr : Box R (.slice none 0 0) (.slice none 0 0) w3)
    (hs : w3.ownsRow B 35 1 (.slice A p.1.length q) p.1.length (p.1.map cxV)) (hl : w3.ownsRow B 68 4 (.slice A' p.2.length q') p.2.length (flat p.2)) (s : Span 0 0 w w3) :
    Own R w3.heap.size B w p.1 p.2 A q A' q' (w3.alloc (.cells #[.slice A p.1.length q, .slice A' p.2.length q'] 45)) :=
  ⟨hr.alloc _, Box.new _ _ _ _, hs.alloc _, hl.alloc _, s.alloc _, fun k hk => Nat.ne_of_lt (hs.lt k hk).2, fun k hk => Nat.ne_of_lt (hl.lt k hk).2⟩

/-- The two rows lie apart. -/
theorem Own.apart {R T B : Nat} {w : World} {S : List Cx} {L : List Ls} {A : Option Addr} {q : Nat} {A' : Option Addr} {q' : Nat} {wr : World} (h : Own R T B w S L A q A' q' wr) :
    (Value.slice A S.length q).ownBlock = none ∨ (Value.slice A S.length q).ownBlock ≠ (Value.slice A' L.length q').ownBlock := owns_apart h.hs h.hl (by decide)

theorem Own.setL {R T B : Nat} {w : World} {S : List Cx} {L : List Ls} {A : Option Addr} {q g q' : Nat} {wr wS : World} (h : Own R T B w S L A q (some ⟨g, 0, none⟩) q' wr) (hR : R < B) (hw : w.heap.size ≤ B) {k : Nat} (x : Ls) (hk : k < L.length)
    (hwS : wS = ((((wr.setCell ⟨g, k * 4, none⟩ (.int .i64 (x.start : Int))).setCell ⟨g, k * 4 + 1, none⟩ (.int .i64 (x.count : Int))).setCell ⟨g, k * 4 + 2, none⟩ (.int .i64 (x.room : Int))).setCell ⟨g, k * 4 + 3, none⟩ (.bool x.free))) :
    Own R T B w S (L.set k x) A q (some ⟨g, 0, none⟩) q' wS := by
  have sp : Span g (g + 1) wr wS := by rw [hwS]; exact set4_span wr g (k * 4) x
  have hgB : B ≤ g := (h.hl.lt g rfl).1
  have hgT : g ≠ T := h.ll g rfl
  have hl := own_stored4 h.hl x hk
  rw [← hwS] at hl
  refine ⟨h.r.span sp (by omega), ?_, ownsRow_spanV h.hs sp (fun j hj => ?_), hl, ?_, h.ls, ?_⟩
  · rw [List.length_set]; exact h.t.span sp (by omega)
  · rcases h.apart with e | e
    · rw [e] at hj; cases hj
    · intro hc
      have : j = g := by omega
      subst this
      exact e hj
  · exact ⟨sp.os.trans h.s.os, sp.tape.trans h.s.tape, sp.output.trans h.s.output, Nat.le_trans h.s.size sp.size, fun i hi hn => (sp.block i (Nat.lt_of_lt_of_le hi h.s.size) (by omega)).trans (h.s.block i hi hn)⟩
  · rw [List.length_set]; exact h.ll

theorem Own.setS {R T B : Nat} {w : World} {S : List Cx} {L : List Ls} {g q : Nat} {A' : Option Addr} {q' : Nat} {wr : World} (h : Own R T B w S L (some ⟨g, 0, none⟩) q A' q' wr) (hR : R < B) (hw : w.heap.size ≤ B) (k : Nat) (z : Cx) :
    Own R T B w (S.set k z) L (some ⟨g, 0, none⟩) q A' q' (wr.setCell ⟨g, k, none⟩ (cxV z)) := by
  have sp : Span g (g + 1) wr (wr.setCell ⟨g, k, none⟩ (cxV z)) := (Span.refl g (g + 1) wr).setCell (.inl ⟨Nat.le_refl _, Nat.lt_succ_self _⟩) _
  have hgB : B ≤ g := (h.hs.lt g rfl).1
  have hgT : g ≠ T := h.ls g rfl
  have hs := (h.hs.stored k (cxV z)).1
  refine ⟨h.r.span sp (by omega), ?_, ?_, ownsRow_spanV h.hl sp (fun j hj => ?_), ?_, ?_, h.ll⟩
  · rw [List.length_set]; exact h.t.span sp (by omega)
  · rw [List.length_set, List.map_set]; exact hs
  · rcases h.apart with e | e
    · cases e
    · intro hc
      have : j = g := by omega
      subst this
      exact e hj.symm
  · exact ⟨sp.os.trans h.s.os, sp.tape.trans h.s.tape, sp.output.trans h.s.output, Nat.le_trans h.s.size sp.size, fun i hi hn => (sp.block i (Nat.lt_of_lt_of_le hi h.s.size) (by omega)).trans (h.s.block i hi hn)⟩
  · rw [List.length_set]; exact h.ls

/-- The pool is the result. -/
theorem Own.result {R T B : Nat} {w : World} {S : List Cx} {L : List Ls} {A : Option Addr} {q : Nat} {A' : Option Addr} {q' : Nat} {wr : World} (h : Own R T B w S L A q A' q' wr) (hR : R < B) (hw : w.heap.size ≤ R) :
    HasP w.heap.size ((wr.setCell ⟨R, 0, none⟩ (.slice A S.length q)).setCell ⟨R, 1, none⟩ (.slice A' L.length q')).heap.size ((wr.setCell ⟨R, 0, none⟩ (.slice A S.length q)).setCell ⟨R, 1, none⟩ (.slice A' L.length q')) (.agg #[.slice A S.length q, .slice A' L.length q']) (S, L) ∧
      Span 0 0 w ((wr.setCell ⟨R, 0, none⟩ (.slice A S.length q)).setCell ⟨R, 1, none⟩ (.slice A' L.length q')) := by
  have hp := ownsRow_setCell_below (ownsRow_setCell_below h.hs (a := ⟨R, 0, none⟩) hR (.slice A S.length q)) (a := ⟨R, 1, none⟩) hR (.slice A' L.length q')
  have hl := ownsRow_setCell_below (ownsRow_setCell_below h.hl (a := ⟨R, 0, none⟩) hR (.slice A S.length q)) (a := ⟨R, 1, none⟩) hR (.slice A' L.length q')
  exact ⟨(owned_pool hp hl).weak (by omega) (.inl (Nat.le_refl _)), (h.s.setCell (.inr hw) _).setCell (.inr hw) _⟩

/-- A lease's cells in a row that the call owns. -/
theorem Own.lease {R T B : Nat} {w : World} {S : List Cx} {L : List Ls} {A : Option Addr} {q : Nat} {A' : Option Addr} {q' : Nat} {wr : World} (h : Own R T B w S L A q A' q' wr) {k : Nat} {x : Ls} (hk : L[k]? = some x) :
    ∃ g, A' = some ⟨g, 0, none⟩ ∧ LsAt wr g (k * 4) x ∧ ∀ j, wr.frozen? ⟨g, j, none⟩ = false := by
  have hl := (List.getElem?_eq_some_iff.1 hk).1
  obtain ⟨g, cap, hv, _, _⟩ := h.hl.form (by omega)
  injection hv with e1 e2 e3
  subst e1 e3
  obtain ⟨b, hb, _, hob⟩ := ownsRow_hasL h.hl
  have hbg := hob (by omega)
  simp [Value.ownBlock] at hbg
  subst hbg
  obtain ⟨_, _, off, e4, h4⟩ := hb.at_ hk
  injection e4 with e4
  injection e4 with _ e5
  subst e5
  rw [Nat.zero_add] at h4
  exact ⟨_, rfl, h4, fun j => h.hl.frozenAt j⟩

theorem lsV_free : lsV freeL = .agg #[.int .i64 0, .int .i64 0, .int .i64 0, .bool true] := rfl

set_option maxRecDepth 100000 in
set_option maxHeartbeats 4000000 in
theorem spec_giveBack (p : Pl) (id : Nat) (lo hi : Nat) (v : Value) (w : World) (hx : HasP lo hi w v p) (hp : VP p) (hid : id ≤ 4194304) :
    Calls Try.prog 52 #[v, .int .i64 (id : Int)] w (GivesQ (giveP p id) w) := by
  have HX := Lib.hid hx
  have HV := Lib.hid hp
  obtain ⟨AS, cS, AL, cL, rfl⟩ := hx.form
  have X0 := Lib.hid ((Box.new w (.slice AS p.1.length cS) (.slice AL p.2.length cL) 45).alloc (.cells #[.slice none 0 0, .slice none 0 0] 45))
  have X1 := Lib.hid (Box.new (w.alloc (.cells #[.slice AS p.1.length cS, .slice AL p.2.length cL] 45)) (.slice none 0 0) (.slice none 0 0) 45)
  rw [show (w.alloc (.cells #[.slice AS p.1.length cS, .slice AL p.2.length cL] 45)).heap.size = w.heap.size + 1 by simp] at X1
  have HS := Lib.hid (((Span.refl 0 0 w).alloc (.cells #[.slice AS p.1.length cS, .slice AL p.2.length cL] 45)).alloc (.cells #[.slice none 0 0, .slice none 0 0] 45))
  clear hx hp
  go_enter Try.func52, Try.ntmps52
  go_wp2_with fail
  refine (l3Lent_any p id lo hi _ _ (HX.out.span HS.out (.inl (Nat.le_refl _))) HV.out hid).mono ?_
  rintro _ w1 ⟨rfl, s1⟩
  have Y0 := Lib.hid (X0.out.span s1 (.inl (Nat.le_refl _)))
  have Y1 := Lib.hid (X1.out.span s1 (.inl (Nat.le_refl _)))
  have S1 := Lib.hid (s1.after HS.out)
  clear s1 X0 X1 HS
  cases hl : lentAt p id with
  | none =>
    have HG : Hid (giveP p id = none) := by unfold Hid giveP; rw [hl]; rfl
    obtain ⟨_, y0, y1, y2, y3⟩ := Y1.out
    have HB := Lib.hid (box_stored (u' := .slice none 0 0) (v' := .slice none 0 0) Y1.out)
    have HSF := Lib.hid ((S1.out.setCell (p := ⟨w.heap.size + 1, 0, none⟩) (.inr (by simp only; omega)) (.slice none 0 0)).setCell (p := ⟨w.heap.size + 1, 1, none⟩) (.inr (by simp only; omega)) (.slice none 0 0))
    simp only [Option.isSome_none]
    clear hl
    go_wp2_with fail
    refine bodyPost_ret (v := .tuple #[.agg #[.slice none 0 0, .slice none 0 0], .bool false]) (by simp [results, Try.results52, go_sem, HB.out.1, HB.out.2]) rfl ?_
    rw [HG.out]
    exact ⟨rfl, HSF.out⟩
  | some x =>
    have HG : Hid (giveP p id = some (p.1, p.2.set id freeL)) := by unfold Hid giveP; rw [hl]; rfl
    have HL := Lib.hid (lentAt_some hl)
    have HIL : Hid (id < p.2.length) := (List.getElem?_eq_some_iff.1 HL.out.1).1
    simp only [Option.isSome_some]
    clear hl
    obtain ⟨_, x0, x1, _, _⟩ := Y0.out
    go_wp2_with fail
    refine (l3Copy_any p lo hi _ _ (HX.out.span S1.out (.inl (Nat.le_refl _))) (by have := HV.out.size; omega) (by have := HV.out.most; omega)).mono ?_
    rintro _ w3 ⟨A1, q1, A2, q2, rfl, ho1, ho2, s3⟩
    have HRB : Hid (w.heap.size + 1 < w1.heap.size) := Y1.out.1
    have HO := Lib.hid (Own.new (Y1.out.span s3 (.inl (Nat.le_refl _))) ho1 ho2 (s3.after S1.out))
    clear ho1 ho2 s3 Y0 Y1 S1 x0 x1
    obtain ⟨g, rfl, ⟨l0, l1, l2, l3⟩, hfz⟩ := HO.out.lease HL.out.1
    have f0 := hfz (id * 4)
    have f1 := hfz (id * 4 + 1)
    have f2 := hfz (id * 4 + 2)
    have f3 := hfz (id * 4 + 3)
    obtain ⟨_, t0, t1, _, _⟩ := HO.out.t
    have i0 : (0 : Int) ≤ (id : Int) := by omega
    have i1 : (id : Int) < (p.2.length : Int) := by have := HIL.out; omega
    clear hfz
    go_upto_region 5 with fail
    obtain ⟨wS, hwS⟩ : ∃ wS, wS = ((((w3.alloc (.cells #[.slice A1 p.1.length q1, .slice (some ⟨g, 0, none⟩) p.2.length q2] 45)).setCell ⟨g, id * 4, none⟩ (.int .i64 0)).setCell ⟨g, id * 4 + 1, none⟩ (.int .i64 0)).setCell ⟨g, id * 4 + 2, none⟩ (.int .i64 0)).setCell ⟨g, id * 4 + 3, none⟩ (.bool true) := ⟨_, rfl⟩
    rw [← hwS]
    have HOS := Lib.hid (HO.out.setL HRB.out (by have := HRB.out; omega) freeL HIL.out hwS)
    have HLS : Hid ((p.2.set id freeL).length = p.2.length) := List.length_set ..
    clear hwS l0 l1 l2 l3 f0 f1 f2 f3 t0 t1
    obtain ⟨_, t0, t1, _, _⟩ := HOS.out.t
    obtain ⟨_, y0, y1, y2, y3⟩ := HOS.out.r
    have HB := Lib.hid (box_stored (u' := .slice A1 p.1.length q1) (v' := .slice (some ⟨g, 0, none⟩) (p.2.set id freeL).length q2) HOS.out.r)
    have HR := Lib.hid (HOS.out.result HRB.out (by omega))
    rw [HLS.out] at HR HB t1
    go_wp2_with fail
    refine bodyPost_ret (v := .tuple #[.agg #[.slice A1 p.1.length q1, .slice (some ⟨g, 0, none⟩) p.2.length q2], .bool true]) (by simp [results, Try.results52, go_sem, HB.out.1, HB.out.2]) rfl ?_
    rw [HG.out]
    exact ⟨⟨_, rfl, HR.out.1⟩, HR.out.2⟩

/-- Behind l3Put on a pool of the call's own: the result is written. -/
theorem Own.put {R T B : Nat} {w : World} {S : List Cx} {L L' : List Ls} {A : Option Addr} {q : Nat} {A' : Option Addr} {q' : Nat} {wr w' : World} {lo hi : Nat} {A2 : Option Addr} {q2 : Nat} (h : Own R T B w S L A q A' q' wr) (hR : R < B) (hw : w.heap.size ≤ R)
    (hb : ∀ k, lo ≤ k ∧ k < hi → (Value.slice A' L.length q').ownBlock = some k) (ho : w'.ownsRow B 68 4 (.slice A2 L'.length q2) L'.length (flat L')) (sp : Span lo hi wr w') :
    Box R (.slice none 0 0) (.slice none 0 0) w' ∧ HasP w.heap.size ((w'.setCell ⟨R, 0, none⟩ (.slice A S.length q)).setCell ⟨R, 1, none⟩ (.slice A2 L'.length q2)).heap.size ((w'.setCell ⟨R, 0, none⟩ (.slice A S.length q)).setCell ⟨R, 1, none⟩ (.slice A2 L'.length q2)) (.agg #[.slice A S.length q, .slice A2 L'.length q2]) (S, L') ∧
      Span 0 0 w ((w'.setCell ⟨R, 0, none⟩ (.slice A S.length q)).setCell ⟨R, 1, none⟩ (.slice A2 L'.length q2)) := by
  have hbk : ∀ k, lo ≤ k ∧ k < hi → B ≤ k := fun k hk => (h.hl.lt k (hb k hk)).1
  have hs := ownsRow_spanV h.hs sp (fun k hk hc => by
    rcases h.apart with e | e
    · rw [e] at hk; cases hk
    · exact e (hk.trans (hb k hc).symm))
  have hp := ownsRow_setCell_below (ownsRow_setCell_below hs (a := ⟨R, 0, none⟩) hR (.slice A S.length q)) (a := ⟨R, 1, none⟩) hR (.slice A2 L'.length q2)
  have hl := ownsRow_setCell_below (ownsRow_setCell_below ho (a := ⟨R, 0, none⟩) hR (.slice A S.length q)) (a := ⟨R, 1, none⟩) hR (.slice A2 L'.length q2)
  have sw : Span 0 0 w w' := ⟨sp.os.trans h.s.os, sp.tape.trans h.s.tape, sp.output.trans h.s.output, Nat.le_trans h.s.size sp.size, fun i hi hn => (sp.block i (Nat.lt_of_lt_of_le hi h.s.size) (fun hc => by have := hbk i hc; omega)).trans (h.s.block i hi hn)⟩
  refine ⟨?_, (owned_pool hp hl).weak (by omega) (.inl (Nat.le_refl _)), (sw.setCell (.inr hw) _).setCell (.inr hw) _⟩
  refine h.r.of_block' (sp.block R h.r.1 (fun hc => by have := hbk R hc; omega))

theorem Own.away {R T B : Nat} {w : World} {S : List Cx} {L : List Ls} {A : Option Addr} {q : Nat} {A' : Option Addr} {q' : Nat} {wr w' : World} {lo hi : Nat} (h : Own R T B w S L A q A' q' wr) (hR : R < B) (hw : w.heap.size ≤ R)
    (hb : ∀ k, lo ≤ k ∧ k < hi → (Value.slice A' L.length q').ownBlock = some k) (sp : Span lo hi wr w') : Box R (.slice none 0 0) (.slice none 0 0) w' ∧ Span 0 0 w w' := by
  have hbk : ∀ k, lo ≤ k ∧ k < hi → B ≤ k := fun k hk => (h.hl.lt k (hb k hk)).1
  exact ⟨h.r.of_block' (sp.block R h.r.1 (fun hc => by have := hbk R hc; omega)), ⟨sp.os.trans h.s.os, sp.tape.trans h.s.tape, sp.output.trans h.s.output, Nat.le_trans h.s.size sp.size, fun i hi hn => (sp.block i (Nat.lt_of_lt_of_le hi h.s.size) (fun hc => by have := hbk i hc; omega)).trans (h.s.block i hi hn)⟩⟩

theorem block_of (v : Value) : ∃ lo hi, (∀ k, v.ownBlock = some k → lo ≤ k ∧ k < hi) ∧ ∀ k, lo ≤ k ∧ k < hi → v.ownBlock = some k := by
  cases h : v.ownBlock with
  | none => exact ⟨0, 0, (fun k hk => by cases hk), (fun k hk => absurd hk.2 (by omega))⟩
  | some g => exact ⟨g, g + 1, (fun k hk => by injection hk with hk; omega), (fun k hk => by congr 1; omega)⟩

set_option maxRecDepth 100000 in
set_option maxHeartbeats 4000000 in
theorem spec_cutLease (p : Pl) (id at' : Nat) (lo hi : Nat) (v : Value) (w : World) (hx : HasP lo hi w v p) (hp : VP p) (hid : id ≤ 4194304) (hat : at' ≤ 4194304) :
    Calls Try.prog 53 #[v, .int .i64 (id : Int), .int .i64 (at' : Int)] w (GivesQ3 (cutP p id at') w) := by
  have HX := Lib.hid hx
  have HV := Lib.hid hp
  obtain ⟨b1, b2, vS, vL, rfl, g1, g2⟩ := hx
  obtain ⟨AS, cS, rfl, _, _⟩ := g1
  have G2 := Lib.hid g2
  obtain ⟨AL, cL, rfl, _, _⟩ := g2
  have X0 := Lib.hid ((Box.new w (.slice AS p.1.length cS) (.slice AL p.2.length cL) 45).alloc (.cells #[.slice none 0 0, .slice none 0 0] 45))
  have X1 := Lib.hid (Box.new (w.alloc (.cells #[.slice AS p.1.length cS, .slice AL p.2.length cL] 45)) (.slice none 0 0) (.slice none 0 0) 45)
  rw [show (w.alloc (.cells #[.slice AS p.1.length cS, .slice AL p.2.length cL] 45)).heap.size = w.heap.size + 1 by simp] at X1
  have HS := Lib.hid (((Span.refl 0 0 w).alloc (.cells #[.slice AS p.1.length cS, .slice AL p.2.length cL] 45)).alloc (.cells #[.slice none 0 0, .slice none 0 0] 45))
  clear hp
  go_enter Try.func53, Try.ntmps53
  go_wp2_with fail
  refine (l3Lent_any p id lo hi _ _ (HX.out.span HS.out (.inl (Nat.le_refl _))) HV.out hid).mono ?_
  rintro _ w1 ⟨rfl, s1⟩
  have Y0 := Lib.hid (X0.out.span s1 (.inl (Nat.le_refl _)))
  have Y1 := Lib.hid (X1.out.span s1 (.inl (Nat.le_refl _)))
  have S1 := Lib.hid (s1.after HS.out)
  clear s1 X0 X1 HS
  cases hl : lentAt p id with
  | none =>
    have HG : Hid (cutP p id at' = none) := by unfold Hid cutP; rw [hl]; rfl
    obtain ⟨_, y0, y1, y2, y3⟩ := Y1.out
    have HB := Lib.hid (box_stored (u' := .slice none 0 0) (v' := .slice none 0 0) Y1.out)
    have HSF := Lib.hid ((S1.out.setCell (p := ⟨w.heap.size + 1, 0, none⟩) (.inr (by simp only; omega)) (.slice none 0 0)).setCell (p := ⟨w.heap.size + 1, 1, none⟩) (.inr (by simp only; omega)) (.slice none 0 0))
    simp only [Option.isSome_none]
    clear hl
    go_wp2_with fail
    refine bodyPost_ret (v := .tuple #[.agg #[.slice none 0 0, .slice none 0 0], .int .i64 0, .bool false]) (by simp [results, Try.results53, go_sem, HB.out.1, HB.out.2]) rfl ?_
    rw [HG.out]
    exact ⟨rfl, HSF.out⟩
  | some x =>
    have HL := Lib.hid (lentAt_some hl)
    have HIL : Hid (id < p.2.length) := (List.getElem?_eq_some_iff.1 HL.out.1).1
    obtain ⟨-, hb2, off, rfl, l0, l1, l2, l3⟩ := (G2.out.span S1.out (.inl (Nat.le_refl _))).at_ HL.out.1
    have HLE := Lib.hid hl
    simp only [Option.isSome_some]
    clear hl
    obtain ⟨_, x0, x1, _, _⟩ := Y0.out
    obtain ⟨s, c, r, fr⟩ := x
    obtain ⟨o1, o2, o3⟩ := (HV.out.ok _ (List.mem_of_getElem? HL.out.1)).lent HL.out.2
    have hsz := HV.out.size
    simp only at o1 o2 o3 l0 l1 l2 l3
    have i0 : (0 : Int) ≤ (id : Int) := by omega
    have i1 : (id : Int) < (p.2.length : Int) := by have := HIL.out; omega
    have hfr : fr = false := HL.out.2
    subst hfr
    clear hb2
    have HB9 := Lib.hid (lsBox w1 ⟨s, c, r, false⟩ 68)
    have S2 := Lib.hid (S1.out.alloc (.cells #[.int .i64 (s : Int), .int .i64 (c : Int), .int .i64 (r : Int), .bool false] 68))
    have Z0 := Lib.hid (Y0.out.alloc (.cells #[.int .i64 (s : Int), .int .i64 (c : Int), .int .i64 (r : Int), .bool false] 68))
    have Z1 := Lib.hid (Y1.out.alloc (.cells #[.int .i64 (s : Int), .int .i64 (c : Int), .int .i64 (r : Int), .bool false] 68))
    have HR1 : Hid (w.heap.size + 1 < w1.heap.size) := Y1.out.1
    go_upto_region 4 with fail
    clear l0 l1 l2 l3 x0 x1 Y0 Y1 S1
    generalize hw2 : w1.alloc (.cells #[.int .i64 (s : Int), .int .i64 (c : Int), .int .i64 (r : Int), .bool false] 68) = w2 at *
    have HR2 : Hid (w1.heap.size < w2.heap.size) := by unfold Hid; rw [← hw2]; simp
    clear hw2
    obtain ⟨l0, l1, l2, l3⟩ := HB9.out
    simp only [Nat.zero_add] at l0 l1 l2 l3
    have r0 : (1 : Int) ≤ (r : Int) := by omega
    have r1 : (r : Int) ≤ 256 := by omega
    go_cut [29] (fun s29 wx => s29 = .bool (!decide (1 ≤ at' ∧ at' ≤ min c (r - 1))) ∧ wx = w2)
    case first =>
      have hmin : Hid (min c (r - 1) = if (c : Int) ≤ (r : Int) - 1 then c else r - 1) := by
        unfold Hid
        by_cases hm : (c : Int) ≤ (r : Int) - 1
        · rw [if_pos hm]; exact Nat.min_eq_left (by omega)
        · rw [if_neg hm]; exact Nat.min_eq_right (by omega)
      by_cases hm : (c : Int) ≤ (r : Int) - 1
      · have hmin2 := hmin.out
        rw [if_pos hm] at hmin2
        have HM := Lib.hid hmin2
        clear hmin hmin2
        go_wp2_with fail
        refine (l1In_any _ _ _ _).mono ?_
        rintro _ _ ⟨rfl, rfl⟩
        go_wp2_with fail
        go_meet
        refine ⟨congrArg Value.bool ?_, rfl⟩
        rw [HM.out, Bool.eq_iff_iff]; simp; omega
      · have hmin2 := hmin.out
        rw [if_neg hm] at hmin2
        have HM := Lib.hid hmin2
        clear hmin hmin2
        have hm2 : ¬ (c : Int) < (r : Int) - 1 := by omega
        go_wp2_with fail
        refine (l1In_any _ _ _ _).mono ?_
        rintro _ _ ⟨rfl, rfl⟩
        go_wp2_with fail
        go_meet
        refine ⟨congrArg Value.bool ?_, rfl⟩
        rw [HM.out, Bool.eq_iff_iff]; simp; omega
    case rest =>
      obtain ⟨rfl, rfl⟩ := hcut
      by_cases hc : 1 ≤ at' ∧ at' ≤ min c (r - 1)
      · rw [decide_eq_true hc]
        simp only [Bool.not_true]
        have hm := hc.2
        have hc1 : at' ≤ c := by omega
        have hc2 : at' ≤ r - 1 := by omega
        have HC := Lib.hid hc
        clear hm hc
        obtain ⟨_, x0, x1, _, _⟩ := Z0.out
        go_wp2_with fail
        refine (l3Copy_any p lo hi _ _ (HX.out.span S2.out (.inl (Nat.le_refl _))) (by have := HV.out.size; omega) (by have := HV.out.most; omega)).mono ?_
        rintro _ w3 ⟨A1, q1, A2, q2, rfl, ho1, ho2, s3⟩
        have HRB : Hid (w.heap.size + 1 < wc.heap.size) := Z1.out.1
        have HO := Lib.hid (Own.new (Z1.out.span s3 (.inl (Nat.le_refl _))) ho1 ho2 (s3.after S2.out))
        have HB10 := Lib.hid ((HB9.out.span s3 (.inl (Nat.le_refl _))).span ((Span.refl 0 0 w3).alloc (.cells #[.slice A1 p.1.length q1, .slice A2 p.2.length q2] 45)) (.inl (Nat.le_refl _)))
        clear ho1 ho2 s3 Z0 Z1 S2 x0 x1 l0 l1 l2 l3 HB9
        obtain ⟨l0, l1, l2, l3⟩ := HB10.out
        simp only [Nat.zero_add] at l0 l1 l2 l3
        obtain ⟨g, rfl, ⟨n0, n1, n2, n3⟩, hfz⟩ := HO.out.lease HL.out.1
        have f0 := hfz (id * 4)
        have f1 := hfz (id * 4 + 1)
        have f2 := hfz (id * 4 + 2)
        have f3 := hfz (id * 4 + 3)
        obtain ⟨_, t0, t1, _, _⟩ := HO.out.t
        clear hfz
        go_upto_region 8 with fail
        obtain ⟨wS, hwS⟩ : ∃ wS, wS = ((((w3.alloc (.cells #[.slice A1 p.1.length q1, .slice (some ⟨g, 0, none⟩) p.2.length q2] 45)).setCell ⟨g, id * 4, none⟩ (.int .i64 (s : Int))).setCell ⟨g, id * 4 + 1, none⟩ (.int .i64 (at' : Int))).setCell ⟨g, id * 4 + 2, none⟩ (.int .i64 (at' : Int))).setCell ⟨g, id * 4 + 3, none⟩ (.bool false) := ⟨_, rfl⟩
        rw [← hwS]
        have HOS := Lib.hid (HO.out.setL HRB.out (by have := HRB.out; omega) ⟨s, at', at', false⟩ HIL.out hwS)
        have HLS : Hid ((p.2.set id ⟨s, at', at', false⟩).length = p.2.length) := List.length_set ..
        have hgB : wc.heap.size ≤ g := (HO.out.hl.lt g rfl).1
        have sp : Span g (g + 1) (w3.alloc (.cells #[.slice A1 p.1.length q1, .slice (some ⟨g, 0, none⟩) p.2.length q2] 45)) wS := by rw [hwS]; exact set4_span _ g (id * 4) ⟨s, at', at', false⟩
        have HB11 := Lib.hid (HB10.out.span sp (.inr (.inl (by have := HR2.out; omega))))
        clear hwS l0 l1 l2 l3 f0 f1 f2 f3 t0 t1 n0 n1 n2 n3 HB10 HO sp hgB
        obtain ⟨_, t0, t1, _, _⟩ := HOS.out.t
        obtain ⟨l0, l1, l2, l3⟩ := HB11.out
        simp only [Nat.zero_add] at l0 l1 l2 l3
        obtain ⟨lo', hi', hb1, hb2⟩ := block_of (.slice (some ⟨g, 0, none⟩) (p.2.set id ⟨s, at', at', false⟩).length q2)
        have C := l3Put_own A1 p.1.length q1 (p.2.set id ⟨s, at', at', false⟩) (some ⟨g, 0, none⟩) q2 ⟨s + at', c - at', r - at', false⟩ wc.heap.size lo' hi' wS HOS.out.hl (Nat.le_of_lt (Nat.lt_of_le_of_lt (HOS.out.hl.lt g rfl).1 (HOS.out.hl.lt g rfl).2)) (by rw [HLS.out]; exact HV.out.most) hb1
        have e : lsV ⟨s + at', c - at', r - at', false⟩ = .agg #[.int .i64 ((s : Int) + (at' : Int)), .int .i64 ((c : Int) - (at' : Int)), .int .i64 ((r : Int) - (at' : Int)), .bool false] := by
          unfold lsV
          simp only
          rw [show ((s + at' : Nat) : Int) = (s : Int) + (at' : Int) by omega, show ((c - at' : Nat) : Int) = (c : Int) - (at' : Int) by omega, show ((r - at' : Nat) : Int) = (r : Int) - (at' : Int) by omega]
        rw [e, HLS.out] at C
        have HC2 := Lib.hid C
        have HB2 := Lib.hid hb2
        rw [HLS.out] at t1
        clear C e hb1 hb2
        go_wp2_with fail
        cases hpu : putL (p.2.set id ⟨s, at', at', false⟩) ⟨s + at', c - at', r - at', false⟩ with
        | none =>
          have HG : Hid (cutP p id at' = none) := by
            unfold Hid cutP; rw [HLE.out]; simp only [Option.bind_some]; rw [if_pos HC.out, hpu]; rfl
          rw [hpu] at HC2
          refine HC2.out.mono ?_
          rintro _ w4 ⟨rfl, sp⟩
          obtain ⟨hr, hs⟩ := HOS.out.away HRB.out (by omega) HB2.out sp
          have hr2 := hr
          obtain ⟨_, y0, y1, y2, y3⟩ := hr2
          have HB := Lib.hid (box_stored (u' := .slice none 0 0) (v' := .slice none 0 0) hr)
          have HSF := Lib.hid ((hs.setCell (p := ⟨w.heap.size + 1, 0, none⟩) (.inr (by simp only; omega)) (.slice none 0 0)).setCell (p := ⟨w.heap.size + 1, 1, none⟩) (.inr (by simp only; omega)) (.slice none 0 0))
          clear hpu sp hr hs l0 l1 l2 l3 t0 t1
          go_wp2_with fail
          refine bodyPost_ret (v := .tuple #[.agg #[.slice none 0 0, .slice none 0 0], .int .i64 0, .bool false]) (by simp [results, Try.results53, go_sem, HB.out.1, HB.out.2]) rfl ?_
          rw [HG.out]
          exact ⟨rfl, HSF.out⟩
        | some LL =>
          obtain ⟨L', id'⟩ := LL
          have HG : Hid (cutP p id at' = some ((p.1, L'), id')) := by
            unfold Hid cutP; rw [HLE.out]; simp only [Option.bind_some]; rw [if_pos HC.out, hpu]; rfl
          rw [hpu] at HC2
          refine HC2.out.mono ?_
          rintro _ w4 ⟨⟨A5, q5, rfl, ho⟩, sp⟩
          obtain ⟨hr, hh, hs⟩ := HOS.out.put HRB.out (by omega) HB2.out ho sp
          have hr2 := hr
          obtain ⟨_, y0, y1, y2, y3⟩ := hr2
          have HB := Lib.hid (box_stored (u' := .slice A1 p.1.length q1) (v' := .slice A5 L'.length q5) hr)
          have HH := Lib.hid hh
          have HSF := Lib.hid hs
          clear hpu ho sp hr hh hs l0 l1 l2 l3 t0 t1
          go_wp2_with fail
          refine bodyPost_ret (v := .tuple #[.agg #[.slice A1 p.1.length q1, .slice A5 L'.length q5], .int .i64 (id' : Int), .bool true]) (by simp [results, Try.results53, go_sem, HB.out.1, HB.out.2]) rfl ?_
          rw [HG.out]
          exact ⟨⟨_, rfl, HH.out⟩, HSF.out⟩
      · have HG : Hid (cutP p id at' = none) := by unfold Hid cutP; rw [HLE.out]; simp only [Option.bind_some]; rw [if_neg hc]
        rw [decide_eq_false hc]
        simp only [Bool.not_false]
        obtain ⟨_, y0, y1, y2, y3⟩ := Z1.out
        have HB := Lib.hid (box_stored (u' := .slice none 0 0) (v' := .slice none 0 0) Z1.out)
        have HSF := Lib.hid ((S2.out.setCell (p := ⟨w.heap.size + 1, 0, none⟩) (.inr (by simp only; omega)) (.slice none 0 0)).setCell (p := ⟨w.heap.size + 1, 1, none⟩) (.inr (by simp only; omega)) (.slice none 0 0))
        clear hc
        go_wp2_with fail
        refine bodyPost_ret (v := .tuple #[.agg #[.slice none 0 0, .slice none 0 0], .int .i64 0, .bool false]) (by simp [results, Try.results53, go_sem, HB.out.1, HB.out.2]) rfl ?_
        rw [HG.out]
        exact ⟨rfl, HSF.out⟩
end Go.Proofs.Ytfafkdpefdpnkaa
