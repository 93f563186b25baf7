/- The law FnApart. -/
import Derived.Test.YtfafkdpefdpnkaaJq27
import Derived.Test.YtfafkdpefdpnkaaJq44
import Derived.Test.YtfafkdpefdpnkaaJq51
import Derived.Test.YtfafkdpefdpnkaaJq58
import Derived.Test.YtfafkdpefdpnkaaJq57
import Derived.Test.YtfafkdpefdpnkaaJq24
import Derived.Test.YtfafkdpefdpnkaaJq28
import Derived.Deep.RegionHeld3
import Derived.Deep.RegionWith
import Derived.BigQuiet
import Derived.Deep.DeepCutAuto
import Derived.Outline
namespace Go.Proofs.Ytfafkdpefdpnkaa
open Go.RowKit

theorem hbyUpA {B : Nat} {w : World} {A : Option Addr} {n : Nat} (h : HasBy B w A n) (hB : B ≤ w.heap.size) : HasBy w.heap.size w A n := fun hp => by
  obtain ⟨b, off, rfl, hb, hc⟩ := h hp
  exact ⟨b, off, rfl, by omega, hc⟩

/-- w' is w but for the block b, if m is not 0, and for new blocks. -/
def Sp (b m : Nat) (w w' : World) : Prop := (m = 0 ∧ Span 0 0 w w') ∨ (0 < m ∧ Span b (b + 1) w w')
theorem Sp.refl (b m : Nat) (w : World) : Sp b m w w := by
  rcases Nat.eq_zero_or_pos m with h | h
  · exact .inl ⟨h, Span.refl _ _ _⟩
  · exact .inr ⟨h, Span.refl _ _ _⟩
theorem Sp.put {b m k : Nat} {w w' : World} (h : Sp b m w w') (hk : k < m) (o : Nat) (u : Value) : Sp b m w (w'.setCell ⟨b, o, none⟩ u) := by
  rcases h with ⟨h, _⟩ | ⟨h, s⟩
  · omega
  · exact .inr ⟨h, s.setCell (.inl ⟨Nat.le_refl _, Nat.lt_succ_self _⟩) _⟩
theorem Sp.size {b m : Nat} {w w' : World} (h : Sp b m w w') : w.heap.size ≤ w'.heap.size := by
  rcases h with ⟨_, s⟩ | ⟨_, s⟩ <;> exact s.size
theorem Sp.keepS {α : Type} {val : α → Value} {own : Bool} {b m b2 lo hi lo2 hi2 : Nat} {w w' : World} {v : Value} {xs : List α} (sp : Sp b m w w') (h : HasS val own b2 lo2 hi2 w v xs) (hb : 0 < m → lo ≤ b ∧ b < hi) (hd : hi2 ≤ lo ∨ hi ≤ lo2) : HasS val own b2 lo2 hi2 w' v xs := by
  rcases sp with ⟨_, s⟩ | ⟨h0, s⟩
  · exact h.span s (.inl (Nat.le_refl _))
  · have := hb h0
    exact h.span s (by omega)
theorem Sp.keepF {b m b2 lo hi lo2 hi2 : Nat} {w w' : World} {v : Value} {xs : List Fr} (sp : Sp b m w w') (h : HasFr b2 lo2 hi2 w v xs) (hb : 0 < m → lo ≤ b ∧ b < hi) (hd : hi2 ≤ lo ∨ hi ≤ lo2) : HasFr b2 lo2 hi2 w' v xs := by
  rcases sp with ⟨_, s⟩ | ⟨h0, s⟩
  · exact h.span s (.inl (Nat.le_refl _))
  · have := hb h0
    exact h.span s (by omega)
theorem Sp.keepB {b m b2 : Nat} {us : Array Value} {w w' : World} (sp : Sp b m w w') (h : Bx b2 us w) (hb : 0 < m → b2 ≠ b) : Bx b2 us w' := by
  rcases sp with ⟨_, s⟩ | ⟨h0, s⟩
  · exact h.span s (.inl (Nat.le_refl _))
  · have := hb h0
    exact h.span s (by omega)
theorem Sp.below {b m B : Nat} {W w w' : World} (sp : Sp b m w w') (h : Below B W w) (hb : 0 < m → B ≤ b) (hB : B ≤ w.heap.size) : Below B W w' := by
  rcases sp with ⟨_, s⟩ | ⟨h0, s⟩
  · exact s.below h (.inl (Nat.le_refl _)) hB
  · exact s.below h (.inr (hb h0)) hB
theorem HasS.inside {α : Type} {val : α → Value} {own : Bool} {b lo hi m : Nat} {w : World} {v : Value} {xs : List α} (h : HasS val own b lo hi w v xs) (hm : xs.length = m) : 0 < m → lo ≤ b ∧ b < hi := fun h0 => by
  obtain ⟨A, cap, _, _, hc⟩ := h
  obtain ⟨off, _, g1, g2, _⟩ := hc (by omega)
  exact ⟨g1, g2⟩
theorem HasFr.upto {b lo hi hi' : Nat} {w : World} {v : Value} {L : List Fr} (h : HasFr b lo hi w v L) (hb : 0 < L.length → b < hi') : HasFr b lo hi' w v L := by
  obtain ⟨A, cap, rfl, hcap, hc⟩ := h
  refine ⟨A, cap, rfl, hcap, fun hp => ?_⟩
  obtain ⟨off, rfl, g1, g2, g3, g4⟩ := hc hp
  exact ⟨off, rfl, g1, hb hp, g3, g4⟩
theorem Sp.keepN {α : Type} {val : α → Value} {own : Bool} {b m b2 lo2 hi2 : Nat} {w w' : World} {v : Value} {xs : List α} (sp : Sp b m w w') (h : HasS val own b2 lo2 hi2 w v xs) (hne : 0 < xs.length → b2 ≠ b) : HasS val own b2 lo2 hi2 w' v xs := by
  rcases sp with ⟨_, s⟩ | ⟨_, s⟩
  · exact h.span s (.inl (Nat.le_refl _))
  · rcases Nat.eq_zero_or_pos xs.length with h0 | h0
    · obtain ⟨A, cap, rfl, hcap, _⟩ := h
      exact ⟨A, cap, rfl, hcap, fun hp => absurd hp (by omega)⟩
    · have := hne h0
      exact h.span s (by omega)
theorem HasS.grownE {α : Type} {val : α → Value} {own : Bool} {b lo hi : Nat} {w w' : World} {v : Value} {xs : List α} {row : Option Nat} (h : HasS val own b lo hi w v xs) (hg : w.grownBy w' row) (hne : 0 < xs.length → ∀ k, row = some k → b ≠ k) : HasS val own b lo hi w' v xs := by
  rcases Nat.eq_zero_or_pos xs.length with h0 | h0
  · obtain ⟨A, cap, rfl, hcap, _⟩ := h
    exact ⟨A, cap, rfl, hcap, fun hp => absurd hp (by omega)⟩
  · exact h.grownF hg (hne h0)
theorem three_hasS (w : World) (x y z : Cx) : HasS cxV true w.heap.size w.heap.size (w.heap.size + 1) (w.alloc (.cells #[.complex .f32 x.1 x.2, .complex .f32 y.1 y.2, .complex .f32 z.1 z.2] 35)) (.slice (some ⟨w.heap.size, 0, none⟩) 3 3) [x, y, z] := by
  refine ⟨_, _, rfl, Nat.le_refl _, fun _ => ⟨0, rfl, Nat.le_refl _, Nat.lt_succ_self _, by simp, fun j u hj => ?_, fun _ j _ => World.frozen?_alloc_new ..⟩⟩
  rw [World.cell?_alloc_new, Nat.zero_add]
  match j with
  | 0 => simp at hj; subst hj; rfl
  | 1 => simp at hj; subst hj; rfl
  | 2 => simp at hj; subst hj; rfl
  | j + 3 => simp at hj
theorem HasS.takeA {o : Bool} {b lo hi n c : Nat} {w : World} {A : Option Addr} {xs : List Cx} (h : HasS cxV o b lo hi w (.slice A n c) xs) {k : Nat} (hk : k ≤ xs.length) : HasS cxV o b lo hi w (.slice A k c) (xs.take k) := by
  obtain ⟨A', cap, e, hcap, hc⟩ := h
  injection e with e1 e2 e3
  subst e1 e2 e3
  have hl : (xs.take k).length = k := by rw [List.length_take]; omega
  refine ⟨_, _, by rw [hl], by omega, fun hp => ?_⟩
  obtain ⟨off, e4, g1, g2, g3, g4, g5⟩ := hc (by omega)
  refine ⟨off, e4, g1, g2, g3, fun j x hj => g4 j x ?_, fun ho j hj => g5 ho j (by omega)⟩
  rw [List.getElem?_take] at hj
  split at hj
  · exact hj
  · cases hj

/-- A pool in a box; all of it lies before the box. -/
structure PB (NT : Nat) (p : Pl) (A : Option Addr) (q : Nat) (A' : Option Addr) (q' : Nat) (w : World) : Prop where
  b : Bx NT #[.slice A p.1.length q, .slice A' p.2.length q'] w
  h : HasP 0 NT w (.agg #[.slice A p.1.length q, .slice A' p.2.length q']) p
theorem PB.keep {NT : Nat} {p : Pl} {A : Option Addr} {q : Nat} {A' : Option Addr} {q' : Nat} {w w' : World} (h : PB NT p A q A' q' w) (s : Span 0 0 w w') : PB NT p A q A' q' w' := ⟨h.b.keep s, h.h.span s (.inl (Nat.le_refl _))⟩
theorem PB.sp {NT b m : Nat} {p : Pl} {A : Option Addr} {q : Nat} {A' : Option Addr} {q' : Nat} {w w' : World} (h : PB NT p A q A' q' w) (sp : Sp b m w w') (hb : 0 < m → NT < b) : PB NT p A q A' q' w' := by
  rcases sp with ⟨_, s⟩ | ⟨h0, s⟩
  · exact h.keep s
  · have := hb h0
    exact ⟨h.b.span s (by omega), h.h.span s (by omega)⟩
theorem PB.new {w w1 : World} {p : Pl} {A : Option Addr} {q : Nat} {A' : Option Addr} {q' : Nat} (hp : HasP w.heap.size w1.heap.size w1 (.agg #[.slice A p.1.length q, .slice A' p.2.length q']) p) :
    PB w1.heap.size p A q A' q' (w1.alloc (.cells #[.slice A p.1.length q, .slice A' p.2.length q'] 45)) :=
  ⟨Bx.new _ _ _, (hp.span ((Span.refl 0 0 w1).alloc _) (.inl (Nat.le_refl _))).weak (Nat.zero_le _) (.inl (Nat.le_refl _))⟩

theorem chop_same {F G : List Fr} {R S L : List Cx} (h1 : F.flatMap Fr.l ++ R = L) (h2 : G.flatMap Fr.l ++ S = L) (hR : R.length < 8) (hS : S.length < 8) : F.length = G.length ∧ R.length = S.length ∧ F.flatMap Fr.l = G.flatMap Fr.l := by
  have e1 := congrArg List.length h1
  have e2 := congrArg List.length h2
  rw [List.length_append, flatL_length] at e1 e2
  have e3 : F.length = G.length := by omega
  refine ⟨e3, by omega, ?_⟩
  have : (F.flatMap Fr.l ++ R).take (F.length * 8) = (G.flatMap Fr.l ++ S).take (F.length * 8) := by rw [h1, h2]
  rwa [List.take_append_of_le_length (by rw [flatL_length]; exact Nat.le_refl _), List.take_append_of_le_length (by rw [flatL_length, e3]; exact Nat.le_refl _), List.take_of_length_le (by rw [flatL_length]; exact Nat.le_refl _), List.take_of_length_le (by rw [flatL_length, e3]; exact Nat.le_refl _)] at this

theorem winP_short {p : Pl} (hv : VP p) (k : Nat) : ((winP p k).getD []).length ≤ 256 := by
  cases h : winP p k with
  | none => simp
  | some ys =>
    unfold winP at h
    rw [Option.map_eq_some_iff] at h
    obtain ⟨x, hx, rfl⟩ := h
    have := hv.size
    simp
    omega

theorem step_append_anyA {P : Program} {α : Type} {val : α → Value} (h1 : ∀ a, (val a).oneCell' = true) {ops : Array Oper} {op : Oper} {a : Act} {w : World} {K : Act → World → Prop} {Q : Exit → Act → World → Prop} {E : Prop} (hw : Region.wanted op (yielded ops a.tmps) = true) (s x : Operand) (t : TypeId)
    (ho : op.op = .call { callee := .builtin .append, args := #[s, x], argTypes := #[t, t] })
    (base : Nat) (e : TypeId) (i : TypeInfo) (z : Value) (bytes : Nat) (ht : P.underlying t = some (.slice e)) (hi : P.info? e = some i) (hz : i.zero = some z)
    (hsize : i.size = 1) (hby : i.bytes = bytes) (hzs : z.cells.size = 1)
    (v : Value) (n : Nat) (ys : List Value) (hs : a.eval s = v) (hown : w.ownsRow base e 1 v n ys)
    {own : Bool} {b lo hi' : Nat} {vx : Value} {xs : List α} (hxv : HasS val own b lo hi' w vx xs) (hx : a.eval x = vx)
    (h63 : n + xs.length ≤ maxLen) (hbytes : (n + xs.length) * bytes ≤ 140737488355328) (hbase : base ≤ w.heap.size)
    (h : ∀ v' w', w'.ownsRow base e 1 v' (n + xs.length) (ys ++ xs.map val) → w.grownBy w' v.ownBlock → K (a.put op.dst v') w') :
    if Region.wanted op (yielded ops a.tmps) = true then Oper.wp P op a w K Q else E := by
  rw [if_pos hw]
  obtain ⟨v', w', hr, h2, h3, h4⟩ := run_append_any (P := P) h1 w base t op.type e i z bytes ht hi hz hsize hby hzs v n ys hown hxv h63 hbytes hbase
  unfold Oper.wp execOp
  simp only [ho, resolve, invoke, builtin, Sem.run_bind, Sem.run_pure, Result.andThen_ok, List.map_toArray, List.map_cons, List.map_nil, hs, hx, hr]
  exact h v' w' h2 h3

set_option maxRecDepth 100000 in
set_option maxHeartbeats 16000000 in
theorem law_apart (A : Option Addr) (n c : Nat) (w : World) (h : HasBy w.heap.size w A n) : Calls Try.prog 4 #[.slice A n c] w (Says w) := by
  by_cases hn : n ≤ 1048576
  · have Hn := Lib.hid hn
    have Hby := Lib.hid h
    obtain ⟨f, hf⟩ : ∃ f : Cx → List UInt8, ∀ z, (f z).length ≤ 90 ∧ ∀ w, Calls Try.prog 33 #[cxV z] w (GivesTxt (f z) w) := ⟨fun z => (l8Point_det z).choose, fun z => (l8Point_det z).choose_spec⟩
    have HF := Lib.hid hf
    obtain ⟨ip, hip, hzp, hsp, hbp⟩ := info_parts info_c64
    have i0 : decide ((1048576 : Int) < (n : Int)) = false := by rw [decide_eq_false_iff_not]; omega
    clear hn h hf
    go_enter Try.func4, Try.ntmps4
    go_wp2_with fail
    refine (makePool_any A n c w Hn.out Hby.out).mono ?_
    rintro _ w1 ⟨p, v, rfl, hv, hp, s1⟩
    obtain ⟨A1, q1, A2, q2, rfl⟩ := hp.form
    have HV := Lib.hid hv
    have P1 := Lib.hid (PB.new hp)
    have B1 := Lib.hid ((s1.to_below (.inl (Nat.le_refl _))).alloc s1.size (.cells #[.slice A1 p.1.length q1, .slice A2 p.2.length q2] 45))
    have TX := (fun W (hp : PB w1.heap.size p A1 q1 A2 q2 W) => poolText_any f HF.out p HV.out 0 w1.heap.size _ W hp.h)
    obtain ⟨tx, htx⟩ : ∃ tx, tx = storeT f p.1 ++ leasesT p.2 := ⟨_, rfl⟩
    rw [← htx] at TX
    obtain ⟨st, hst⟩ : ∃ st : ByteArray, st = ⟨tx.toArray⟩ := ⟨_, rfl⟩
    have TX : Hid (∀ W, PB w1.heap.size p A1 q1 A2 q2 W → Calls Try.prog 18 #[.agg #[.slice A1 p.1.length q1, .slice A2 p.2.length q2]] W fun e w' => e = .returned (.string st) ∧ Span 0 0 W w') := Lib.hid (fun W h => (TX W h).mono (fun e w' hh => ⟨by rw [hst]; exact hh.1, hh.2⟩))
    have HWO := Lib.hid (fun W k (hp : PB w1.heap.size p A1 q1 A2 q2 W) (hk : k ≤ 4194304) => impl_windowOfO p k 0 w1.heap.size _ W hp.h HV.out hk)
    have HCP := Lib.hid (fun W (hp : PB w1.heap.size p A1 q1 A2 q2 W) => impl_compactPoolO p 0 w1.heap.size _ W hp.h HV.out)
    have HLE := Lib.hid (show p.1.length ≤ 256 ∧ p.2.length ≤ 16 from ⟨hv.size, hv.most⟩)
    have HWN := Lib.hid (fun k => winP_short HV.out k)
    have HNT0 := Lib.hid (show w.heap.size ≤ w1.heap.size from s1.size)
    clear hv hp s1 htx HF hst
    go_upto_region 4 with fail
    obtain ⟨NT, hNT⟩ : ∃ t, t = w1.heap.size := ⟨_, rfl⟩
    have HNT : Hid (w.heap.size ≤ NT) := Lib.hid (by rw [hNT]; exact HNT0.out)
    have HNT2 : Hid (NT < (w1.alloc (.cells #[.slice A1 p.1.length q1, .slice A2 p.2.length q2] 45)).heap.size) := Lib.hid (by rw [hNT]; simp)
    obtain ⟨pn, hpn⟩ : ∃ t, t = p.1.length := ⟨_, rfl⟩
    obtain ⟨pl, hpl⟩ : ∃ t, t = p.2.length := ⟨_, rfl⟩
    simp only [← hNT] at P1 TX HWO HCP ⊢
    have PC : Hid (∀ W, PB NT p A1 q1 A2 q2 W → (∀ i, W.cell? ⟨NT, i, none⟩ = (#[.slice A1 pn q1, .slice A2 pl q2] : Array Value)[i]?)) := Lib.hid (fun W h => by rw [hpn, hpl]; exact h.b.cells)
    simp only [← hpn, ← hpl] at TX HWO HCP HLE B1 P1 HNT2 ⊢
    clear hNT HNT0
    have HPL := Lib.hid hpl
    clear hpn hpl
    generalize w1.alloc (.cells #[.slice A1 pn q1, .slice A2 pl q2] 45) = w2 at *
    have HY2 := Lib.hid (hbyUpA (Hby.out.below B1.out) B1.out.size)
    go_wp2_with fail
    refine (fresh_any A n c 3 w2 (by omega) (by omega) Hn.out HY2.out).mono ?_
    rintro _ w3 ⟨A3, n3, c3, rfl, hn3, hy3, hb3⟩
    have P3 := Lib.hid (P1.out.keep (Span.of_below hb3))
    have B3 := Lib.hid ((Span.of_below hb3).below B1.out (.inl (Nat.le_refl _)) B1.out.size)
    have HN3 := Lib.hid hn3
    have HY3 := Lib.hid hy3
    have Z3 := Lib.hid (show NT < w3.heap.size by have := HNT2.out; have := hb3.size; omega)
    clear hn3 hy3 hb3 P1 B1 HY2
    go_wp2_with fail
    refine (makeSamples_any 30 (by omega) (by omega) A3 n3 c3 w3 (by have := HN3.out; omega) HY3.out).mono ?_
    rintro _ w4 ⟨v4, ys, rfl, hl4, -, ho4, hb4⟩
    obtain ⟨A4, q4, rfl⟩ := ownsRow_slice ho4
    obtain ⟨b4, hs4, -, -⟩ := ownsRow_hasS ho4
    have P4 := Lib.hid (P3.out.keep (Span.of_below hb4))
    have B4 := Lib.hid ((Span.of_below hb4).below B3.out (.inl (Nat.le_refl _)) B3.out.size)
    have HS4 := Lib.hid hs4
    have Z4 := Lib.hid hb4.size
    obtain ⟨m, hm⟩ : ∃ t, t = ys.length := ⟨_, rfl⟩
    have HM := Lib.hid hm
    rw [← hm] at hl4 hs4 HS4 ⊢
    have HM30 := Lib.hid hl4
    have HI4 := Lib.hid (hs4.inside hm.symm)
    have HOA := Lib.hid (World.ownsRow_made (base := w4.heap.size) (e := 35) (size := 1) w4 #[] 0 (Nat.le_refl _) (Nat.zero_le _) rfl)
    clear hl4 ho4 hs4 hb4 P3 B3 HN3 HY3 hm
    go_wp2_with (at_builtin; go_loud (refine wpList_append_any cxV_one rfl _ _ 23 rfl w4.heap.size 35 ip (.complex .f32 0 0) 8 Try.underlying23 hip hzp hsp hbp rfl _ _ _ rfl HOA.out (HS4.out.alloc (.cells #[] 35)) rfl ?c1 ?c2 ?c3 ?_; (case c1 => have := HM.out; have := HM30.out; unfold maxLen; omega); (case c2 => have := HM.out; have := HM30.out; omega); (case c3 => simp); intro v5 w5 ho5 hg5 _; rw [Nat.zero_add, List.nil_append, ← HM.out] at ho5; obtain ⟨A5, q5, rfl⟩ := ownsRow_slice ho5; obtain ⟨b5, hs5, -, -⟩ := ownsRow_hasS ho5; have HS5 := Lib.hid hs5; have S5 := Lib.hid (((Span.refl 0 0 w4).alloc (.cells #[] 35)).grown hg5 (fun k hk => .inr (HOA.out.lt k hk).1)); clear ho5 hs5 hg5))
    have P5 := Lib.hid (P4.out.keep S5.out)
    have B5 := Lib.hid (S5.out.below B4.out (.inl (Nat.le_refl _)) B4.out.size)
    have HS45 := Lib.hid (HS4.out.span S5.out (.inl (Nat.le_refl _)))
    have Z5 := Lib.hid S5.out.size
    clear HOA P4 B4 HS4 S5
    refine (framesOf_any ys true b4 _ _ _ w5 HS45.out (by have := HM30.out; have := HM.out; omega)).mono ?_
    rintro _ w6 ⟨v6, v7, Fs, R, m6, b7, rfl, hcat, hR, ho6, hb6, hm6, hs7, s6⟩
    obtain ⟨A6, q6, rfl⟩ := ownsRow_slice ho6
    obtain ⟨A7, q7, rfl, -, -⟩ := id hs7
    obtain ⟨b6, hs6, -, hb6'⟩ := ownsRow_hasFr ho6
    have HS6 := Lib.hid (hs6.upto (hi' := m6) (fun h0 => hb6 _ (hb6' h0)))
    have HS7 := Lib.hid hs7
    have HC6 := Lib.hid (show Fs.flatMap Fr.l ++ R = ys ∧ R.length < 8 from ⟨hcat, hR⟩)
    have Z6 := Lib.hid (show w5.heap.size ≤ m6 ∧ w5.heap.size ≤ w6.heap.size from ⟨hm6, s6.size⟩)
    have P6 := Lib.hid (P5.out.keep s6)
    have B6 := Lib.hid (s6.below B5.out (.inl (Nat.le_refl _)) B5.out.size)
    have HS46 := Lib.hid (HS45.out.span s6 (.inl (Nat.le_refl _)))
    have HS56 := Lib.hid (HS5.out.span s6 (.inl (Nat.le_refl _)))
    clear hcat hR ho6 hb6 hm6 hs7 s6 hs6 hb6' P5 B5 HS45 HS5
    go_wp2_with fail
    refine (framesOf_any ys true b4 _ _ _ w6 HS46.out (by have := HM30.out; have := HM.out; omega)).mono ?_
    rintro _ w7 ⟨v8, v9, Gs, S, m7, b9, rfl, hcat, hR, ho8, hb8, hm7, hs9, s7⟩
    obtain ⟨A8, q8, rfl⟩ := ownsRow_slice ho8
    obtain ⟨A9, q9, rfl, -, -⟩ := id hs9
    obtain ⟨b8, hs8, -, hb8'⟩ := ownsRow_hasFr ho8
    have HS8 := Lib.hid (hs8.upto (hi' := m7) (fun h0 => hb8 _ (hb8' h0)))
    have HS9 := Lib.hid hs9
    have HC7 := Lib.hid (chop_same HC6.out.1 hcat HC6.out.2 hR)
    have HC8 := Lib.hid (show Gs.flatMap Fr.l ++ S = ys ∧ S.length < 8 from ⟨hcat, hR⟩)
    have Z7 := Lib.hid (show w6.heap.size ≤ m7 ∧ w6.heap.size ≤ w7.heap.size from ⟨hm7, s7.size⟩)
    have P7 := Lib.hid (P6.out.keep s7)
    have B7 := Lib.hid (s7.below B6.out (.inl (Nat.le_refl _)) B6.out.size)
    have HS47 := Lib.hid (HS46.out.span s7 (.inl (Nat.le_refl _)))
    have HS57 := Lib.hid (HS56.out.span s7 (.inl (Nat.le_refl _)))
    have HS67 := Lib.hid (HS6.out.keep s7)
    have HS77 := Lib.hid (HS7.out.span s7 (.inl (Nat.le_refl _)))
    clear hcat hR ho8 hb8 hm7 hs9 s7 hs8 hb8' P6 B6 HS46 HS56 HS6 HS7
    obtain ⟨fl, hfl⟩ : ∃ t, t = Fs.length := ⟨_, rfl⟩
    obtain ⟨gl, hgl⟩ : ∃ t, t = Gs.length := ⟨_, rfl⟩
    obtain ⟨rl, hrl⟩ : ∃ t, t = R.length := ⟨_, rfl⟩
    obtain ⟨sl, hsl'⟩ : ∃ t, t = S.length := ⟨_, rfl⟩
    have HIR := Lib.hid (HS77.out.inside hrl.symm)
    rw [← hfl] at HS67
    rw [← hgl] at HS8
    rw [← hrl] at HS77
    rw [← hsl'] at HS9
    rw [← hfl, ← hgl, ← hrl, ← hsl']
    have HFL := Lib.hid hfl
    have HGL := Lib.hid hgl
    have HRL := Lib.hid hrl
    have HSL := Lib.hid hsl'
    have j1 : (m : Int) ≤ 30 := by have := HM30.out; omega
    have j2 : (rl : Int) ≤ 8 := by have := HC6.out.2; omega
    clear hfl hgl hrl hsl'
    go_wp2_with fail
    go_loopw [10, 49] (fun _ c wr => ∃ (k : Nat) (L' : List Cx), k ≤ m ∧ c = .int .i64 k ∧ L'.length = m ∧ HasS cxV true b4 w3.heap.size w4.heap.size wr (.slice A4 m q4) L' ∧ Sp b4 m w7 wr) (fun _ c _ => m - (intOf c).toNat)
    case atStart => exact ⟨0, ys, Nat.zero_le _, rfl, HM.out.symm, HS47.out, Sp.refl _ _ _⟩
    case round =>
      obtain ⟨k, L', hk, rfl, hl', hx', hsp'⟩ := hrel
      have HL' := Lib.hid hl'
      have HX' := Lib.hid hx'
      have SP8 := Lib.hid hsp'
      clear hl' hx' hsp'
      by_cases hlt : k < m
      · as_aux_lemma =>
        have HLT := Lib.hid hlt
        obtain ⟨off, rfl, -, -, -⟩ := HX'.out.addrT (by rw [HL'.out]; omega)
        obtain ⟨⟨u0, hck⟩, hfz⟩ := HX'.out.cellT (j := k) (by rw [HL'.out]; exact hlt)
        go_wp2_with fail
        go_roundw
        case rel => exact ⟨k + 1, L'.set k (1117388800, 0), HLT.out, by go_num, by rw [List.length_set]; exact HL'.out, HX'.out.put k (1117388800, 0) (by rw [HL'.out]; exact HLT.out), SP8.out.put HLT.out _ _⟩
        case measure => have := HLT.out; simp [intOf]; omega
      · as_aux_lemma =>
        have hkm : m = k := by omega
        subst hkm
        clear hk hlt HL' HX'
        obtain ⟨w8, rfl⟩ : ∃ t, t = wr := ⟨_, rfl⟩
        have HS58 := Lib.hid (SP8.out.keepS HS57.out HI4.out (.inr (Nat.le_refl _)))
        have HS68 := Lib.hid (SP8.out.keepF HS67.out HI4.out (.inr Z5.out))
        have HS78 := Lib.hid (SP8.out.keepS HS77.out HI4.out (.inr (by have := Z5.out; have := Z6.out; omega)))
        have HS88 := Lib.hid (SP8.out.keepF HS8.out HI4.out (.inr (by have := Z5.out; have := Z6.out; omega)))
        have HS98 := Lib.hid (SP8.out.keepS HS9.out HI4.out (.inr (by have := Z5.out; have := Z6.out; have := Z7.out; omega)))
        have P8 := Lib.hid (P7.out.sp SP8.out (fun h0 => by have := HI4.out h0; have := Z3.out; omega))
        have B8 := Lib.hid (SP8.out.below B7.out (fun h0 => by have := HI4.out h0; have := Z3.out; have := HNT.out; omega) B7.out.size)
        have Z8 := Lib.hid SP8.out.size
        clear HS47 HS57 HS67 HS77 HS8 HS9 P7 B7 SP8
        go_wp2_with fail
        go_loopw [11, 58] (fun _ c wr => ∃ (k : Nat) (L' : List Cx), k ≤ rl ∧ c = .int .i64 k ∧ L'.length = rl ∧ HasS cxV true b7 m6 w6.heap.size wr (.slice A7 rl q7) L' ∧ Sp b7 rl w8 wr) (fun _ c _ => rl - (intOf c).toNat)
        case atStart => exact ⟨0, R, Nat.zero_le _, rfl, HRL.out.symm, HS78.out, Sp.refl _ _ _⟩
        case round =>
          obtain ⟨k, L', hk, rfl, hl', hx', hsp'⟩ := hrel
          have HL' := Lib.hid hl'
          have HX' := Lib.hid hx'
          have SP9 := Lib.hid hsp'
          clear hl' hx' hsp'
          by_cases hlt : k < rl
          · as_aux_lemma =>
            have HLT := Lib.hid hlt
            obtain ⟨off, rfl, -, -, -⟩ := HX'.out.addrT (by rw [HL'.out]; omega)
            obtain ⟨⟨u0, hck⟩, hfz⟩ := HX'.out.cellT (j := k) (by rw [HL'.out]; exact hlt)
            go_wp2_with fail
            go_roundw
            case rel => exact ⟨k + 1, L'.set k (1113325568, 0), HLT.out, by go_num, by rw [List.length_set]; exact HL'.out, HX'.out.put k (1113325568, 0) (by rw [HL'.out]; exact HLT.out), SP9.out.put HLT.out _ _⟩
            case measure => have := HLT.out; simp [intOf]; omega
          · as_aux_lemma =>
            have hkm : rl = k := by omega
            subst hkm
            clear hk hlt HL' HX'
            obtain ⟨w9, rfl⟩ : ∃ t, t = wr := ⟨_, rfl⟩
            have HS59 := Lib.hid (SP9.out.keepS HS58.out HIR.out (.inl Z6.out.1))
            have HS69 := Lib.hid (SP9.out.keepF HS68.out HIR.out (.inl (Nat.le_refl _)))
            have HS89 := Lib.hid (SP9.out.keepF HS88.out HIR.out (.inr (Nat.le_refl _)))
            have HS99 := Lib.hid (SP9.out.keepS HS98.out HIR.out (.inr Z7.out.1))
            have P9 := Lib.hid (P8.out.sp SP9.out (fun h0 => by have := HIR.out h0; have := Z3.out; have := Z4.out; have := Z5.out; have := Z6.out; omega))
            have B9 := Lib.hid (SP9.out.below B8.out (fun h0 => by have := HIR.out h0; have := Z3.out; have := Z4.out; have := Z5.out; have := Z6.out; have := HNT.out; omega) B8.out.size)
            have Z9 := Lib.hid (show NT < w9.heap.size by have := SP9.out.size; have := Z8.out; have := Z3.out; have := Z4.out; have := Z5.out; have := Z6.out; have := Z7.out; omega)
            have hfg : fl = gl := by rw [HFL.out, HGL.out]; exact HC7.out.1
            have hrs : rl = sl := by rw [HRL.out, HSL.out]; exact HC7.out.2.1
            subst hfg
            subst hrs
            have SMG := fun v b lo hi W h g => samplesOf_any Gs b lo hi v W h g
            have SMF := fun v b lo hi W h g => samplesOf_any Fs b lo hi v W h g
            obtain ⟨Xs, hXs⟩ : ∃ Xs, Xs = Fs.flatMap Fr.l := ⟨_, rfl⟩
            have hXG : Gs.flatMap Fr.l = Xs := by rw [hXs]; exact HC7.out.2.2.symm
            rw [hXG] at SMG
            rw [← hXs] at SMF
            have HXS : Hid (Xs ++ S = ys) := Lib.hid (by rw [← hXG]; exact HC8.out.1)
            have HXL : Hid (m = Xs.length + rl) := Lib.hid (by rw [HM.out, ← HXS.out, List.length_append, HSL.out])
            have HFF : Hid (Fs.length ≤ 524288 ∧ Gs.length ≤ 524288) := Lib.hid (by
              have h1 := HXL.out
              have h2 := HM30.out
              have h3 := congrArg List.length hXG
              have h4 := congrArg List.length hXs
              rw [flatL_length] at h3 h4
              omega)
            have HSMG := Lib.hid SMG
            have HSMF := Lib.hid SMF
            obtain ⟨xl, hxl⟩ : ∃ t, t = Xs.length := ⟨_, rfl⟩
            have HXX := Lib.hid hxl
            rw [← hxl] at HXL
            have HTK := Lib.hid (HS59.out.takeA (k := xl) (by rw [← HM.out, HXL.out]; omega))
            have HTX : Hid (ys.take xl = Xs) := Lib.hid (by rw [← HXS.out, hxl]; exact List.take_left' rfl)
            rw [HTX.out] at HTK
            have hq5 : m ≤ q5 := by obtain ⟨_, _, e, hc, _⟩ := HS59.out; injection e with e1 e2 e3; have := HM.out; omega
            have hw1 : IntKind.i64.wrap ((m : Int) - (rl : Int)) = (xl : Int) := by rw [HXL.out]; rw [show ((xl + rl : Nat) : Int) - (rl : Int) = (xl : Int) by omega]; exact IntWalk.i64_in _ (by have := HXL.out; have := HM30.out; omega)
            have hw2 : (0 : Int) ≤ (xl : Int) := by omega
            have hw3 : (xl : Int) ≤ (q5 : Int) := by have := HXL.out; omega
            clear SMG SMF hXs hXG hxl HS58 HS68 HS78 HS88 HS98 P8 B8 SP9 HTX hq5
            go_upto_region 18 with fail
            go_cut [91] (fun s wx => s = .bool false ∧ Span 0 0 w9 wx)
            case first =>
              have HG9 := Lib.hid (HS89.out.keep ((Span.refl 0 0 w9).drew))
              go_region_held3 (fun _ => True)
                (exact trivial)
                ((first
                  | (go_at_call 8; (with_reducible refine (HSMG.out (.slice A8 fl q8) _ _ _ w9.drew HG9.out HFF.out.2).mono ?_); rintro _ wa ⟨va, rfl, hoa, sa⟩; rw [← HXX.out] at hoa; obtain ⟨Aa, qa, rfl⟩ := ownsRow_slice hoa; have HOA : Hid (wa.ownsRow w9.heap.size 35 1 (.slice Aa xl qa) xl (Xs.map cxV)) := hoa; have SA := Lib.hid (show Span 0 0 w9 wa from sa.undrawn' (n := 1)); have HS9a := Lib.hid (HS99.out.span SA.out (.inl (Nat.le_refl _))); clear hoa sa)
                  | ((refine step_append_anyA cxV_one ?hw (.tmp 72) (.tmp 73) 23 rfl w9.heap.size 35 ip (.complex .f32 0 0) 8 Try.underlying23 hip hzp hsp hbp rfl _ _ _ rfl HOA.out HS9a.out rfl ?c1 ?c2 ?c3 ?_; (case hw => first | rfl | (simp [Region.wanted, yielded]; done) | go_simp); (case c1 => have := HXL.out; have := HM30.out; have := HXX.out; have := HSL.out; unfold maxLen; omega); (case c2 => have := HXL.out; have := HM30.out; have := HXX.out; have := HSL.out; omega); (case c3 => exact SA.out.size); intro vb wb hob hgb; rw [HXX.out, ← List.map_append, ← List.length_append, HXS.out, ← HM.out] at hob; obtain ⟨Ab, qb, rfl⟩ := ownsRow_slice hob; obtain ⟨bb, hsb, -, -⟩ := ownsRow_hasS hob; have HSb := Lib.hid hsb; have SB := Lib.hid (SA.out.grown hgb (fun k hk => .inr (HOA.out.lt k hk).1)); have HS5b := Lib.hid (HS59.out.span SB.out (.inl (Nat.le_refl _))); clear hob hsb hgb))
                  | (go_at_call 7; (with_reducible refine (makeSame_self ys _ _ _ _ _ _ _ _ (.slice Ab m qb) (.slice A5 m q5) wb HSb.out HS5b.out (by rw [← HM.out]; have := HM30.out; omega)).mono ?_); rintro _ _ ⟨nd, rfl, rfl⟩; have SC := Lib.hid (SB.out.drewN nd); have HFc := Lib.hid (HS69.out.keep SC.out); have HTc := Lib.hid (HTK.out.span SC.out (.inl (Nat.le_refl _))))
                  | (go_at_call 8; (with_reducible refine (HSMF.out (.slice A6 fl q6) _ _ _ (wb.drewN nd) HFc.out HFF.out.1).mono ?_); rintro _ wd ⟨vd, rfl, hod, sd⟩; rw [← HXX.out] at hod; obtain ⟨Ad, qd, rfl⟩ := ownsRow_slice hod; obtain ⟨bd, hsd, -, -⟩ := ownsRow_hasS hod; have HSd := Lib.hid hsd; have SD := Lib.hid (SC.out.trans sd); have HTd := Lib.hid (HTc.out.span sd (.inl (Nat.le_refl _))); clear hod hsd sd)
                  | (go_at_call 7; (with_reducible refine (makeSame_self Xs _ _ _ _ _ _ _ _ (.slice Ad xl qd) (.slice A5 xl q5) wd HSd.out HTd.out (by rw [← HXX.out]; have := HXL.out; have := HM30.out; omega)).mono ?_); rintro _ _ ⟨ne, rfl, rfl⟩; have SE := Lib.hid (SD.out.drewN ne))))
              all_goals
                go_wp2_with fail
                go_meet
                exact ⟨rfl, SE.out⟩
            case rest =>
              obtain ⟨rfl, hsx⟩ := hcut
              have P10 := Lib.hid (P9.out.keep hsx)
              have B10 := Lib.hid (hsx.below B9.out (.inl (Nat.le_refl _)) B9.out.size)
              have Z10 := Lib.hid (Nat.lt_of_lt_of_le Z9.out hsx.size)
              clear hsx P9 B9 Z9 HS59 HS69 HS89 HS99 HSMG HSMF HTK HXS HXL HXX HFF HC6 HC7 HC8 HIR HI4 Z3 Z4 Z5 Z6 Z7 Z8 HNT2 HFL HGL HRL HSL HM HM30 hw1 hw2 hw3
              obtain ⟨w10, rfl⟩ : ∃ t, t = wc := ⟨_, rfl⟩
              have cx := PC.out _ P10.out
              go_wp2_with fail
              refine (TX.out _ P10.out).mono ?_
              rintro _ w11 ⟨rfl, s11⟩
              have P11 := Lib.hid (P10.out.keep s11)
              have B11 := Lib.hid (s11.below B10.out (.inl (Nat.le_refl _)) B10.out.size)
              have Z11 := Lib.hid (Nat.lt_of_lt_of_le Z10.out s11.size)
              clear s11 cx P10 B10 Z10
              have cx := PC.out _ P11.out
              have j3 : (pl : Int) ≤ 16 := by have := HLE.out.2; omega
              go_wp2_with fail
              clear cx
              go_loopw [13, 14, 15, 16, 17, 18, 19, 97] (fun _ _ _ _ _ _ _ c wr => ∃ (k : Nat), k ≤ pl ∧ c = .int .i64 k ∧ Span 0 0 w11 wr) (fun _ _ _ _ _ _ _ c _ => pl - (intOf c).toNat)
              case atStart => exact ⟨0, Nat.zero_le _, rfl, Span.refl _ _ _⟩
              case round =>
                obtain ⟨wr0, rfl⟩ : ∃ t, t = wr := ⟨_, rfl⟩
                obtain ⟨k, hk, rfl, hsp⟩ := hrel
                have HSP := Lib.hid hsp
                have Pr := Lib.hid (P11.out.keep hsp)
                have Zr := Lib.hid (Nat.lt_of_lt_of_le Z11.out hsp.size)
                clear hsp
                by_cases hlt : k < pl
                · as_aux_lemma =>
                  have HLT := Lib.hid hlt
                  have C := fun W h => HWO.out W k h (by have := HLE.out.2; omega)
                  have hx256 := HWN.out k
                  obtain ⟨xs, hxs⟩ : ∃ xs, xs = (winP p k).getD [] := ⟨_, rfl⟩
                  obtain ⟨t, ht⟩ : ∃ t, t = (winP p k).isSome := ⟨_, rfl⟩
                  unfold WinO at C
                  rw [← hxs] at C hx256
                  rw [← ht] at C
                  have HC := Lib.hid C
                  have HX256 := Lib.hid hx256
                  obtain ⟨xl, hxl⟩ : ∃ t, t = xs.length := ⟨_, rfl⟩
                  have HXL := Lib.hid hxl
                  have j4 : (xl : Int) ≤ 256 := by omega
                  clear C hxs ht hx256 hxl hlt
                  have cx := PC.out _ Pr.out
                  go_wp2_with fail
                  refine (HC.out _ Pr.out).mono ?_
                  rintro _ wa ⟨Aw, qw, rfl, how, sa⟩
                  rw [← HXL.out] at how ⊢
                  obtain ⟨bw, hsw, -, -⟩ := ownsRow_hasS how
                  have HOW := Lib.hid how
                  have HSW := Lib.hid hsw
                  have SA := Lib.hid sa
                  have HOE := Lib.hid (World.ownsRow_made (base := wa.heap.size) (e := 35) (size := 1) wa #[] 0 (Nat.le_refl _) (Nat.zero_le _) rfl)
                  obtain ⟨m3, hm3⟩ : ∃ t, t = xl + 3 := ⟨_, rfl⟩
                  have HM3E := Lib.hid hm3
                  have j5 : (m3 : Int) ≤ 259 := by omega
                  clear how hsw sa cx hm3
                  go_upto_region 25 with fail
                  go_wp2_with (first
                    | (at_builtin; (refine wpList_append_any cxV_one rfl (.tmp 106) (.tmp 107) 23 rfl wa.heap.size 35 ip (.complex .f32 0 0) 8 Try.underlying23 hip hzp hsp hbp rfl _ _ _ rfl HOE.out (HSW.out.alloc (.cells #[] 35)) rfl ?c1 ?c2 ?c3 ?_; (case c1 => have := HXL.out; have := HX256.out; unfold maxLen; omega); (case c2 => have := HXL.out; have := HX256.out; omega); (case c3 => simp); intro v5 wb ho5 hg5 _; rw [Nat.zero_add, List.nil_append, ← HXL.out] at ho5; obtain ⟨A5', q5', rfl⟩ := ownsRow_slice ho5; obtain ⟨bB, hsb, -, -⟩ := ownsRow_hasS ho5; have HSB := Lib.hid hsb; have S5 := Lib.hid (((Span.refl 0 0 wa).alloc (.cells #[] 35)).grown hg5 (fun k hk => .inr (HOE.out.lt k hk).1)); have HOWb := Lib.hid (ownsRow_keep HOW.out S5.out); have H3 := Lib.hid (three_hasS wb (1065353216, 0) (1073741824, 0) (1077936128, 0)); clear ho5 hsb hg5))
                    | (at_builtin; (refine wpList_append_any cxV_one rfl (.tmp 109) (.tmp 110) 23 rfl wr0.heap.size 35 ip (.complex .f32 0 0) 8 Try.underlying23 hip hzp hsp hbp rfl _ _ _ rfl (HOWb.out.alloc (.cells #[.complex .f32 1065353216 0, .complex .f32 1073741824 0, .complex .f32 1077936128 0] 35)) H3.out rfl ?c1 ?c2 ?c3 ?_; (case c1 => have := HXL.out; have := HX256.out; simp only [List.length_cons, List.length_nil]; unfold maxLen; omega); (case c2 => have := HXL.out; have := HX256.out; simp only [List.length_cons, List.length_nil]; omega); (case c3 => have := SA.out.size; have := S5.out.size; simp; omega); intro v6 w6 ho6 hg6 hat6; have ho6' : w6.ownsRow wr0.heap.size 35 1 v6 m3 ((xs ++ [(1065353216, 0), (1073741824, 0), (1077936128, 0)]).map cxV) := (by rw [List.map_append, HM3E.out]; exact ho6); clear ho6; obtain ⟨A6', q6', rfl⟩ := ownsRow_slice ho6'; have HO6 := Lib.hid ho6'; have HG6 := Lib.hid hg6; have HA6 := Lib.hid hat6; clear ho6' hg6 hat6)))
                  have ho6 := HO6.out
                  obtain ⟨bW, hsW, -, hbW0⟩ := ownsRow_hasS ho6
                  have hbW := hbW0 (by simp)
                  have HBW : Hid ((wr0.heap.size ≤ bW ∧ bW < wa.heap.size) ∨ wb.heap.size ≤ bW) := Lib.hid (by
                    rcases HA6.out with h | h
                    · rw [hbW] at h
                      exact .inl (HOW.out.lt bW h.symm)
                    · rw [hbW] at h
                      injection h with h
                      right
                      rw [h]
                      simp)
                  have hrW : wr0.heap.size ≤ bW := (ho6.lt bW hbW).1
                  have HRW := Lib.hid hrW
                  have hle : (xs ++ [((1065353216, 0) : Cx), (1073741824, 0), (1077936128, 0)]).length = m3 := by rw [List.length_append, ← HXL.out, HM3E.out]; rfl
                  have HSW6 := Lib.hid hsW
                  have HM3 := Lib.hid hle
                  have HSB6 := Lib.hid ((HSB.out.alloc (.cells #[.complex .f32 1065353216 0, .complex .f32 1073741824 0, .complex .f32 1077936128 0] 35)).grownE HG6.out (fun h0 k' hk' => by
                    have h1 := HSB.out.inside rfl h0
                    have h2 := (HOW.out.lt k' hk').2
                    omega))
                  have S6 := Lib.hid ((((SA.out.trans S5.out)).alloc (.cells #[.complex .f32 1065353216 0, .complex .f32 1073741824 0, .complex .f32 1077936128 0] 35)).grown HG6.out (fun k hk => .inr (HOW.out.lt k hk).1))
                  have P6' := Lib.hid (Pr.out.keep S6.out)
                  clear ho6 hsW hbW hbW0 hrW hle HSW HOE HOW HOWb H3 HO6 HG6 HA6 SA S5 HSB
                  go_loopw [17, 114] (fun _ c wr => ∃ (k : Nat) (L' : List Cx), k ≤ m3 ∧ c = .int .i64 k ∧ L'.length = m3 ∧ HasS cxV true bW wr0.heap.size w6.heap.size wr (.slice A6' m3 q6') L' ∧ Sp bW m3 w6 wr) (fun _ c _ => m3 - (intOf c).toNat)
                  case atStart => exact ⟨0, _, Nat.zero_le _, rfl, HM3.out, HSW6.out, Sp.refl _ _ _⟩
                  case round =>
                    obtain ⟨k, L', hk, rfl, hl', hx', hsp'⟩ := hrel
                    have HL' := Lib.hid hl'
                    have HX' := Lib.hid hx'
                    have SP7 := Lib.hid hsp'
                    clear hl' hx' hsp'
                    by_cases hlt : k < m3
                    · as_aux_lemma =>
                      have HLT := Lib.hid hlt
                      obtain ⟨off, rfl, -, -, -⟩ := HX'.out.addrT (by rw [HL'.out]; omega)
                      obtain ⟨⟨u0, hck⟩, hfz⟩ := HX'.out.cellT (j := k) (by rw [HL'.out]; exact hlt)
                      go_wp2_with fail
                      go_roundw
                      case rel => exact ⟨k + 1, L'.set k (1120272384, 0), HLT.out, by go_num, by rw [List.length_set]; exact HL'.out, HX'.out.put k (1120272384, 0) (by rw [HL'.out]; exact HLT.out), SP7.out.put HLT.out _ _⟩
                      case measure => have := HLT.out; simp [intOf]; omega
                    · as_aux_lemma =>
                      have hkm : m3 = k := by omega
                      subst hkm
                      clear hk hlt HL' HX'
                      obtain ⟨w7, rfl⟩ : ∃ t, t = wr := ⟨_, rfl⟩
                      have HSB7 := Lib.hid (SP7.out.keepN HSB6.out (fun h0 => by have := HSB6.out.inside rfl h0; have := HBW.out; omega))
                      have P7 := Lib.hid (P6'.out.sp SP7.out (fun _ => by have := HRW.out; have := Zr.out; omega))
                      have S7 : Hid (Span 0 0 w11 w7) := Lib.hid (by
                        have h1 := HSP.out.trans S6.out
                        rcases SP7.out with ⟨_, s⟩ | ⟨_, s⟩
                        · exact h1.trans s
                        · have h2 := HRW.out
                          have h3 := HSP.out.size
                          exact ⟨s.os.trans h1.os, s.tape.trans h1.tape, s.output.trans h1.output, Nat.le_trans h1.size s.size, fun j hj hn => (s.block j (Nat.lt_of_lt_of_le hj h1.size) (by omega)).trans (h1.block j hj hn)⟩)
                      clear HSW6 HSB6 P6' S6 SP7 HBW HRW HM3 HM3E
                      have cx := PC.out _ P7.out
                      go_wp2_with fail
                      refine (HC.out _ P7.out).mono ?_
                      rintro _ w8 ⟨Ax, qx, rfl, hox, sx⟩
                      rw [← HXL.out] at hox ⊢
                      obtain ⟨bx, hsx, -, -⟩ := ownsRow_hasS hox
                      have HSX := Lib.hid hsx
                      have HSB8 := Lib.hid (HSB7.out.span sx (.inl (Nat.le_refl _)))
                      have P8 := Lib.hid (P7.out.keep sx)
                      have S8 := Lib.hid (S7.out.trans sx)
                      clear hox hsx sx HSB7 P7 S7 cx
                      cases t with
                      | false =>
                        go_wp2_with fail
                        refine (makeSame_self xs _ _ _ _ _ _ _ _ _ _ _ HSX.out HSB8.out (by have := HX256.out; omega)).mono ?_
                        rintro _ _ ⟨nd, rfl, rfl⟩
                        have P9 := Lib.hid (P8.out.keep ((Span.refl 0 0 w8).drewN nd))
                        have S9 := Lib.hid (S8.out.drewN nd)
                        have cx := PC.out _ P9.out
                        go_wp2_with fail
                        refine (TX.out _ P9.out).mono ?_
                        rintro _ w9' ⟨rfl, s9⟩
                        have S10 := Lib.hid (S9.out.trans s9)
                        clear s9 cx
                        go_wp2_with fail
                        go_roundw
                        case rel => exact ⟨k + 1, HLT.out, by go_num, S10.out⟩
                        case measure => have := HLT.out; simp [intOf]; omega
                      | true =>
                        go_wp2_with fail
                        refine (makeSame_self xs _ _ _ _ _ _ _ _ _ _ _ HSX.out HSB8.out (by have := HX256.out; omega)).mono ?_
                        rintro _ _ ⟨nd, rfl, rfl⟩
                        have P9 := Lib.hid (P8.out.keep ((Span.refl 0 0 w8).drewN nd))
                        have S9 := Lib.hid (S8.out.drewN nd)
                        have cx := PC.out _ P9.out
                        go_wp2_with fail
                        refine (TX.out _ P9.out).mono ?_
                        rintro _ w9' ⟨rfl, s9⟩
                        have S10 := Lib.hid (S9.out.trans s9)
                        clear s9 cx
                        go_wp2_with fail
                        go_roundw
                        case rel => exact ⟨k + 1, HLT.out, by go_num, S10.out⟩
                        case measure => have := HLT.out; simp [intOf]; omega
                · as_aux_lemma =>
                  have hkp : pl = k := by omega
                  subst hkp
                  have Br := Lib.hid (HSP.out.below B11.out (.inl (Nat.le_refl _)) B11.out.size)
                  clear hk hlt HWO HWN B11 P11 Z11 HSP HLE
                  have cx := PC.out _ Pr.out
                  go_wp2_with fail
                  refine (HCP.out _ Pr.out).mono ?_
                  rintro _ wA ⟨o, Aq, qq, Aq2, qq2, bq, rfl, hsq, hlq, sA⟩
                  obtain ⟨ss, hss⟩ : ∃ t, t = (compP p o).1 := ⟨_, rfl⟩
                  rw [← hss] at hsq hlq ⊢
                  obtain ⟨lq, hlq'⟩ : ∃ t, t = ss.length := ⟨_, rfl⟩
                  obtain ⟨l2, hl2⟩ : ∃ t, t = (compP p o).2.length := ⟨_, rfl⟩
                  have HIQ := Lib.hid (hsq.inside hlq'.symm)
                  rw [← hlq'] at hsq hlq
                  rw [← hlq', ← hl2]
                  have HLQ := Lib.hid hlq'
                  have HSQ := Lib.hid (hsq.alloc (.cells #[.slice Aq lq qq, .slice Aq2 l2 qq2] 45))
                  have PA := Lib.hid ((Pr.out.keep sA).keep ((Span.refl 0 0 wA).alloc (.cells #[.slice Aq lq qq, .slice Aq2 l2 qq2] 45)))
                  have BA := Lib.hid ((sA.below Br.out (.inl (Nat.le_refl _)) Br.out.size).alloc (Nat.le_trans Br.out.size sA.size) (.cells #[.slice Aq lq qq, .slice Aq2 l2 qq2] 45))
                  have ZA := Lib.hid (Nat.lt_of_lt_of_le Zr.out sA.size)
                  have XQ := Lib.hid (Bx.new wA #[.slice Aq lq qq, .slice Aq2 l2 qq2] 45)
                  have j7 : (lq : Int) ≤ 256 := by omega
                  clear hss hlq' hl2 hsq hlq sA cx Pr Br
                  go_upto_region 37 with fail
                  obtain ⟨NQ, hNQ⟩ : ∃ t, t = wA.heap.size := ⟨_, rfl⟩
                  rw [← hNQ] at XQ ⊢
                  have HIQ2 : Hid (0 < lq → wr0.heap.size ≤ bq ∧ bq < NQ) := Lib.hid (by rw [hNQ]; exact HIQ.out)
                  have hsq' := HSQ.out
                  rw [← hNQ] at hsq'
                  have HSQ' := Lib.hid hsq'
                  have ZQ : Hid (NT < wr0.heap.size) := Zr
                  clear hNQ hsq' HSQ HIQ ZA Zr
                  generalize wA.alloc (.cells #[.slice Aq lq qq, .slice Aq2 l2 qq2] 45) = wB at *
                  have cq := XQ.out.cells
                  go_wp2_with fail
                  clear cq
                  go_loopw [21, 148] (fun _ c wr => ∃ (k : Nat) (L' : List Cx), k ≤ lq ∧ c = .int .i64 k ∧ L'.length = lq ∧ HasS cxV true bq wr0.heap.size NQ wr (.slice Aq lq qq) L' ∧ Sp bq lq wB wr) (fun _ c _ => lq - (intOf c).toNat)
                  case atStart => exact ⟨0, ss, Nat.zero_le _, rfl, HLQ.out.symm, HSQ'.out, Sp.refl _ _ _⟩
                  case round =>
                    obtain ⟨k, L', hk, rfl, hl', hx', hsp'⟩ := hrel
                    have HL' := Lib.hid hl'
                    have HX' := Lib.hid hx'
                    have SP20 := Lib.hid hsp'
                    clear hl' hx' hsp'
                    by_cases hlt : k < lq
                    · as_aux_lemma =>
                      have HLT := Lib.hid hlt
                      obtain ⟨off, rfl, -, -, -⟩ := HX'.out.addrT (by rw [HL'.out]; omega)
                      obtain ⟨⟨u0, hck⟩, hfz⟩ := HX'.out.cellT (j := k) (by rw [HL'.out]; exact hlt)
                      have cq := (SP20.out.keepB XQ.out (fun h0 => by have := HIQ2.out h0; omega)).cells
                      go_wp2_with fail
                      go_roundw
                      case rel => exact ⟨k + 1, L'.set k (1107558400, 0), HLT.out, by go_num, by rw [List.length_set]; exact HL'.out, HX'.out.put k (1107558400, 0) (by rw [HL'.out]; exact HLT.out), SP20.out.put HLT.out _ _⟩
                      case measure => have := HLT.out; simp [intOf]; omega
                    · as_aux_lemma =>
                      have hkm : lq = k := by omega
                      subst hkm
                      clear hk hlt HL' HX'
                      obtain ⟨w20, rfl⟩ : ∃ t, t = wr := ⟨_, rfl⟩
                      have P20 := Lib.hid (PA.out.sp SP20.out (fun h0 => by have := HIQ2.out h0; have := ZQ.out; omega))
                      have B20 := Lib.hid (SP20.out.below BA.out (fun h0 => by have := HIQ2.out h0; have := ZQ.out; have := HNT.out; omega) BA.out.size)
                      clear HSQ' PA BA XQ SP20 HIQ2 ZQ HLQ HCP
                      have HY20 := Lib.hid (hbyUpA (Hby.out.below B20.out) B20.out.size)
                      go_wp2_with fail
                      refine (fresh_any A n c 5 w20 (by omega) (by omega) Hn.out HY20.out).mono ?_
                      rintro _ w21 ⟨A3', n3', c3', rfl, hn3, hy3, hb3⟩
                      have P21 := Lib.hid (P20.out.keep (Span.of_below hb3))
                      have B21 := Lib.hid ((Span.of_below hb3).below B20.out (.inl (Nat.le_refl _)) B20.out.size)
                      have HN3 := Lib.hid hn3
                      have HY3 := Lib.hid hy3
                      clear hn3 hy3 hb3 P20 B20 HY20
                      go_wp2_with fail
                      refine (makeRing_any A3' n3' c3' w21 (by have := HN3.out; omega) HY3.out).mono ?_
                      rintro _ w22 ⟨AR, NR, pR, iR, jR, bR, rs, rfl, hnR, hvR, hsR, hbR⟩
                      have XR := Lib.hid (Bx.new w22 #[.slice AR NR pR, .int .i64 (iR : Int), .int .i64 (jR : Int)] 52)
                      have HSR := Lib.hid (hsR.alloc (.cells #[.slice AR NR pR, .int .i64 (iR : Int), .int .i64 (jR : Int)] 52))
                      have P22 := Lib.hid ((P21.out.keep (Span.of_below hbR)).keep ((Span.refl 0 0 w22).alloc (.cells #[.slice AR NR pR, .int .i64 (iR : Int), .int .i64 (jR : Int)] 52)))
                      have B22 := Lib.hid (((Span.of_below hbR).below B21.out (.inl (Nat.le_refl _)) B21.out.size).alloc (Nat.le_trans B21.out.size hbR.size) (.cells #[.slice AR NR pR, .int .i64 (iR : Int), .int .i64 (jR : Int)] 52))
                      have HIT := Lib.hid (fun W (h : HasS cxV true bR w21.heap.size w22.heap.size W (.slice AR NR pR) rs) => itemsOf_any rs iR jR hvR true bR _ _ _ W h)
                      have HRL : Hid ((itemsR rs iR jR).length ≤ 16) := Lib.hid (by rw [itemsR_length]; have h1 := hvR.cnt; have h2 := hvR.most; simp only at h1 h2; omega)
                      clear hnR hvR hsR hbR P21 B21 HN3 HY3
                      go_upto_region 43 with fail
                      obtain ⟨NB, hNB⟩ : ∃ t, t = w22.heap.size := ⟨_, rfl⟩
                      rw [← hNB] at XR HSR HIT ⊢
                      have ZB : Hid (NB < (w22.alloc (.cells #[.slice AR NR pR, .int .i64 (iR : Int), .int .i64 (jR : Int)] 52)).heap.size) := Lib.hid (by rw [hNB]; simp)
                      have ZN : Hid (NT < (w22.alloc (.cells #[.slice AR NR pR, .int .i64 (iR : Int), .int .i64 (jR : Int)] 52)).heap.size) := Lib.hid P22.out.b.1
                      clear hNB
                      generalize w22.alloc (.cells #[.slice AR NR pR, .int .i64 (iR : Int), .int .i64 (jR : Int)] 52) = w23 at *
                      obtain ⟨its, hits⟩ : ∃ t, t = itemsR rs iR jR := ⟨_, rfl⟩
                      rw [← hits] at HIT HRL
                      clear hits
                      have cr := XR.out.cells
                      go_wp2_with fail
                      refine (HIT.out _ HSR.out).mono ?_
                      rintro _ w24 ⟨v24, b24, rfl, h24, s24⟩
                      obtain ⟨A24, q24, rfl, -, -⟩ := id h24
                      obtain ⟨il, hil⟩ : ∃ t, t = its.length := ⟨_, rfl⟩
                      have HI24 := Lib.hid (h24.inside hil.symm)
                      rw [← hil] at h24 ⊢
                      have HIL := Lib.hid hil
                      have HS24 := Lib.hid h24
                      have S24 := Lib.hid s24
                      have j8 : (il : Int) ≤ 16 := by have := HRL.out; omega
                      have HOE := Lib.hid (World.ownsRow_made (base := w24.heap.size) (e := 35) (size := 1) w24 #[] 0 (Nat.le_refl _) (Nat.zero_le _) rfl)
                      clear cr h24 s24 hil
                      go_wp2_with (at_builtin; go_loud (refine wpList_append_any cxV_one rfl _ _ 23 rfl w24.heap.size 35 ip (.complex .f32 0 0) 8 Try.underlying23 hip hzp hsp hbp rfl _ _ _ rfl HOE.out (HS24.out.alloc (.cells #[] 35)) rfl ?c1 ?c2 ?c3 ?_; (case c1 => have := HIL.out; have := HRL.out; unfold maxLen; omega); (case c2 => have := HIL.out; have := HRL.out; omega); (case c3 => simp); intro v25 w25 ho25 hg25 _; rw [Nat.zero_add, List.nil_append, ← HIL.out] at ho25; obtain ⟨A25, q25, rfl⟩ := ownsRow_slice ho25; obtain ⟨b25, hs25, -, -⟩ := ownsRow_hasS ho25; have HS25 := Lib.hid hs25; have S25 := Lib.hid (((Span.refl 0 0 w24).alloc (.cells #[] 35)).grown hg25 (fun k hk => .inr (HOE.out.lt k hk).1)); clear ho25 hs25 hg25))
                      have HS24' := Lib.hid (HS24.out.span S25.out (.inl (Nat.le_refl _)))
                      have P25 := Lib.hid ((P22.out.keep S24.out).keep S25.out)
                      have B25 := Lib.hid (S25.out.below (S24.out.below B22.out (.inl (Nat.le_refl _)) B22.out.size) (.inl (Nat.le_refl _)) (Nat.le_trans B22.out.size S24.out.size))
                      have XR25 := Lib.hid ((XR.out.keep S24.out).keep S25.out)
                      have HSR25 := Lib.hid ((HSR.out.span S24.out (.inl (Nat.le_refl _))).span S25.out (.inl (Nat.le_refl _)))
                      have ZW := Lib.hid (Nat.le_trans B22.out.size S24.out.size)
                      clear HOE HS24 P22 B22 XR HSR S25 S24
                      go_loopw [25, 166] (fun _ c wr => ∃ (k : Nat) (L' : List Cx), k ≤ il ∧ c = .int .i64 k ∧ L'.length = il ∧ HasS cxV true b24 w23.heap.size w24.heap.size wr (.slice A24 il q24) L' ∧ Sp b24 il w25 wr) (fun _ c _ => il - (intOf c).toNat)
                      case atStart => exact ⟨0, its, Nat.zero_le _, rfl, HIL.out.symm, HS24'.out, Sp.refl _ _ _⟩
                      case round =>
                        obtain ⟨k, L', hk, rfl, hl', hx', hsp'⟩ := hrel
                        have HL' := Lib.hid hl'
                        have HX' := Lib.hid hx'
                        have SP26 := Lib.hid hsp'
                        clear hl' hx' hsp'
                        by_cases hlt : k < il
                        · as_aux_lemma =>
                          have HLT := Lib.hid hlt
                          obtain ⟨off, rfl, -, -, -⟩ := HX'.out.addrT (by rw [HL'.out]; omega)
                          obtain ⟨⟨u0, hck⟩, hfz⟩ := HX'.out.cellT (j := k) (by rw [HL'.out]; exact hlt)
                          go_wp2_with fail
                          go_roundw
                          case rel => exact ⟨k + 1, L'.set k (1093664768, 0), HLT.out, by go_num, by rw [List.length_set]; exact HL'.out, HX'.out.put k (1093664768, 0) (by rw [HL'.out]; exact HLT.out), SP26.out.put HLT.out _ _⟩
                          case measure => have := HLT.out; simp [intOf]; omega
                        · as_aux_lemma =>
                          have hkm : il = k := by omega
                          subst hkm
                          clear hk hlt HL' HX'
                          obtain ⟨w26, rfl⟩ : ∃ t, t = wr := ⟨_, rfl⟩
                          have HS26 := Lib.hid (SP26.out.keepS HS25.out HI24.out (.inr (Nat.le_refl _)))
                          have HSR26 := Lib.hid (SP26.out.keepS HSR25.out HI24.out (.inl (Nat.le_of_lt ZB.out)))
                          have XR26 := Lib.hid (SP26.out.keepB XR25.out (fun h0 => by have := HI24.out h0; have := ZB.out; omega))
                          have P26 := Lib.hid (P25.out.sp SP26.out (fun h0 => by have := HI24.out h0; have := ZN.out; omega))
                          have B26 := Lib.hid (SP26.out.below B25.out (fun h0 => by have := HI24.out h0; have := ZN.out; have := HNT.out; omega) B25.out.size)
                          clear HS24' HS25 HSR25 XR25 P25 B25 SP26 HI24
                          have cx := PC.out _ P26.out
                          go_wp2_with fail
                          refine (TX.out _ P26.out).mono ?_
                          rintro _ w27 ⟨rfl, s27⟩
                          have cr := (XR26.out.keep s27).cells
                          have HSR27 := Lib.hid (HSR26.out.span s27 (.inl (Nat.le_refl _)))
                          have HS27 := Lib.hid (HS26.out.span s27 (.inl (Nat.le_refl _)))
                          have B27 := Lib.hid (s27.below B26.out (.inl (Nat.le_refl _)) B26.out.size)
                          clear s27 cx HS26 HSR26 XR26 P26 B26
                          go_wp2_with fail
                          refine (HIT.out _ HSR27.out).mono ?_
                          rintro _ w28 ⟨v28, b28, rfl, h28, s28⟩
                          have HS28 := Lib.hid h28
                          have HS28' := Lib.hid (HS27.out.span s28 (.inl (Nat.le_refl _)))
                          have B28 := Lib.hid (s28.below B27.out (.inl (Nat.le_refl _)) B27.out.size)
                          clear s28 h28 cr
                          go_wp2_with fail
                          refine (makeSame_self its _ _ _ _ _ _ _ _ _ _ _ HS28.out HS28'.out (by have := HRL.out; omega)).mono ?_
                          rintro _ _ ⟨nd, rfl, rfl⟩
                          have BF := Lib.hid (Below.drewN B28.out nd)
                          go_wp2_with fail
                          go_ret
                          exact ⟨rfl, BF.out⟩
  · have i0 : decide ((1048576 : Int) < (n : Int)) = true := by rw [decide_eq_true_iff]; omega
    clear hn h
    go_enter Try.func4, Try.ntmps4
    go_wp2_with fail
    go_ret
    exact ⟨rfl, Below.refl _ _⟩
end Go.Proofs.Ytfafkdpefdpnkaa
