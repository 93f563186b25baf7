/- Racks' literals: rows and boxes, world by world. Twice a whole number. The rack of FnSuperposed, while it is being made. -/
import Derived.Test.YtpiiflhdllpoiaaJq44
import Derived.Test.YtpiiflhdllpoiaaJq47
import Derived.Outline
import Derived.Test.YtpiiflhdllpoiaaJq43
import Derived.Test.YtpiiflhdllpoiaaJq46
import Derived.Deep.AppendLies
namespace Go.Proofs.Ytpiiflhdllpoiaa
section
open Go.RowKit

theorem HasC.made {α : Type} {fl : α → List Value} {s : Nat} (hf : ∀ x, (fl x).length = s) (L : List α) (w : World) (t : TypeId) (b : Nat) (hb : b = w.heap.size) : HasC s fl b 0 (w.heap.size + 1) (w.alloc (.cells (flatG fl L).toArray t)) (.slice (some ⟨b, 0, none⟩) L.length L.length) L := by
  subst hb
  refine ⟨_, L.length, rfl, Nat.le_refl _, fun hp => ⟨0, rfl, Nat.zero_le _, Nat.lt_succ_self _, by simp, fun j x i u hj hi => ?_⟩⟩
  have hi' : i < s := by have := (List.getElem?_eq_some_iff.1 hi).1; rw [hf] at this; exact this
  rw [World.cell?_alloc_new, Nat.zero_add, List.getElem?_toArray, flatG_get hf L j x i hj hi']
  exact hi
theorem Bx.made (w : World) (us : Array Value) (t : TypeId) (b : Nat) (hb : b = w.heap.size) : Bx b us (w.alloc (.cells us t)) := by subst hb; exact Bx.new ..
theorem Bx.d {b : Nat} {us : Array Value} {w : World} (h : Bx b us w) : Bx b us w.drew := h
theorem HasC.d {α : Type} {s : Nat} {fl : α → List Value} {b : Nat} {w : World} {v : Value} {L : List α} (h : HasC s fl b 0 w.heap.size w v L) : HasC s fl b 0 w.drew.heap.size w.drew v L := h
theorem HasC.a {α : Type} {s : Nat} {fl : α → List Value} {b : Nat} {w : World} {v : Value} {L : List α} (h : HasC s fl b 0 w.heap.size w v L) (o : Obj) : HasC s fl b 0 (w.alloc o).heap.size (w.alloc o) v L := (h.keep ((Span.refl 0 0 w).alloc o)).weak (Nat.le_refl _) (.inl (by simp))
theorem HasC.k {α : Type} {s : Nat} {fl : α → List Value} {b : Nat} {w w' : World} {v : Value} {L : List α} (h : HasC s fl b 0 w.heap.size w v L) (k : Span 0 0 w w') : HasC s fl b 0 w'.heap.size w' v L := (h.keep k).weak (Nat.le_refl _) (.inl k.size)
theorem HasC.st {α : Type} {s : Nat} {fl : α → List Value} {b B i : Nat} {w : World} {v : Value} {L : List α} (h : HasC s fl b 0 w.heap.size w v L) (u : Value) (hne : B ≠ b) : HasC s fl b 0 (w.setCell ⟨B, i, none⟩ u).heap.size (w.setCell ⟨B, i, none⟩ u) v L := (h.span (setSpan B i u w) (by omega)).weak (Nat.le_refl _) (.inl (setSpan B i u w).size)
theorem HasC.m {α : Type} {fl : α → List Value} {s : Nat} (hf : ∀ x, (fl x).length = s) (L : List α) (w : World) (t : TypeId) (b : Nat) (hb : b = w.heap.size) : HasC s fl b 0 (w.alloc (.cells (flatG fl L).toArray t)).heap.size (w.alloc (.cells (flatG fl L).toArray t)) (.slice (some ⟨b, 0, none⟩) L.length L.length) L := (HasC.made hf L w t b hb).weak (Nat.le_refl _) (.inl (by simp))
/-- A new row of structs, at the beginning of a block. -/
def RowAt {α : Type} (s : Nat) (fl : α → List Value) (Ls : List α) (n : Nat) (w : World) (v : Value) : Prop := ∃ b, v = .slice (some ⟨b, 0, none⟩) n n ∧ HasC s fl b 0 w.heap.size w v Ls
theorem RowAt.k {α : Type} {s : Nat} {fl : α → List Value} {Ls : List α} {n : Nat} {w w' : World} {v : Value} (h : RowAt s fl Ls n w v) (k : Span 0 0 w w') : RowAt s fl Ls n w' v := by
  obtain ⟨b, rfl, h⟩ := h
  exact ⟨b, rfl, h.k k⟩
end
section
open Ieee Go.RowKit

theorem sgn_twice (s : Bool) (U : Nat) : sgn s (2 * U) = 2 * sgn s U := by
  cases s <;> simp [sgn] <;> omega
theorem mul2_whole {x : Nat} {a : Int} (hx : Whole x a) (hc : (2 * a).natAbs < 16777216) : ∃ r, floatBits .mul .f32 1073741824 x = some r ∧ Whole r (2 * a) := by
  obtain ⟨_, s, h1, h2⟩ := hx
  have hr := rep_whole hc
  have hz : isU Ieee.single 1073741824 false ((2 : Int).natAbs * 2 ^ 149) := by
    have h := isU_fi (a := 2) (by decide)
    rwa [show fi 2 = 1073741824 by decide +kernel] at h
  have hm : (2 : Int).natAbs * 2 ^ 149 * (a.natAbs * 2 ^ 149) = (2 * a).natAbs * 2 ^ 149 * 2 ^ 149 := by
    rw [Int.natAbs_mul]
    generalize 2 ^ 149 = K
    simp only [Nat.mul_assoc, Nat.mul_left_comm]
  obtain ⟨z, g1, g2⟩ := mul_isU (K := 149) s_lp hz h1 hr hm
  have hn : (false ^^ s) = s := by cases s <;> rfl
  rw [hn] at g2
  obtain ⟨K, hK⟩ : ∃ K, K = 2 ^ 149 := ⟨_, rfl⟩
  rw [← hK] at g2 h2
  refine ⟨z, g1, whole_of hK hc g2 ?_⟩
  rw [Int.natAbs_mul, show (2 : Int).natAbs * a.natAbs * K = 2 * (a.natAbs * K) by rw [Nat.mul_assoc]; rfl, sgn_twice, h2, Int.mul_assoc]
theorem whole_zero_only {a : Int} (h : Whole 0 a) : a = 0 := by
  have h1 := order_whole h h
  have h0 := whole_fi (a := 0) (by decide)
  rw [show fi 0 = 0 by decide +kernel] at h0
  have h2 := order_whole h h0
  have h3 := order_whole h0 h0
  rw [h2] at h3
  injection h3 with h3
  simp only [compare, compareOfLessAndEq] at h3
  split at h3
  · simp at h3
  · split at h3
    · assumption
    · simp at h3
end
section
open Go.RowKit

theorem csOf_congr {fa fb : Nat → Nat} : ∀ {k : Nat}, (∀ i, i < k → fa i = fb i) → csOf fa k = csOf fb k
  | 0, _ => rfl
  | k + 1, h => by rw [csOf, csOf, csOf_congr (fun i hi => h i (by omega)), h k (by omega)]
theorem csOf_len (fa : Nat → Nat) : ∀ k, (csOf fa (k + 1)).length = 2 * k
  | 0 => rfl
  | k + 1 => by rw [csOf, List.length_append, csOf_len fa k, if_neg (by omega)]; simp; omega
theorem su_grown {w w1 : World} {row : Option Nat} (g : w.grownBy w1 row) : Keeps row.toList w w1 :=
  ⟨g.os, g.tape, g.output, g.size, fun k hk hn => g.block k hk (fun e => hn (by rw [← e]; simp))⟩

structure SuJ (ds fa : Nat → Nat) (vM vC : Value) (Ms : List Mw) (RB : Nat) (w0 : World) (km kc : Nat) (w : World) : Prop where
  dsl : ∀ i, ds i ≤ 3
  fal : ∀ i, 0 < i → fa i < i
  box : Bx RB #[vM, vC] w
  om : w.ownsRow (RB + 1) 33 11 vM km (flatG Mw.l Ms)
  oc : w.ownsRow (RB + 1) 40 2 vC (csOf fa kc).length (flatG cabC (csOf fa kc))
  ap : ∀ b, vM.ownBlock = some b → vC.ownBlock = some b → False
  len : Ms.length = km
  is : ∀ i x, Ms[i]? = some x → IsSD ds i x
  rings : ∀ i x, Ms[i]? = some x → 0 < ds i → ∃ bs, HasS cxV true bs (RB + 1) w.heap.size w (.slice x.S x.sn x.sp) (List.replicate (ds i) (0, 0)) ∧ vM.ownBlock ≠ some bs ∧ vC.ownBlock ≠ some bs
  span : Span 0 0 w0 w
  rb : w0.heap.size = RB

theorem SuJ.zero (w : World) (t : TypeId) : SuJ (fun _ => 0) (fun _ => 0) (.slice none 0 0) (.slice none 0 0) [] w.heap.size w 0 0 (w.alloc (.cells #[.slice none 0 0, .slice none 0 0] t)) :=
  ⟨fun _ => Nat.zero_le _, fun _ h => h, Bx.new .., World.ownsRow_nil .., World.ownsRow_nil .., (fun _ h _ => by cases h), rfl, (fun i x h => by simp at h), (fun i x h => by simp at h), (Span.refl 0 0 w).alloc _, rfl⟩
theorem SuJ.keep {ds fa : Nat → Nat} {vM vC : Value} {Ms : List Mw} {RB : Nat} {w0 : World} {km kc : Nat} {w w' : World} (h : SuJ ds fa vM vC Ms RB w0 km kc w) (s : Span 0 0 w w') : SuJ ds fa vM vC Ms RB w0 km kc w' :=
  ⟨h.dsl, h.fal, h.box.keep s, ownsRow_farK h.om s (.inl (Nat.le_refl _)), ownsRow_farK h.oc s (.inl (Nat.le_refl _)), h.ap, h.len, h.is, fun i x hx hd => by
    obtain ⟨bs, h1, h2, h3⟩ := h.rings i x hx hd
    exact ⟨bs, (h1.span s (.inl (Nat.le_refl _))).weak (Nat.le_refl _) (.inl s.size), h2, h3⟩, h.span.trans s, h.rb⟩
/-- With one module, and no cable. -/
theorem SuJ.one {ds fa : Nat → Nat} {vM vC : Value} {Ms : List Mw} {RB : Nat} {w0 : World} {w : World} (h : SuJ ds fa vM vC Ms RB w0 1 0 w) : SuJ ds fa vM vC Ms RB w0 1 1 w :=
  ⟨h.dsl, h.fal, h.box, h.om, h.oc, h.ap, h.len, h.is, h.rings, h.span, h.rb⟩

/-- A ring that stands apart stays. -/
theorem ring_stays {wb w6 : World} {row : Option Nat} {bs lo hi RB i d : Nat} {v u : Value} (h : HasS cxV true bs lo hi wb v (List.replicate d (0, 0))) (hgr : wb.grownBy w6 row) (hne : row ≠ some bs) (hRB : RB + 1 ≤ lo) : HasS cxV true bs (RB + 1) (w6.setCell ⟨RB, i, none⟩ u).heap.size (w6.setCell ⟨RB, i, none⟩ u) v (List.replicate d (0, 0)) :=
  ((h.same (fun hl => ⟨Nat.lt_of_lt_of_le hl hgr.size, hgr.block bs hl (fun e => hne e.symm)⟩)).span (setSpan RB i u w6) (.inr (.inr (.inl hRB)))).weak hRB (.inr (Nat.le_refl _))

theorem su_mod {ds fa : Nat → Nat} {vM vC : Value} {Ms : List Mw} {RB : Nat} {w0 : World} {k kc : Nat} {wr wb w6 : World} (h : SuJ ds fa vM vC Ms RB w0 k kc wr) (s : Span 0 0 wr wb) (d : Nat) (hd : d ≤ 3) (x : Mw) (hx : (d = 0 ∧ x = mSum) ∨ (0 < d ∧ ∃ A p, x = mDl d A p)) (hring : 0 < d → ∃ bs, HasS cxV true bs wr.heap.size wb.heap.size wb (.slice x.S x.sn x.sp) (List.replicate d (0, 0))) {g c : Nat}
    (ho : w6.ownsRow (RB + 1) 33 11 (.slice (some ⟨g, 0, none⟩) (k + 1) c) (k + 1) (flatG Mw.l Ms ++ x.l)) (hgr : wb.grownBy w6 vM.ownBlock) (hat : vM.ownBlock = some g ∨ g = wb.heap.size) :
    SuJ (fun j => if j = k then d else ds j) fa (.slice (some ⟨g, 0, none⟩) (k + 1) c) vC (Ms ++ [x]) RB w0 (k + 1) kc (w6.setCell ⟨RB, 0, none⟩ (.slice (some ⟨g, 0, none⟩) (k + 1) c)) := by
  have own := h.om.lt
  have ownC := h.oc.lt
  have hz := s.size
  have hRB := h.box.1
  have hg := ho.lt g rfl
  have hsplit : ∀ (i : Nat) (y : Mw), (Ms ++ [x])[i]? = some y → (i < k ∧ Ms[i]? = some y) ∨ (i = k ∧ y = x) := fun i y hy => by
    rcases Nat.lt_trichotomy i Ms.length with hlt | heq | hgt
    · rw [List.getElem?_append_left hlt] at hy; have := h.len; exact .inl ⟨by omega, hy⟩
    · subst heq
      rw [List.getElem?_append_right (Nat.le_refl _), Nat.sub_self] at hy
      simp at hy; exact .inr ⟨h.len, hy.symm⟩
    · rw [List.getElem?_eq_none (by simp; omega)] at hy; cases hy
  refine ⟨fun i => ?_, h.fal, ?_, ?_, ?_, fun b h1 h2 => ?_, by rw [List.length_append, h.len]; rfl, fun i y hy => ?_, fun i y hy hdi => ?_, ?_, h.rb⟩
  · show (if i = k then d else ds i) ≤ 3
    split
    · exact hd
    · exact h.dsl i
  · have h1 := ((h.box.keep s).grown hgr (fun e => by have := own _ e; omega)).set 0 (.slice (some ⟨g, 0, none⟩) (k + 1) c) (by simp)
    simpa using h1
  · have h1 := ownsRow_span ho (setSpan RB 0 (.slice (some ⟨g, 0, none⟩) (k + 1) c) w6) (fun b hb => by rw [ownBlock_slice] at hb; injection hb with hb; omega)
    have e : flatG Mw.l (Ms ++ [x]) = flatG Mw.l Ms ++ x.l := by unfold flatG; simp
    rw [e]; exact h1
  · have h4 := (ownsRow_farK h.oc s (.inl (Nat.le_refl _))).kept hgr (by
      cases hb : vC.ownBlock with
      | none => exact .inl rfl
      | some b => exact .inr (fun e => h.ap b e.symm hb))
    exact ownsRow_span h4 (setSpan RB 0 _ w6) (fun b hb => by have := h4.lt b hb; omega)
  · rw [ownBlock_slice] at h1
    injection h1 with h1
    subst h1
    rcases hat with h5 | h5
    · exact h.ap g h5 h2
    · have := ownC g h2; omega
  · rcases hsplit i y hy with ⟨hi, hy'⟩ | ⟨rfl, rfl⟩
    · have := h.is i y hy'
      unfold IsSD at this ⊢
      dsimp only
      rw [if_neg (show ¬ i = k by omega)]; exact this
    · unfold IsSD
      dsimp only
      rw [if_pos rfl]; exact hx
  · rcases hsplit i y hy with ⟨hi, hy'⟩ | ⟨rfl, rfl⟩
    · try dsimp only at hdi ⊢
      rw [if_neg (show ¬ i = k by omega)] at hdi ⊢
      obtain ⟨bs, h1, h2, h3⟩ := h.rings i y hy' hdi
      obtain ⟨_, _, _, _, hc⟩ := id h1
      obtain ⟨_, _, _, hb2, _⟩ := hc (by simpa using hdi)
      refine ⟨bs, ring_stays (h1.span s (.inl (Nat.le_refl _))) hgr h2 (Nat.le_refl _), fun e => ?_, h3⟩
      rw [ownBlock_slice] at e
      injection e with e
      subst e
      rcases hat with h5 | h5
      · exact h2 h5
      · omega
    · try dsimp only at hdi ⊢
      rw [if_pos rfl] at hdi ⊢
      obtain ⟨bs, h1⟩ := hring hdi
      obtain ⟨_, _, _, _, hc⟩ := id h1
      obtain ⟨_, _, hb1, hb2, _⟩ := hc (by simpa using hdi)
      refine ⟨bs, ring_stays h1 hgr (fun e => by have := own _ e; omega) (by omega), fun e => ?_, fun e => by have := ownC _ e; omega⟩
      rw [ownBlock_slice] at e
      injection e with e
      subst e
      rcases hat with h5 | h5
      · have := own _ h5; omega
      · omega
  · have kV : Keeps (RB :: vM.ownBlock.toList) wr (w6.setCell ⟨RB, 0, none⟩ (.slice (some ⟨g, 0, none⟩) (k + 1) c)) := ((Keeps.span s).trans ((su_grown hgr).weak (fun k hk => .inl (List.mem_cons_of_mem _ hk)))).setCell RB 0 (by simp) _
    refine kV.fresh h.span (fun b hb => ?_)
    have := h.rb
    rcases List.mem_cons.1 hb with rfl | hb
    · omega
    · have := own b (by simpa using hb); omega

theorem su_cab {ds fa : Nat → Nat} {vM vC : Value} {Ms : List Mw} {RB : Nat} {w0 : World} {k : Nat} {wr wb w6 : World} (h : SuJ ds fa vM vC Ms RB w0 (k + 1) k wr) (hk : 0 < k) (s : Span 0 0 wr wb) (a : Nat) (ha : a < k) {g c : Nat}
    (ho : w6.ownsRow (RB + 1) 40 2 (.slice (some ⟨g, 0, none⟩) ((csOf fa k).length + 2) c) ((csOf fa k).length + 2) (flatG cabC (csOf fa k) ++ (cabC (a, k) ++ cabC (k - 1, k)))) (hgr : wb.grownBy w6 vC.ownBlock) (hat : vC.ownBlock = some g ∨ g = wb.heap.size) :
    SuJ ds (fun j => if j = k then a else fa j) vM (.slice (some ⟨g, 0, none⟩) ((csOf fa k).length + 2) c) Ms RB w0 (k + 1) (k + 1) (w6.setCell ⟨RB, 1, none⟩ (.slice (some ⟨g, 0, none⟩) ((csOf fa k).length + 2) c)) := by
  have own := h.om.lt
  have ownC := h.oc.lt
  have hz := s.size
  have hRB := h.box.1
  have hg := ho.lt g rfl
  have ecs : csOf (fun j => if j = k then a else fa j) (k + 1) = csOf fa k ++ [(a, k), (k - 1, k)] := by
    rw [csOf, if_neg (by omega), csOf_congr (fb := fa) (fun i hi => by rw [if_neg (by omega)]), if_pos rfl]
  refine ⟨h.dsl, fun i hi => ?_, ?_, ?_, ?_, fun b h1 h2 => ?_, h.len, h.is, fun i y hy hdi => ?_, ?_, h.rb⟩
  · show (if i = k then a else fa i) < i
    split
    · rename_i e; subst e; exact ha
    · exact h.fal i hi
  · have h1 := ((h.box.keep s).grown hgr (fun e => by have := ownC _ e; omega)).set 1 (.slice (some ⟨g, 0, none⟩) ((csOf fa k).length + 2) c) (by simp)
    simpa using h1
  · have h4 := (ownsRow_farK h.om s (.inl (Nat.le_refl _))).kept hgr (by
      cases hb : vM.ownBlock with
      | none => exact .inl rfl
      | some b => exact .inr (fun e => h.ap b hb e.symm))
    exact ownsRow_span h4 (setSpan RB 1 _ w6) (fun b hb => by have := h4.lt b hb; omega)
  · have h1 := ownsRow_span ho (setSpan RB 1 (.slice (some ⟨g, 0, none⟩) ((csOf fa k).length + 2) c) w6) (fun b hb => by rw [ownBlock_slice] at hb; injection hb with hb; omega)
    rw [ecs]
    have e : flatG cabC (csOf fa k ++ [(a, k), (k - 1, k)]) = flatG cabC (csOf fa k) ++ (cabC (a, k) ++ cabC (k - 1, k)) := by unfold flatG; simp
    rw [e, List.length_append]; exact h1
  · rw [ownBlock_slice] at h2
    injection h2 with h2
    subst h2
    rcases hat with h5 | h5
    · exact h.ap g h1 h5
    · have := own g h1; omega
  · obtain ⟨bs, h1, h2, h3⟩ := h.rings i y hy hdi
    obtain ⟨_, _, _, _, hc⟩ := id h1
    obtain ⟨_, _, _, hb2, _⟩ := hc (by simpa using hdi)
    refine ⟨bs, ring_stays (h1.span s (.inl (Nat.le_refl _))) hgr h3 (Nat.le_refl _), h2, fun e => ?_⟩
    rw [ownBlock_slice] at e
    injection e with e
    subst e
    rcases hat with h5 | h5
    · exact h3 h5
    · omega
  · have kV : Keeps (RB :: vC.ownBlock.toList) wr (w6.setCell ⟨RB, 1, none⟩ (.slice (some ⟨g, 0, none⟩) ((csOf fa k).length + 2) c)) := ((Keeps.span s).trans ((su_grown hgr).weak (fun k hk => .inl (List.mem_cons_of_mem _ hk)))).setCell RB 1 (by simp) _
    refine kV.fresh h.span (fun b hb => ?_)
    have := h.rb
    rcases List.mem_cons.1 hb with rfl | hb
    · omega
    · have := ownC b (by simpa using hb); omega

/-- The rack, made: what a run of it asks. -/
theorem SuJ.rack {ds fa : Nat → Nat} {vM vC : Value} {Ms : List Mw} {RB : Nat} {w0 : World} {w : World} (h : SuJ ds fa vM vC Ms RB w0 6 6 w) : ∃ bM bC AM cM AC cC, vM = .slice AM 6 cM ∧ vC = .slice AC 10 cC ∧ RkAt w bM bC 0 w.heap.size AM 6 cM AC 10 cC Ms (csOf fa 6) ∧ Reads w Ms (rsOf ds 6) := by
  have hl : (csOf fa 6).length = 10 := csOf_len fa 5
  have hoc := h.oc
  rw [hl] at hoc
  obtain ⟨AM, cM, rfl⟩ := ownsRow_slice h.om
  obtain ⟨AC, cC, rfl⟩ := ownsRow_slice hoc
  obtain ⟨bM, g1, _, _⟩ := ownsRow_hasC (fl := Mw.l) (by decide) Mw.len h.om
  obtain ⟨bC, g2, _, _⟩ := ownsRow_hasC (by decide) cab_len hoc
  refine ⟨bM, bC, AM, cM, AC, cC, rfl, rfl, ⟨g1.weak (Nat.zero_le _) (.inl (Nat.le_refl _)), g2.weak (Nat.zero_le _) (.inl (Nat.le_refl _)), by decide, fun x hx => ?_, fun x hx => ?_⟩, ⟨by simp [rsOf, h.len], fun i m r hm hr => ?_⟩⟩
  · obtain ⟨i, hi⟩ := List.getElem?_of_mem hx
    rcases h.is i x hi with ⟨_, rfl⟩ | ⟨hd, A, p, rfl⟩
    · exact okM_sum _
    · obtain ⟨bs, h1, _, _⟩ := h.rings i _ hi hd
      have hd3 := h.dsl i
      exact fun w' s => isModule_delay (List.replicate (ds i) (0, 0)) 0 (ds i) p A (by simp) (rgS_ok (fun _ => (0, 0)) (by omega) (by omega) 0) true bs _ _ w' (h1.span s (.inl (Nat.le_refl _)))
  · have := csOf_lt fa h.fal 6 x hx; omega
  · have hi : i < 6 := by have := (List.getElem?_eq_some_iff.1 hm).1; rw [h.len] at this; exact this
    have hr' : (rsOf ds 6)[i]? = some (List.replicate (ds i) (0, 0), ([], [])) := range_get _ hi
    rw [hr'] at hr
    injection hr with hr
    subst hr
    have hd3 := h.dsl i
    refine ⟨by simp; omega, rfl, by simp, ?_⟩
    rcases h.is i m hm with ⟨h0, rfl⟩ | ⟨hd, A, p, rfl⟩
    · simp only [h0]
      exact ⟨true, 0, 0, 0, 0, HasS.empty .., ⟨0, 1, _, _, rfl, by decide, HasS.empty .., HasS.empty ..⟩⟩
    · obtain ⟨bs, h1, _, _⟩ := h.rings i _ hm hd
      exact ⟨false, bs, _, _, 0, h1.bare, ⟨0, 1, _, _, rfl, by decide, HasS.empty .., HasS.empty ..⟩⟩
end
end Go.Proofs.Ytpiiflhdllpoiaa
