/- As wp_region_inv, for regions in which an edge that binds in no order leads forward (a store that may come early or late). FnHealed: the region of the run with a fault (it draws its order), as an invariant. FnHealed: what the two runs have in common. -/
import Derived.Test.YtkjlodoppmipfaaGreatJg37
import Derived.Test.YtkjlodoppmipfaaGreatJg49
import Derived.Test.YtkjlodoppmipfaaGreatJg50
import Derived.Outline
namespace Go.Proofs.YtkjlodoppmipfaaGreat
section
open Go

def backEdgesB (ops : Array Oper) : Bool := (List.range ops.size).all fun i => ((ops[i]?).map (·.after.all fun e => !Region.binds .any e || decide (e.on < i))).getD true
theorem ready_memB {ops : Array Oper} {l : Array Bool} {i : Nat} {o : Oper} (h1 : i < ops.size) (ho : ops[i]? = some o) (h2 : l.getD i true = false) (h3 : ∀ e ∈ o.after, Region.binds .any e = true → l.getD e.on false = true) : i ∈ Region.ready .any ops l := by
  unfold Region.ready
  rw [List.mem_filter, List.mem_range, Bool.and_eq_true, Bool.not_eq_true']
  refine ⟨h1, h2, ?_⟩
  rw [ho]
  simp only [Option.map_some, Option.getD_some]
  rw [Array.all_eq_true']
  intro e he
  cases hb : Region.binds .any e with
  | true => rw [h3 e he hb]; rfl
  | false => rfl
theorem all_listedB {ops : Array Oper} {l : Array Bool} (hb : backEdgesB ops = true) (hs : l.size = ops.size) (hr : Region.ready .any ops l = []) : ∀ i, i < ops.size → l.getD i true = true := by
  intro i
  induction i using Nat.strongRecOn with
  | ind i ih =>
    intro hi
    cases h : l.getD i true with
    | true => rfl
    | false =>
      exfalso
      have ho : ops[i]? = some ops[i] := Array.getElem?_eq_getElem hi
      have : i ∈ Region.ready .any ops l := ready_memB hi ho h fun e he hbe => by
        unfold backEdgesB at hb
        rw [List.all_eq_true] at hb
        have := hb i (List.mem_range.2 hi)
        rw [ho] at this
        simp only [Option.map_some, Option.getD_some] at this
        rw [Array.all_eq_true'] at this
        have hlt : e.on < i := by
          have := this e he
          rw [hbe] at this
          simpa using this
        have := ih e.on hlt (by omega)
        rw [Array.getD_eq_getD_getElem?] at this ⊢
        rw [Array.getElem?_eq_getElem (by omega : e.on < l.size)] at this ⊢
        exact this
      rw [hr] at this
      cases this
section
variable {P : Program} {ops : Array Oper} {Q : Exit → Act → World → Prop}

theorem wpAny_invB (hb : backEdgesB ops = true) (J : Array Bool → Act → World → Prop)
    (hstep : ∀ l a w i, J l a w → i ∈ Region.ready .any ops l → wpOp P ops Q i (J (l.setIfInBounds i true)) a w)
    (hdone : ∀ l a w, J l a w → (∀ i, i < ops.size → l.getD i true = true) → Q .normal a w) :
    ∀ (fuel : Nat) (l : Array Bool) (a : Act) (w : World), J l a w → l.size = ops.size → l.toList.count false ≤ fuel → wpAny P .any ops Q fuel l a w
  | 0, l, a, w, hj, hs, hc => by
    have hr : Region.ready .any ops l = [] := by
      cases h : Region.ready .any ops l with
      | nil => rfl
      | cons i r =>
        exfalso
        obtain ⟨o, _, h1, h2, _⟩ := mem_ready (md := .any) (ops := ops) (l := l) (i := i) (by rw [h]; exact List.mem_cons_self)
        have h3 : l.toList[i]? = some false := by
          rw [Array.getElem?_toList, Array.getElem?_eq_getElem (by omega : i < l.size)]
          rw [Array.getD_eq_getD_getElem?, Array.getElem?_eq_getElem (by omega : i < l.size)] at h2
          exact congrArg some h2
        have := count_falls _ _ h3
        omega
    exact ⟨hr, hdone l a w hj (all_listedB hb hs hr)⟩
  | fuel + 1, l, a, w, hj, hs, hc => by
    refine ⟨fun hr => hdone l a w hj (all_listedB hb hs hr), fun i hi => ?_⟩
    refine wpOp_mono (fun a' w' hj' => wpAny_invB hb J hstep hdone fuel _ a' w' hj' (by simp [hs]) ?_) (hstep l a w i hj hi)
    obtain ⟨o, _, h1, h2, _⟩ := mem_ready hi
    have h3 : l.toList[i]? = some false := by
      rw [Array.getElem?_toList, Array.getElem?_eq_getElem (by omega : i < l.size)]
      rw [Array.getD_eq_getD_getElem?, Array.getElem?_eq_getElem (by omega : i < l.size)] at h2
      exact congrArg some h2
    have := count_falls _ _ h3
    rw [Array.toList_setIfInBounds]
    omega

/-- This frame is that one, but for the slots ss, which hold u's. -/
theorem wp_region_invB {id : Nat} {a : Act} {w : World} (ss : List Nat) (Inv : (Nat → Bool) → (Nat → Value) → World → Prop) (hm : P.follows .mixedOrders = true) (hb : backEdgesB ops = true) (hds : dstsIn ops ss = true)
    (h0 : Inv (fun _ => false) (fun s => a.tmps.getD s undef) w.drew)
    (hstep : ∀ (i : Nat) (o : Oper) (L : Nat → Bool) (u : Nat → Value) (w : World) (a' : Act), (∀ j oj, ops[j]? = some oj → L j = true → ∀ e ∈ oj.after, L e.on = true ∨ Region.binds .any e = false) → ops[i]? = some o → L i = false → (∀ e ∈ o.after, L e.on = true ∨ Region.binds .any e = false) → Inv L u w → Agrees a ss u a' →
      ∀ (Q' : Exit → Act → World → Prop) (K : Act → World → Prop), Shut (∀ v w', Inv (fun j => L j || j == i) (updO u o.dst v) w' → K (a'.put o.dst v) w') → if Region.wanted o (yielded ops a'.tmps) = true then Oper.wp P o a' w K Q' else K (a'.put o.dst undef) w)
    (hdone : ∀ (L : Nat → Bool) u w, (∀ i, i < ops.size → L i = true) → Inv L u w → Q .normal (puts a ss u) w) : (Code.region id ops true).wp P Q a w := by
  refine wp_region_any hm (wpAny_invB hb (fun l a' w' => l.size = ops.size ∧ (∀ j oj, ops[j]? = some oj → l.getD j false = true → ∀ e ∈ oj.after, l.getD e.on false = true ∨ Region.binds .any e = false) ∧ ∃ u, Agrees a ss u a' ∧ Inv (fun j => l.getD j false) u w') ?_ ?_ ops.size _ a _ ⟨by simp, ?hcl0, _, Agrees.refl a ss, ?_⟩ (by simp) (by simp))
  case hcl0 =>
    intro j oj _ h
    have : (Array.replicate ops.size false).getD j false = false := by
      rw [Array.getD_eq_getD_getElem?, Array.getElem?_replicate]
      split <;> rfl
    rw [this] at h; cases h
  · rintro l a' w i ⟨hs, hcl, u, hag, hi⟩ hr
    obtain ⟨o, ho, h1, h2, h3⟩ := mem_ready hr
    have e2 : l.getD i false = false := by
      rw [Array.getD_eq_getD_getElem?] at h2 ⊢
      rw [Array.getElem?_eq_getElem (by omega : i < l.size)] at h2 ⊢
      exact h2
    refine wpOp_step ho fun K' hK => hstep i o _ u w a' hcl ho e2 (fun e he => ?_) hi hag Q K' (fun v w' hi' => hK _ _ ⟨by simp [hs], ?_, updO u o.dst v, hag.put (dsts_in hds ho) v, ?_⟩)
    · cases hbd : Region.binds .any e with
      | true => exact .inl (h3 e he hbd)
      | false => exact .inr rfl
    · intro j oj hj hlj e he
      rw [setL l i (by omega)] at hlj ⊢
      by_cases hij : j = i
      · subst hij
        rw [ho] at hj; injection hj with hj; subst hj
        cases hbd : Region.binds .any e with
        | true => exact .inl (by simp [h3 e he hbd])
        | false => exact .inr rfl
      · have hjf : (j == i) = false := by simp; omega
        simp only [hjf, Bool.or_false] at hlj
        rcases hcl j oj hj hlj e he with h | h
        · exact .inl (by simp [h])
        · exact .inr h
    · have : (fun j => (l.setIfInBounds i true).getD j false) = fun j => l.getD j false || j == i := funext fun j => setL l i (by omega) j
      rw [this]; exact hi'
  · rintro l a' w ⟨hs, -, u, hag, hi⟩ hall
    rw [hag.eq]
    refine hdone _ u w (fun i h => ?_) hi
    have := hall i h
    rw [Array.getD_eq_getD_getElem?] at this ⊢
    rw [Array.getElem?_eq_getElem (by omega : i < l.size)] at this ⊢
    exact this
  · have : (fun j => (Array.replicate ops.size false).getD j false) = fun _ => false := by
      funext j
      rw [Array.getD_eq_getD_getElem?, Array.getElem?_replicate]
      split <;> rfl
    rw [this]; exact h0
end
end
section
open Go.RowKit

theorem updO_if (u : Nat → Value) (d : Option Nat) (v : Value) (x : Nat) : updO u d v x = if d = some x then v else u x := by
  cases d with
  | none => simp [updO]
  | some d =>
    show (if x = d then v else u x) = _
    by_cases h : x = d
    · subst h; simp
    · rw [if_neg h, if_neg (fun e => h (by injection e with e; exact e.symm))]
def partH : Value → Nat → Value
  | .tuple vs, i => vs.getD i undef
  | _, _ => undef
def slH : List (Option Nat) := [some 72, some 73, some 74, some 75, some 76, some 77, some 78, some 79, some 80, some 81, some 82, some 83, some 84, some 85, some 71, some 86, some 87, some 88, some 9, none, some 10, some 11]
def ptH : List (Nat × Nat × (Value → Value)) := [(14, 71, fun T => T), (15, 86, fun T => partH T 0), (16, 87, fun T => partH T 1), (17, 88, fun T => partH T 2), (20, 10, fun T => partH T 1), (21, 11, fun T => partH T 2)]
theorem ptH_sl {t : Nat × Nat × (Value → Value)} (h : t ∈ ptH) : slH[t.1]? = some (some t.2.1) ∧ t.1 ≠ 13 ∧ t.1 ∈ [14, 15, 16, 17, 19, 20, 21] := by
  simp only [ptH, List.mem_cons, List.not_mem_nil, or_false] at h
  rcases h with rfl | rfl | rfl | rfl | rfl | rfl <;> exact ⟨rfl, by decide, by decide⟩
theorem slH_nodup : slH.Nodup := by decide
theorem slH_at {i j : Nat} {a : Option Nat} (hi : slH[i]? = some a) (hj : slH[j]? = some a) : i = j := by
  obtain ⟨h1, e1⟩ := List.getElem?_eq_some_iff.1 hi
  obtain ⟨h2, e2⟩ := List.getElem?_eq_some_iff.1 hj
  rcases Nat.lt_trichotomy i j with h | h | h
  · exact absurd (e1.trans e2.symm) (List.pairwise_iff_getElem.1 slH_nodup i j h1 h2 h)
  · exact h
  · exact absurd (e2.trans e1.symm) (List.pairwise_iff_getElem.1 slH_nodup j i h2 h1 h)
theorem updO_sl {u : Nat → Value} {i j x : Nat} {d : Option Nat} {v : Value} (hi : slH[i]? = some d) (hj : slH[j]? = some (some x)) : updO u d v x = if i = j then v else u x := by
  rw [updO_if]
  by_cases h : d = some x
  · rw [if_pos h, if_pos (slH_at (by rw [hi, h]) hj)]
  · rw [if_neg h, if_neg (fun e => h (by rw [e, hj] at hi; injection hi with hi; exact hi.symm))]

structure RunI (v0 : World) (vl : List Value) (f : Ft) (P : Value → World → Prop) (L : Nat → Bool) (u : Nat → Value) (w : World) : Prop where
  kn : ∀ (i : Nat) (v : Value), i < 12 → vl[i]? = some v → L i = true → u (72 + i) = v
  sp : Span 0 0 v0 w
  row : L 12 = true → L 13 = false → ∃ G, u 84 = .slice (some ⟨G, 0, none⟩) 1 1 ∧ HasC 4 ftC G 0 w.heap.size w (.slice (some ⟨G, 0, none⟩) 1 1) [f]
  res : L 13 = true → P (u 85) w
  pt : ∀ t ∈ ptH, L t.1 = true → u t.2.1 = t.2.2 (u 85)
  box : L 18 = true → L 19 = false → ∃ B, u 9 = .pointer (some ⟨B, 0, none⟩) ∧ Bx B #[.slice none 0 0, .slice none 0 0] w ∧ v0.heap.size ≤ B
  st : L 19 = true → ∃ B c0 c1, u 9 = .pointer (some ⟨B, 0, none⟩) ∧ partH (u 85) 0 = .agg #[c0, c1] ∧ Bx B #[c0, c1] w
theorem RunI.start (v0 : World) (vl : List Value) (f : Ft) (P : Value → World → Prop) (u : Nat → Value) : RunI v0 vl f P (fun _ => false) u v0.drew :=
  ⟨fun _ _ _ _ h => Bool.noConfusion h, (Span.refl 0 0 v0).drew, fun h => Bool.noConfusion h, fun h => Bool.noConfusion h, fun _ _ h => Bool.noConfusion h, fun h => Bool.noConfusion h, fun h => Bool.noConfusion h⟩
section
variable {v0 : World} {vl : List Value} {f : Ft} {P : Value → World → Prop} {L : Nat → Bool} {u : Nat → Value} {w w' : World}
theorem RunI.step (h : RunI v0 vl f P L u w) (i : Nat) (d : Option Nat) (v : Value) (hd : slH[i]? = some d) (h19 : i ≠ 19) (s : Span 0 0 w w')
    (hk : ∀ T, P T w → P T w') (c12 : i = 12 → L 13 = false) (c13 : i = 13 → ∀ j ∈ [14, 15, 16, 17, 19, 20, 21], L j = false) (c18 : i = 18 → L 19 = false)
    (n0 : i < 12 → vl[i]? = some v) (n12 : i = 12 → ∃ G, v = .slice (some ⟨G, 0, none⟩) 1 1 ∧ HasC 4 ftC G 0 w'.heap.size w' (.slice (some ⟨G, 0, none⟩) 1 1) [f]) (n13 : i = 13 → P v w')
    (npt : ∀ t ∈ ptH, t.1 = i → v = t.2.2 (u 85)) (n18 : i = 18 → ∃ B, v = .pointer (some ⟨B, 0, none⟩) ∧ Bx B #[.slice none 0 0, .slice none 0 0] w' ∧ v0.heap.size ≤ B) :
    RunI v0 vl f P (fun j => L j || j == i) (updO u d v) w' := by
  have e : ∀ {j x : Nat}, slH[j]? = some (some x) → updO u d v x = if i = j then v else u x := fun hj => updO_sl hd hj
  have lf : ∀ {j : Nat}, j ≠ i → (L j || j == i) = L j := fun hj => or_neH hj
  have e85 := e (j := 13) (x := 85) rfl
  refine ⟨fun j x hj hx hL => ?_, h.sp.trans s, fun hL hL2 => ?_, fun hL => ?_, fun t ht hL => ?_, fun hL hL2 => ?_, fun hL => ?_⟩
  · have hsl : slH[j]? = some (some (72 + j)) := by
      rcases (show j = 0 ∨ j = 1 ∨ j = 2 ∨ j = 3 ∨ j = 4 ∨ j = 5 ∨ j = 6 ∨ j = 7 ∨ j = 8 ∨ j = 9 ∨ j = 10 ∨ j = 11 by omega) with rfl | rfl | rfl | rfl | rfl | rfl | rfl | rfl | rfl | rfl | rfl | rfl <;> rfl
    rw [e hsl]
    by_cases hij : i = j
    · subst hij
      rw [if_pos rfl]
      have := n0 hj
      rw [hx] at this; injection this with this; exact this.symm
    · rw [if_neg hij]
      exact h.kn j x hj hx (by rw [← lf (Ne.symm hij)]; exact hL)
  · rw [e (j := 12) (x := 84) rfl]
    by_cases h12 : i = 12
    · rw [if_pos h12]; exact n12 h12
    · rw [if_neg h12]
      have h13 : i ≠ 13 := fun e => by rw [e] at hL2; simp at hL2
      obtain ⟨G, g1, g2⟩ := h.row (by rw [← lf (Ne.symm h12)]; exact hL) (by rw [← lf (Ne.symm h13)]; exact hL2)
      exact ⟨G, g1, g2.k s⟩
  · rw [e85]
    by_cases h13 : i = 13
    · rw [if_pos h13]; exact n13 h13
    · rw [if_neg h13]; exact hk _ (h.res (by rw [← lf (Ne.symm h13)]; exact hL))
  · obtain ⟨hsl, ht13, htm⟩ := ptH_sl ht
    rw [e hsl, e85]
    by_cases hti : t.1 = i
    · rw [if_pos hti.symm, if_neg (fun e => ht13 (by omega))]
      exact npt t ht hti
    · rw [if_neg (Ne.symm hti)]
      have hLt : L t.1 = true := by rw [← lf hti]; exact hL
      by_cases h13 : i = 13
      · rw [c13 h13 t.1 htm] at hLt; cases hLt
      · rw [if_neg h13]; exact h.pt t ht hLt
  · rw [e (j := 18) (x := 9) rfl]
    by_cases h18 : i = 18
    · rw [if_pos h18]; exact n18 h18
    · rw [if_neg h18]
      obtain ⟨B, g1, g2, g3⟩ := h.box (by rw [← lf (Ne.symm h18)]; exact hL) (by rw [← lf (Ne.symm h19)]; exact hL2)
      exact ⟨B, g1, g2.keep s, g3⟩
  · have hL' : L 19 = true := by rw [← lf (Ne.symm h19)]; exact hL
    rw [e (j := 18) (x := 9) rfl, e85]
    have h18 : i ≠ 18 := fun e => by rw [c18 e] at hL'; cases hL'
    have h13 : i ≠ 13 := fun e => by rw [c13 e 19 (by decide)] at hL'; cases hL'
    rw [if_neg h18, if_neg h13]
    obtain ⟨B, c0, c1, g1, g2, g3⟩ := h.st hL'
    exact ⟨B, c0, c1, g1, g2, g3.keep s⟩
theorem RunI.store (h : RunI v0 vl f P L u w) (h18 : L 18 = true) (h13 : L 13 = true) (h19 : L 19 = false) {B : Nat} {c0 c1 : Value} (hu : u 9 = .pointer (some ⟨B, 0, none⟩)) (hp : partH (u 85) 0 = .agg #[c0, c1]) (v : Value)
    (hk : ∀ B, Bx B #[.slice none 0 0, .slice none 0 0] w → ∀ w2, Span B (B + 1) w w2 → P (u 85) w2) :
    RunI v0 vl f P (fun j => L j || j == 19) (updO u none v) ((w.setCell ⟨B, 0, none⟩ c0).setCell ⟨B, 1, none⟩ c1) := by
  obtain ⟨B', g1, g2, g3⟩ := h.box h18 h19
  rw [hu] at g1
  injection g1 with g1; injection g1 with g1; injection g1 with g1
  subst g1
  have lf : ∀ {j : Nat}, j ≠ 19 → (L j || j == 19) = L j := fun hj => or_neH hj
  have sq : Span B (B + 1) w ((w.setCell ⟨B, 0, none⟩ c0).setCell ⟨B, 1, none⟩ c1) := Span.put2 (Span.refl ..) ⟨Nat.le_refl _, Nat.lt_succ_self _⟩ c0 c1
  refine ⟨fun j x hj hx hL => h.kn j x hj hx (by rw [← lf (by omega)]; exact hL), h.sp.newTo sq g3, fun _ hL => ?_, fun _ => hk B g2 _ sq, fun t ht hL => ?_, fun _ hL => ?_, fun _ => ⟨B, c0, c1, hu, hp, g2.set2 c0 c1⟩⟩
  · rw [lf (by decide), h13] at hL; cases hL
  · have : t.1 ≠ 19 := by
      simp only [ptH, List.mem_cons, List.not_mem_nil, or_false] at ht
      rcases ht with rfl | rfl | rfl | rfl | rfl | rfl <;> decide
    exact h.pt t ht (by rw [← lf this]; exact hL)
  · simp at hL
theorem RunI.val (h : RunI v0 vl f P L u w) (i : Nat) (v : Value) (hi : i < 12) (hv : vl[i]? = some v) : RunI v0 vl f P (fun j => L j || j == i) (updO u (some (72 + i)) v) w := by
  refine h.step i (some (72 + i)) v ?_ (by omega) (Span.refl ..) (fun _ h => h) (by omega) (by omega) (by omega) (fun _ => hv) (by omega) (by omega) (fun t ht e => ?_) (by omega)
  · rcases (show i = 0 ∨ i = 1 ∨ i = 2 ∨ i = 3 ∨ i = 4 ∨ i = 5 ∨ i = 6 ∨ i = 7 ∨ i = 8 ∨ i = 9 ∨ i = 10 ∨ i = 11 by omega) with rfl | rfl | rfl | rfl | rfl | rfl | rfl | rfl | rfl | rfl | rfl | rfl <;> rfl
  · simp only [ptH, List.mem_cons, List.not_mem_nil, or_false] at ht
    rcases ht with rfl | rfl | rfl | rfl | rfl | rfl <;> (simp only at e; omega)
theorem RunI.part (h : RunI v0 vl f P L u w) (t : Nat × Nat × (Value → Value)) (ht : t ∈ ptH) : RunI v0 vl f P (fun j => L j || j == t.1) (updO u (some t.2.1) (t.2.2 (u 85))) w := by
  have hm := ptH_sl ht
  have hne : t.1 ≠ 12 ∧ t.1 ≠ 18 ∧ t.1 ≠ 19 ∧ ¬ t.1 < 12 := by
    simp only [ptH, List.mem_cons, List.not_mem_nil, or_false] at ht
    rcases ht with rfl | rfl | rfl | rfl | rfl | rfl <;> decide
  refine h.step t.1 (some t.2.1) _ hm.1 hne.2.2.1 (Span.refl ..) (fun _ h => h) (fun e => absurd e hne.1) (fun e => absurd e hm.2.1) (fun e => absurd e hne.2.1) (fun e => absurd e hne.2.2.2) (fun e => absurd e hne.1) (fun e => absurd e hm.2.1) (fun t' ht' e => ?_) (fun e => absurd e hne.2.1)
  simp only [ptH, List.mem_cons, List.not_mem_nil, or_false] at ht ht'
  rcases ht with rfl | rfl | rfl | rfl | rfl | rfl <;> rcases ht' with rfl | rfl | rfl | rfl | rfl | rfl <;> first | rfl | (simp only at e; omega)
theorem pt_none {i : Nat} (hi : i = 12 ∨ i = 13 ∨ i = 18) {t : Nat × Nat × (Value → Value)} (ht : t ∈ ptH) (e : t.1 = i) : False := by
  simp only [ptH, List.mem_cons, List.not_mem_nil, or_false] at ht
  rcases ht with rfl | rfl | rfl | rfl | rfl | rfl <;> (simp only at e; omega)
theorem RunI.row12 (h : RunI v0 vl f P L u w) (hk : ∀ T w1 w2, P T w1 → Span 0 0 w1 w2 → P T w2) (c12 : L 13 = false) (t : TypeId) : RunI v0 vl f P (fun j => L j || j == 12) (updO u (some 84) (.slice (some ⟨w.heap.size, 0, none⟩) 1 1)) (w.alloc (.cells (ftC f).toArray t)) := by
  have s := (Span.refl 0 0 w).alloc (.cells (ftC f).toArray t)
  refine h.step 12 (some 84) _ rfl (by omega) s (fun _ h => hk _ _ _ h s) (fun _ => c12) (by omega) (by omega) (by omega) (fun _ => ⟨w.heap.size, rfl, ?_⟩) (by omega) (fun t ht e => (pt_none (.inl rfl) ht e).elim) (by omega)
  have h1 := HasC.m (fl := ftC) (s := 4) (fun _ => rfl) [f] w t _ rfl
  have e : flatG ftC [f] = ftC f := by unfold flatG; simp
  rw [e] at h1
  exact h1
theorem RunI.call13 (h : RunI v0 vl f P L u w) (hk : ∀ T w1 w2, P T w1 → Span 0 0 w1 w2 → P T w2) (c13 : ∀ j ∈ [14, 15, 16, 17, 19, 20, 21], L j = false) (s : Span 0 0 w w') (T : Value) (hT : P T w') : RunI v0 vl f P (fun j => L j || j == 13) (updO u (some 85) T) w' :=
  h.step 13 (some 85) _ rfl (by omega) s (fun _ h => hk _ _ _ h s) (by omega) (fun _ => c13) (by omega) (by omega) (by omega) (fun _ => hT) (fun t ht e => (pt_none (.inr (.inl rfl)) ht e).elim) (by omega)
theorem RunI.alloc18 (h : RunI v0 vl f P L u w) (hk : ∀ T w1 w2, P T w1 → Span 0 0 w1 w2 → P T w2) (c18 : L 19 = false) (t : TypeId) : RunI v0 vl f P (fun j => L j || j == 18) (updO u (some 9) (.pointer (some ⟨w.heap.size, 0, none⟩))) (w.alloc (.cells #[.slice none 0 0, .slice none 0 0] t)) := by
  have s := (Span.refl 0 0 w).alloc (.cells #[.slice none 0 0, .slice none 0 0] t)
  exact h.step 18 (some 9) _ rfl (by omega) s (fun _ h => hk _ _ _ h s) (by omega) (by omega) (fun _ => c18) (by omega) (by omega) (by omega) (fun t ht e => (pt_none (.inr (.inr rfl)) ht e).elim) (fun _ => ⟨_, rfl, Bx.new w _ t, h.sp.size⟩)
end
theorem wp_buildSlice1 {P : Program} {o : Oper} {a : Act} {w : World} {K : Act → World → Prop} {Q : Exit → Act → World → Prop} {t e : TypeId} {x : Operand} (ho : o.op = .buildSlice t 1 #[(0, x)]) (V0 : Value) (e0 : a.eval x = V0)
    (cells : List Value) {z : Value} {s bytes : Nat} (hu : P.underlying t = some (.slice e)) (hi : (P.info? e).map (fun i => (i.zero, i.size, i.bytes)) = some (some z, s, bytes)) (hsmall : 1 * s ≤ 16777216) (hpos : 0 < s)
    (h0 : V0.cells.size = s) (hc : V0.cells.toList = cells)
    (h : K (a.put o.dst (.slice (some ⟨w.heap.size, 0, none⟩) 1 1)) (w.alloc (.cells cells.toArray e))) : o.wp P a w K Q :=
  wp_buildRow ho [V0] (by simp [e0]) rfl (by decide) cells hu hi hsmall hpos (fun v hv => by
    simp only [List.mem_cons, List.not_mem_nil, or_false] at hv
    subst hv; exact h0) (by simpa using hc) h
theorem info_ft : (Tryz.prog.info? 48).map (fun i => (i.zero, i.size, i.bytes)) = some (some (.agg #[.int .i64 0, .int .i64 0, .int .i64 0, .int .i64 0]), 4, 32) := by kernel_rfl
/-- What the run with a fault has returned. -/
def PH (lv : Nat → Option Nat) (Cs : List (Nat × Nat)) (Y : Nat → Cx → Prop) (T : Value) (w : World) : Prop :=
  ∃ (b g bC : Nat) (Ns : List Mw) (A : Option Addr) (q : Nat) (ys : List Cx), T = .tuple #[.agg #[.slice (some ⟨b, 0, none⟩) 5 5, .slice A 8 q], .slice (some ⟨g, 0, none⟩) 16 16, .bool true] ∧ MadeK b 5 w Ns ∧ Ns.length = 5 ∧ (∀ (i : Nat) (x : Mw), Ns[i]? = some x → x = mH lv 16 i) ∧ HasC 2 cabC bC 0 w.heap.size w (.slice A 8 q) Cs ∧ HasS cxV true g g (g + 1) w (.slice (some ⟨g, 0, none⟩) 16 16) ys ∧ ys.length = 16 ∧ ∀ (i : Nat) (y : Cx), ys[i]? = some y → Y i y
section
variable {lv : Nat → Option Nat} {Cs : List (Nat × Nat)} {Y : Nat → Cx → Prop} {T : Value} {w w' : World}
theorem PH.keep (h : PH lv Cs Y T w) (s : Span 0 0 w w') : PH lv Cs Y T w' := by
  obtain ⟨b, g, bC, Ns, A, q, ys, rfl, h1, h2, h3, h4, h5, h6, h7⟩ := h
  exact ⟨b, g, bC, Ns, A, q, ys, rfl, h1.span s (.inl (Nat.le_refl _)), h2, h3, h4.k s, h5.span s (.inl (Nat.le_refl _)), h6, h7⟩
theorem bx_cell {B i : Nat} {x : Value} (hB : Bx B #[.slice none 0 0, .slice none 0 0] w) (hx : w.cell? ⟨B, i, none⟩ = some x) : x = .slice none 0 0 := by
  rw [hB.cells i] at hx
  rcases i with _ | _ | i
  · simp at hx; exact hx.symm
  · simp at hx; exact hx.symm
  · simp at hx
theorem PH.store (h : PH lv Cs Y T w) (hc : Cs ≠ []) (B : Nat) (hB : Bx B #[.slice none 0 0, .slice none 0 0] w) (s : Span B (B + 1) w w') : PH lv Cs Y T w' := by
  obtain ⟨b, g, bC, Ns, A, q, ys, rfl, h1, h2, h3, h4, h5, h6, h7⟩ := h
  refine ⟨b, g, bC, Ns, A, q, ys, rfl, h1.span s ?_, h2, h3, ?_, h5.span s ?_, h6, h7⟩
  · have : b ≠ B := fun e => by
      obtain ⟨x, hx⟩ := getElem?_some (xs := Ns) (j := 0) (by omega)
      have h8 := h1.2.2.2 0 x 0 (.int .i64 x.k) hx rfl
      rw [e] at h8
      exact Value.noConfusion (bx_cell hB h8)
    omega
  · have : bC ≠ B := fun e => by
      obtain ⟨A', q', e1, _, h9⟩ := h4
      obtain ⟨off, _, _, _, _, h10⟩ := h9 (List.length_pos_iff.2 hc)
      obtain ⟨x, hx⟩ := getElem?_some (xs := Cs) (j := 0) (List.length_pos_iff.2 hc)
      have h8 := h10 0 x 0 (.int .i64 (x.1 : Int)) hx rfl
      rw [e] at h8
      exact Value.noConfusion (bx_cell hB h8)
    exact (h4.span s (by omega)).weak (Nat.le_refl _) (.inl s.size)
  · have : g ≠ B := fun e => by
      obtain ⟨A', q', e1, _, h9⟩ := h5
      obtain ⟨off, _, _, _, _, h10, _⟩ := h9 (by omega)
      obtain ⟨x, hx⟩ := getElem?_some (xs := ys) (j := 0) (by omega)
      have h8 := h10 0 x hx
      rw [e] at h8
      exact Value.noConfusion (bx_cell hB h8)
    omega
end
end
section
open Go.RowKit

theorem HasS.partH {α : Type} {val : α → Value} {o : Bool} {b b' off lo hi n c : Nat} {w : World} {xs : List α} (h : HasS val o b lo hi w (.slice (some ⟨b', off, none⟩) n c) xs) (k m c' : Nat) (hm : k + m ≤ xs.length) (hc : m ≤ c') : HasS val o b lo hi w (.slice (some ⟨b', off + k, none⟩) m c') ((xs.drop k).take m) := by
  have hl : ((xs.drop k).take m).length = m := by simp; omega
  refine ⟨some ⟨b', off + k, none⟩, c', by rw [hl], by omega, fun hp => ?_⟩
  obtain ⟨A', q, e, _, hx⟩ := h
  injection e with e1 e2 e3
  obtain ⟨off', e4, h1, h2, h3, h4, h5⟩ := hx (by omega)
  rw [e4] at e1
  injection e1 with e1
  injection e1 with e5 e6
  subst e5; subst e6
  refine ⟨off + k, rfl, h1, h2, h3, fun j x hj => ?_, fun ho j hj => ?_⟩
  · rw [List.getElem?_take] at hj
    split at hj
    · rw [List.getElem?_drop] at hj
      have := h4 _ _ hj
      rwa [← Nat.add_assoc] at this
    · cases hj
  · have := h5 ho (k + j) (by omega)
    rwa [← Nat.add_assoc] at this
theorem plainM_h (lv : Nat → Option Nat) (r i : Nat) : PlainM (mH lv r i) := by
  unfold mH
  split
  · exact ⟨_, _, _, _, _, _, _, _, _, _, rfl⟩
  · split <;> exact ⟨_, _, _, _, _, _, _, _, _, _, rfl⟩
theorem same_modH {lv : Nat → Option Nat} {r : Nat} {Ns Ns' : List Mw} (h : Ns.length = 5) (h' : Ns'.length = 5) (g : ∀ (i : Nat) (x : Mw), Ns[i]? = some x → x = mH lv r i) (g' : ∀ (i : Nat) (x : Mw), Ns'[i]? = some x → x = mH lv r i) : Ns = Ns' := by
  apply List.ext_getElem?
  intro i
  by_cases hi : i < 5
  · obtain ⟨x, hx⟩ := getElem?_some (xs := Ns) (j := i) (by omega)
    obtain ⟨y, hy⟩ := getElem?_some (xs := Ns') (j := i) (by omega)
    rw [hx, hy, g i x hx, g' i y hy]
  · rw [List.getElem?_eq_none (by omega), List.getElem?_eq_none (by omega)]
theorem same_sideH {X : Nat → Cx} {act : Nat → Prop} {ys zs : List Cx} (hl : ys.length = 16) (hl' : zs.length = 16) (g : ∀ (i : Nat) (y : Cx), ys[i]? = some y → ¬ act i → y = X i) (g' : ∀ (i : Nat) (y : Cx), zs[i]? = some y → y = X i) (k m : Nat) (hm : k + m ≤ 16) (ha : ∀ j, j < m → ¬ act (k + j)) : (zs.drop k).take m = (ys.drop k).take m := by
  apply List.ext_getElem?
  intro i
  rw [List.getElem?_take, List.getElem?_take]
  by_cases hi : i < m
  · rw [if_pos hi, if_pos hi, List.getElem?_drop, List.getElem?_drop]
    obtain ⟨x, hx⟩ := getElem?_some (xs := ys) (j := k + i) (by omega)
    obtain ⟨y, hy⟩ := getElem?_some (xs := zs) (j := k + i) (by omega)
    rw [hx, hy, g _ x hx (ha i hi), g' _ y hy]
  · rw [if_neg hi, if_neg hi]
theorem madeK_has {b n : Nat} {w w' : World} {Ns : List Mw} (h : MadeK b n w Ns) (hn : Ns.length = n) (s : Span 0 0 w w') : HasC 11 Mw.l b 0 w'.heap.size w' (.slice (some ⟨b, 0, none⟩) n n) Ns :=
  ((h.hasC hn).keep s).weak (Nat.zero_le _) (.inl (by have := h.1; have := s.size; omega))
end
end Go.Proofs.YtkjlodoppmipfaaGreat
