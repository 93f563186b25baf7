/- A region that draws its order, walked once an operation: by what holds whenever some of its operations have come up. -/
import Derived.Test.YtkjlodoppmipfaaGreatRows
import Derived.Orders
import Derived.RegionTactic
import Derived.Deep.RegionHeld
import Derived.Great.BuildSlice
namespace Go.Proofs.YtkjlodoppmipfaaGreat
open Go

def backEdges (ops : Array Oper) : Bool := (List.range ops.size).all fun i => ((ops[i]?).map (·.after.all fun e => decide (e.on < i))).getD true

theorem mem_ready {md : Region.Mode} {ops : Array Oper} {l : Array Bool} {i : Nat} (h : i ∈ Region.ready md ops l) :
    ∃ o, ops[i]? = some o ∧ i < ops.size ∧ l.getD i true = false ∧ ∀ e ∈ o.after, Region.binds md e = true → l.getD e.on false = true := by
  unfold Region.ready at h
  rw [List.mem_filter, List.mem_range, Bool.and_eq_true, Bool.not_eq_true'] at h
  obtain ⟨h1, h2, h3⟩ := h
  rw [Array.getElem?_eq_getElem h1] at h3 ⊢
  refine ⟨_, rfl, h1, h2, fun e he hb => ?_⟩
  simp only [Option.map_some, Option.getD_some] at h3
  rw [Array.all_eq_true'] at h3
  have := h3 e he
  rw [hb] at this
  simpa using this
theorem ready_mem {md : Region.Mode} {ops : Array Oper} {l : Array Bool} {i : Nat} {o : Oper} (h1 : i < ops.size) (ho : ops[i]? = some o) (h2 : l.getD i true = false) (h3 : ∀ e ∈ o.after, l.getD e.on false = true) : i ∈ Region.ready md ops l := by
  unfold Region.ready
  rw [List.mem_filter, List.mem_range, Bool.and_eq_true, Bool.not_eq_true']
  refine ⟨h1, h2, ?_⟩
  rw [ho]
  simp only [Option.map_some, Option.getD_some]
  rw [Array.all_eq_true']
  intro e he
  rw [h3 e he]
  simp
theorem all_listed {md : Region.Mode} {ops : Array Oper} {l : Array Bool} (hb : backEdges ops = true) (hs : l.size = ops.size) (hr : Region.ready md ops l = []) : ∀ i, i < ops.size → l.getD i true = true := by
  intro i
  induction i using Nat.strongRecOn with
  | ind i ih =>
    intro hi
    cases h : l.getD i true with
    | true => rfl
    | false =>
      exfalso
      have ho : ops[i]? = some ops[i] := Array.getElem?_eq_getElem hi
      have : i ∈ Region.ready md ops l := ready_mem hi ho h fun e he => by
        unfold backEdges at hb
        rw [List.all_eq_true] at hb
        have := hb i (List.mem_range.2 hi)
        rw [ho] at this
        simp only [Option.map_some, Option.getD_some] at this
        rw [Array.all_eq_true'] at this
        have hlt : e.on < i := by simpa using this e he
        have := ih e.on hlt (by omega)
        rw [Array.getD_eq_getD_getElem?] at this ⊢
        rw [Array.getElem?_eq_getElem (by omega : e.on < l.size)] at this ⊢
        exact this
      rw [hr] at this
      cases this

theorem count_falls : ∀ (l : List Bool) (i : Nat), l[i]? = some false → (l.set i true).count false + 1 = l.count false
  | [], i, h => by simp at h
  | b :: l, 0, h => by
    simp at h; subst h
    simp
  | b :: l, i + 1, h => by
    simp at h
    have := count_falls l i h
    cases b <;> simp [this]

/-- Some slots of a frame, written anew. -/
def puts (a : Act) (ss : List Nat) (u : Nat → Value) : Act := { a with tmps := ss.foldl (fun t s => t.setIfInBounds s (u s)) a.tmps }
def upd (u : Nat → Value) (d : Nat) (v : Value) : Nat → Value := fun s => if s = d then v else u s
theorem set_own (t : Array Value) (s : Nat) : t.setIfInBounds s (t.getD s undef) = t := by
  apply Array.ext_getElem?
  intro i
  rw [Array.getElem?_setIfInBounds]
  split
  · rename_i h; subst h
    split
    · rename_i h; rw [Array.getElem?_eq_getElem h]; simp
    · rename_i h; rw [Array.getElem?_eq_none (by omega)]
  · rfl
theorem puts_self (a : Act) (ss : List Nat) : puts a ss (fun s => a.tmps.getD s undef) = a := by
  unfold puts
  have : ∀ ss : List Nat, ss.foldl (fun t s => t.setIfInBounds s (a.tmps.getD s undef)) a.tmps = a.tmps := by
    intro ss
    induction ss with
    | nil => rfl
    | cons s ss ih => rw [List.foldl_cons, set_own]; exact ih
  rw [this]

section
variable {P : Program} {ops : Array Oper} {Q : Exit → Act → World → Prop}

theorem wpAny_inv {md : Region.Mode} (hb : backEdges ops = true) (J : Array Bool → Act → World → Prop)
    (hstep : ∀ l a w i, J l a w → i ∈ Region.ready md ops l → wpOp P ops Q i (J (l.setIfInBounds i true)) a w)
    (hdone : ∀ l a w, J l a w → (∀ i, i < ops.size → l.getD i true = true) → Q .normal a w) :
    ∀ (fuel : Nat) (l : Array Bool) (a : Act) (w : World), J l a w → l.size = ops.size → l.toList.count false ≤ fuel → wpAny P md ops Q fuel l a w
  | 0, l, a, w, hj, hs, hc => by
    have hr : Region.ready md ops l = [] := by
      cases h : Region.ready md ops l with
      | nil => rfl
      | cons i r =>
        exfalso
        obtain ⟨o, _, h1, h2, _⟩ := mem_ready (md := md) (ops := ops) (l := l) (i := i) (by rw [h]; exact List.mem_cons_self)
        have h3 : l.toList[i]? = some false := by
          rw [Array.getElem?_toList, Array.getElem?_eq_getElem (by omega : i < l.size)]
          rw [Array.getD_eq_getD_getElem?, Array.getElem?_eq_getElem (by omega : i < l.size)] at h2
          exact congrArg some h2
        have := count_falls _ _ h3
        omega
    exact ⟨hr, hdone l a w hj (all_listed hb hs hr)⟩
  | fuel + 1, l, a, w, hj, hs, hc => by
    refine ⟨fun hr => hdone l a w hj (all_listed hb hs hr), fun i hi => ?_⟩
    refine wpOp_mono (fun a' w' hj' => wpAny_inv hb J hstep hdone fuel _ a' w' hj' (by simp [hs]) ?_) (hstep l a w i hj hi)
    obtain ⟨o, _, h1, h2, _⟩ := mem_ready hi
    have h3 : l.toList[i]? = some false := by
      rw [Array.getElem?_toList, Array.getElem?_eq_getElem (by omega : i < l.size)]
      rw [Array.getD_eq_getD_getElem?, Array.getElem?_eq_getElem (by omega : i < l.size)] at h2
      exact congrArg some h2
    have := count_falls _ _ h3
    rw [Array.toList_setIfInBounds]
    omega

/-- This frame is that one, but for the slots ss, which hold u's. -/
def Agrees (a : Act) (ss : List Nat) (u : Nat → Value) (a' : Act) : Prop :=
  a'.defers = a.defers ∧ a'.tmps.size = a.tmps.size ∧ ∀ s, s < a.tmps.size → a'.tmps[s]? = some (if s ∈ ss then u s else a.tmps.getD s undef)
def updO (u : Nat → Value) : Option Nat → Value → Nat → Value
  | none, _ => u
  | some d, v => upd u d v
theorem some_getD (t : Array Value) {s : Nat} (hs : s < t.size) : some (t.getD s undef) = t[s]? := by
  rw [Array.getElem?_eq_getElem hs]
  simp [Array.getD, hs]
theorem some_if {c : Prop} [Decidable c] (x y : Value) : some (if c then x else y) = if c then some x else some y := by split <;> rfl
theorem Agrees.refl (a : Act) (ss : List Nat) : Agrees a ss (fun s => a.tmps.getD s undef) a :=
  ⟨rfl, rfl, fun s hs => by rw [ite_self]; exact (some_getD _ hs).symm⟩
theorem Agrees.put {a a' : Act} {ss : List Nat} {u : Nat → Value} (h : Agrees a ss u a') {dst : Option Nat} (hd : ∀ d, dst = some d → d ∈ ss) (v : Value) : Agrees a ss (updO u dst v) (a'.put dst v) := by
  cases dst with
  | none => exact h
  | some d =>
    obtain ⟨h1, h2, h3⟩ := h
    refine ⟨h1, by simp [Act.put, h2], fun s hs => ?_⟩
    show (a'.tmps.setIfInBounds d v)[s]? = some (if s ∈ ss then (if s = d then v else u s) else a.tmps.getD s undef)
    rw [Array.getElem?_setIfInBounds]
    by_cases hsd : d = s
    · subst hsd
      rw [if_pos rfl, if_pos (by omega), if_pos (hd d rfl), if_pos rfl]
    · rw [if_neg hsd, h3 s hs, if_neg (show ¬ s = d from fun e => hsd e.symm)]
theorem puts_get (u : Nat → Value) (n s : Nat) (hs : s < n) : ∀ (ss : List Nat) (t : Array Value), t.size = n → (ss.foldl (fun t s => t.setIfInBounds s (u s)) t)[s]? = if s ∈ ss then some (u s) else t[s]? := by
  intro ss
  induction ss with
  | nil => intro t _; simp
  | cons r ss ih =>
    intro t hz
    rw [List.foldl_cons, ih _ (by simp [hz])]
    by_cases hm : s ∈ ss
    · rw [if_pos hm, if_pos (List.mem_cons_of_mem _ hm)]
    · rw [if_neg hm, Array.getElem?_setIfInBounds]
      by_cases hr : r = s
      · subst hr
        rw [if_pos rfl, if_pos (by omega), if_pos List.mem_cons_self]
      · rw [if_neg hr, if_neg (fun h => by rcases List.mem_cons.1 h with h | h; exact hr h.symm; exact hm h)]
theorem puts_size (a : Act) (u : Nat → Value) : ∀ (ss : List Nat) (t : Array Value), (ss.foldl (fun t s => t.setIfInBounds s (u s)) t).size = t.size
  | [], t => rfl
  | r :: ss, t => by rw [List.foldl_cons, puts_size a u ss]; simp
theorem Agrees.eq {a a' : Act} {ss : List Nat} {u : Nat → Value} (h : Agrees a ss u a') : a' = puts a ss u := by
  obtain ⟨h1, h2, h3⟩ := h
  have ht : a'.tmps = ss.foldl (fun t s => t.setIfInBounds s (u s)) a.tmps := by
    apply Array.ext_getElem?
    intro s
    by_cases hs : s < a.tmps.size
    · rw [h3 s hs, puts_get u _ s hs ss a.tmps rfl]
      rw [some_if]
      rw [some_getD _ hs]
    · rw [Array.getElem?_eq_none (by omega), Array.getElem?_eq_none (by rw [puts_size a u]; omega)]
  cases a'
  cases a
  simp only [puts] at *
  subst ht; subst h1
  rfl
theorem Agrees.at_ {a a' : Act} {ss : List Nat} {u : Nat → Value} (h : Agrees a ss u a') {s : Nat} (hs : s < a.tmps.size) (hm : s ∈ ss) : a'.tmps[s]?.getD undef = u s := by
  rw [h.2.2 s hs, if_pos hm]; rfl
theorem Agrees.get {a a' : Act} {ss : List Nat} {u : Nat → Value} (h : Agrees a ss u a') {s : Nat} (hs : s < a.tmps.size) (hm : s ∈ ss) : a'.tmps[s]? = some (u s) := by
  rw [h.2.2 s hs, if_pos hm]
theorem Agrees.off {a a' : Act} {ss : List Nat} {u : Nat → Value} (h : Agrees a ss u a') {s : Nat} (hs : s < a.tmps.size) (hm : s ∉ ss) : a'.tmps[s]?.getD undef = a.tmps.getD s undef := by
  rw [h.2.2 s hs, if_neg hm]; rfl
def dstsIn (ops : Array Oper) (ss : List Nat) : Bool := ops.toList.all fun o => match o.dst with | none => true | some d => ss.contains d
theorem dsts_in {ss : List Nat} (h : dstsIn ops ss = true) {i : Nat} {o : Oper} (ho : ops[i]? = some o) : ∀ d, o.dst = some d → d ∈ ss := by
  intro d hd
  unfold dstsIn at h
  rw [List.all_eq_true] at h
  have := h o (Array.mem_toList_iff.2 (Array.mem_of_getElem? ho))
  rw [hd] at this
  simpa using this

theorem setL (l : Array Bool) (i : Nat) (hi : i < l.size) (j : Nat) : (l.setIfInBounds i true).getD j false = (l.getD j false || j == i) := by
  rw [Array.getD_eq_getD_getElem?, Array.getD_eq_getD_getElem?, Array.getElem?_setIfInBounds]
  by_cases hj : i = j
  · subst hj
    rw [if_pos rfl, if_pos (by omega)]; simp
  · rw [if_neg hj]
    have : (j == i) = false := by simp; omega
    rw [this, Bool.or_false]

/-- The region, by what holds of the slots ss and of the world whenever some operations have come up. -/
theorem wp_region_inv {id : Nat} {a : Act} {w : World} (ss : List Nat) (Inv : (Nat → Bool) → (Nat → Value) → World → Prop) (hm : P.follows .mixedOrders = true) (hb : backEdges ops = true) (hds : dstsIn ops ss = true)
    (h0 : Inv (fun _ => false) (fun s => a.tmps.getD s undef) w.drew)
    (hstep : ∀ (i : Nat) (o : Oper) (L : Nat → Bool) (u : Nat → Value) (w : World) (a' : Act), (∀ j oj, ops[j]? = some oj → L j = true → ∀ e ∈ oj.after, L e.on = true ∨ Region.binds .any e = false) → ops[i]? = some o → L i = false → (∀ e ∈ o.after, L e.on = true ∨ Region.binds .any e = false) → Inv L u w → Agrees a ss u a' →
      ∀ (Q' : Exit → Act → World → Prop) (K : Act → World → Prop), Shut (∀ v w', Inv (fun j => L j || j == i) (updO u o.dst v) w' → K (a'.put o.dst v) w') → if Region.wanted o (yielded ops a'.tmps) = true then Oper.wp P o a' w K Q' else K (a'.put o.dst undef) w)
    (hdone : ∀ (L : Nat → Bool) u w, (∀ i, i < ops.size → L i = true) → Inv L u w → Q .normal (puts a ss u) w) : (Code.region id ops true).wp P Q a w := by
  refine wp_region_any hm (wpAny_inv hb (fun l a' w' => l.size = ops.size ∧ (∀ j oj, ops[j]? = some oj → l.getD j false = true → ∀ e ∈ oj.after, l.getD e.on false = true ∨ Region.binds .any e = false) ∧ ∃ u, Agrees a ss u a' ∧ Inv (fun j => l.getD j false) u w') ?_ ?_ ops.size _ a _ ⟨by simp, ?hcl0, _, Agrees.refl a ss, ?_⟩ (by simp) (by simp))
  case hcl0 =>
    intro j oj _ h
    have : (Array.replicate ops.size false).getD j false = false := by
      rw [Array.getD_eq_getD_getElem?, Array.getElem?_replicate]
      split <;> rfl
    rw [this] at h; cases h
  · rintro l a' w i ⟨hs, hcl, u, hag, hi⟩ hr
    obtain ⟨o, ho, h1, h2, h3⟩ := mem_ready hr
    have e2 : l.getD i false = false := by
      rw [Array.getD_eq_getD_getElem?] at h2 ⊢
      rw [Array.getElem?_eq_getElem (by omega : i < l.size)] at h2 ⊢
      exact h2
    refine wpOp_step ho fun K' hK => hstep i o _ u w a' hcl ho e2 (fun e he => ?_) hi hag Q K' (fun v w' hi' => hK _ _ ⟨by simp [hs], ?_, updO u o.dst v, hag.put (dsts_in hds ho) v, ?_⟩)
    · cases hbd : Region.binds .any e with
      | true => exact .inl (h3 e he hbd)
      | false => exact .inr rfl
    · intro j oj hj hlj e he
      rw [setL l i (by omega)] at hlj ⊢
      by_cases hij : j = i
      · subst hij
        rw [ho] at hj; injection hj with hj; subst hj
        cases hbd : Region.binds .any e with
        | true => exact .inl (by simp [h3 e he hbd])
        | false => exact .inr rfl
      · have hjf : (j == i) = false := by simp; omega
        simp only [hjf, Bool.or_false] at hlj
        rcases hcl j oj hj hlj e he with h | h
        · exact .inl (by simp [h])
        · exact .inr h
    · have : (fun j => (l.setIfInBounds i true).getD j false) = fun j => l.getD j false || j == i := funext fun j => setL l i (by omega) j
      rw [this]; exact hi'
  · rintro l a' w ⟨hs, -, u, hag, hi⟩ hall
    rw [hag.eq]
    refine hdone _ u w (fun i h => ?_) hi
    have := hall i h
    rw [Array.getD_eq_getD_getElem?] at this ⊢
    rw [Array.getElem?_eq_getElem (by omega : i < l.size)] at this ⊢
    exact this
  · have : (fun j => (Array.replicate ops.size false).getD j false) = fun _ => false := by
      funext j
      rw [Array.getD_eq_getD_getElem?, Array.getElem?_replicate]
      split <;> rfl
    rw [this]; exact h0
end

theorem if_wanted {o : Oper} {y : Nat → Option Bool} {A B : Prop} (hg : o.guard = none) (h : A) : if Region.wanted o y = true then A else B := by
  have : Region.wanted o y = true := by unfold Region.wanted; rw [hg]
  rw [if_pos this]; exact h
/-- A row of structs, laid at once. -/
theorem wp_buildRow {P : Program} {o : Oper} {a : Act} {w : World} {K : Act → World → Prop} {Q : Exit → Act → World → Prop} {t e : TypeId} {n : Nat} {parts : Array (Nat × Operand)} (ho : o.op = .buildSlice t n parts) (vs : List Value) (he : (parts.map fun (i, x) => (i, a.eval x)).toList = (vs.zipIdx 0).map fun x => (x.2, x.1)) (hn : vs.length = n) (hn0 : 0 < n)
    (cells : List Value) {z : Value} {s bytes : Nat} (hu : P.underlying t = some (.slice e)) (hi : (P.info? e).map (fun i => (i.zero, i.size, i.bytes)) = some (some z, s, bytes)) (hsmall : n * s ≤ 16777216) (hpos : 0 < s)
    (hv : ∀ v ∈ vs, v.cells.size = s) (hc : (vs.flatMap fun v => v.cells.toList) = cells)
    (h : K (a.put o.dst (.slice (some ⟨w.heap.size, 0, none⟩) n n)) (w.alloc (.cells cells.toArray e))) : o.wp P a w K Q := by
  cases hie : P.info? e with
  | none => simp [hie] at hi
  | some ie =>
    simp only [hie, Option.map_some, Option.some.injEq, Prod.mk.injEq] at hi
    obtain ⟨h1, h2, h3⟩ := hi
    refine wp_buildSlice t e n _ ho cells.toArray ie z hu hie h1 (by rw [h2]; omega) (by rw [h2]; have := Nat.mul_pos hn0 hpos; omega) ?_ h
    rw [h2, he, ← hc]
    exact Great.fill_whole hpos vs _ hv (by simp [hn])
/-- A row of two structs. -/
theorem wp_buildSlice2 {P : Program} {o : Oper} {a : Act} {w : World} {K : Act → World → Prop} {Q : Exit → Act → World → Prop} {t e : TypeId} {x y : Operand} (ho : o.op = .buildSlice t 2 #[(0, x), (1, y)]) (V0 V1 : Value) (e0 : a.eval x = V0) (e1 : a.eval y = V1)
    (cells : List Value) {z : Value} {s bytes : Nat} (hu : P.underlying t = some (.slice e)) (hi : (P.info? e).map (fun i => (i.zero, i.size, i.bytes)) = some (some z, s, bytes)) (hsmall : 2 * s ≤ 16777216) (hpos : 0 < s)
    (h0 : V0.cells.size = s) (h1 : V1.cells.size = s) (hc : V0.cells.toList ++ V1.cells.toList = cells)
    (h : K (a.put o.dst (.slice (some ⟨w.heap.size, 0, none⟩) 2 2)) (w.alloc (.cells cells.toArray e))) : o.wp P a w K Q :=
  wp_buildRow ho [V0, V1] (by simp [e0, e1]) rfl (by decide) cells hu hi hsmall hpos (fun v hv => by
    simp only [List.mem_cons, List.not_mem_nil, or_false] at hv
    rcases hv with rfl | rfl
    · exact h0
    · exact h1) (by simpa using hc) h
/-- Operations whose values are known, but one (number z), of which Z holds. -/
def ValI (sl : List Nat) (vl : List (Option Value)) (S : World → Prop) (z : Nat) (Z : Value → World → Prop) (L : Nat → Bool) (u : Nat → Value) (w : World) : Prop :=
  S w ∧ (∀ (i s : Nat) (v : Value), sl[i]? = some s → vl[i]? = some (some v) → L i = true → u s = v) ∧ (∀ s, sl[z]? = some s → L z = true → Z (u s) w)
theorem nodup_at {sl : List Nat} (hn : sl.Nodup) {i j s : Nat} (hi : sl[i]? = some s) (hj : sl[j]? = some s) : i = j := by
  obtain ⟨h1, e1⟩ := List.getElem?_eq_some_iff.1 hi
  obtain ⟨h2, e2⟩ := List.getElem?_eq_some_iff.1 hj
  rcases Nat.lt_trichotomy i j with h | h | h
  · exact absurd (e1.trans e2.symm) (List.pairwise_iff_getElem.1 hn i j h1 h2 h)
  · exact h
  · exact absurd (e2.trans e1.symm) (List.pairwise_iff_getElem.1 hn j i h2 h1 h)
theorem ValI.val {sl : List Nat} {vl : List (Option Value)} {S : World → Prop} {z : Nat} {Z : Value → World → Prop} {L : Nat → Bool} {u : Nat → Value} {w w' : World} (h : ValI sl vl S z Z L u w) (hn : sl.Nodup) (i s : Nat) (v : Value) (hs : sl[i]? = some s) (hv : vl[i]? = some (some v)) (hz : i ≠ z) (hS : S w') (hZ : ∀ x, Z x w → Z x w') : ValI sl vl S z Z (fun j => L j || j == i) (updO u (some s) v) w' := by
  obtain ⟨_, h2, h3⟩ := h
  refine ⟨hS, fun j s' v' hs' hv' hL => ?_, fun s' hs' hL => ?_⟩
  · show (if s' = s then v else u s') = v'
    by_cases hj : j = i
    · subst hj
      rw [hs] at hs'; injection hs' with hs'
      rw [hv] at hv'; injection hv' with hv'; injection hv' with hv'
      rw [if_pos hs'.symm, hv']
    · rw [if_neg (show ¬ s' = s from fun e => hj (nodup_at hn (by rw [← e]; exact hs') hs))]
      have hjf : (j == i) = false := by simp; omega
      exact h2 j s' v' hs' hv' (by simpa [hjf] using hL)
  · have hne : s' ≠ s := fun e => hz (nodup_at hn (by rw [e]; exact hs) hs')
    show Z (if s' = s then v else u s') w'
    rw [if_neg hne]
    have hjf : (z == i) = false := by simp; omega
    exact hZ _ (h3 s' hs' (by simpa [hjf] using hL))
theorem ValI.own {sl : List Nat} {vl : List (Option Value)} {S : World → Prop} {z : Nat} {Z : Value → World → Prop} {L : Nat → Bool} {u : Nat → Value} {w w' : World} (h : ValI sl vl S z Z L u w) (hn : sl.Nodup) (s : Nat) (v : Value) (hs : sl[z]? = some s) (hv : vl[z]? = some none) (hS : S w') (hZ : Z v w') : ValI sl vl S z Z (fun j => L j || j == z) (updO u (some s) v) w' := by
  obtain ⟨_, h2, h3⟩ := h
  refine ⟨hS, fun j s' v' hs' hv' hL => ?_, fun s' hs' hL => ?_⟩
  · by_cases hj : j = z
    · subst hj
      rw [hv] at hv'; cases hv'
    · show (if s' = s then v else u s') = v'
      rw [if_neg (show ¬ s' = s from fun e => hj (nodup_at hn (by rw [← e]; exact hs') hs))]
      have hjf : (j == z) = false := by simp; omega
      exact h2 j s' v' hs' hv' (by simpa [hjf] using hL)
  · rw [hs] at hs'; injection hs' with hs'
    show Z (if s' = s then v else u s') w'
    rw [if_pos hs'.symm]; exact hZ
theorem ValI.start {sl : List Nat} {vl : List (Option Value)} {S : World → Prop} {z : Nat} {Z : Value → World → Prop} {u : Nat → Value} {w : World} (hS : S w) : ValI sl vl S z Z (fun _ => false) u w :=
  ⟨hS, fun _ _ _ _ _ h => Bool.noConfusion h, fun _ _ h => Bool.noConfusion h⟩
theorem puts_cons {a b c : Act} {s : Nat} {ss : List Nat} {u : Nat → Value} (h : a.put (some s) (u s) = b) (h2 : puts b ss u = c) : puts a (s :: ss) u = c := by
  subst h; exact h2
theorem puts_nil (a : Act) (u : Nat → Value) : puts a [] u = a := rfl
theorem norm_arg {Q : Act → World → Prop} {a a' : Act} {w : World} (e : a' = a) (h : Q a w) : Q a' w := e ▸ h
end Go.Proofs.YtkjlodoppmipfaaGreat
