/- Tables: plain mathematics. The model's table functions that look. A slice appended to what the call owns, in a region that draws; the model's copy of a table. The model's copy of a table. The model puts a point into a table. The model's PutPoint. -/
import Derived.Test.YtfafkdpefdpnkaaJq13
import Derived.Test.YtfafkdpefdpnkaaJq14
import Derived.Deep.RegionHeld3
import Derived.Deep.AppendSrc
import Derived.Maps.AppendAt
import Derived.Deep.AppendLies
namespace Go.Proofs.Ytfafkdpefdpnkaa
section
open Go.RowKit Ieee

/-- A finite number in units of the least place. -/
def keyX (x : Nat) : Int := sgn (negOf Ieee.single x) (units Ieee.single (rungOf Ieee.single x))
def keyC (z : Cx) : Int × Int := (keyX z.1, keyX z.2)
theorem ordEq_fin {x y : Nat} (hx : finX x) (hy : finX y) : ordEq x y = decide (keyX x = keyX y) := by
  unfold ordEq
  have e : FloatKind.f32.format.order x y = _ := order_rung Ieee.single (x := x) (y := y) (by rw [s_inf]; exact hx.2) (by rw [s_inf]; exact hy.2)
  rw [e]
  unfold keyX
  rw [Bool.eq_iff_iff]
  simp [cmp_eq]
theorem eqC_fin {p q : Cx} (hp : finC p) (hq : finC q) : eqC p q = decide (keyC p = keyC q) := by
  unfold eqC keyC
  rw [ordEq_fin hp.1 hq.1, ordEq_fin hp.2 hq.2]
  rw [Bool.eq_iff_iff]
  simp

/-- The place of a point. -/
def atC (Q : List Cx) (z : Cx) : Option Nat := Q.findIdx? fun p => eqC p z

theorem atC_some {Q : List Cx} {z : Cx} {i : Nat} (h : atC Q z = some i) : ∃ p, Q[i]? = some p ∧ eqC p z = true ∧ ∀ j q, j < i → Q[j]? = some q → eqC q z = false := by
  unfold atC at h
  rw [List.findIdx?_eq_some_iff_getElem] at h
  obtain ⟨h1, h2, h3⟩ := h
  refine ⟨Q[i], List.getElem?_eq_getElem h1, h2, fun j q hj hq => ?_⟩
  obtain ⟨hj', rfl⟩ := List.getElem?_eq_some_iff.1 hq
  have := h3 j hj
  simpa using this
theorem atC_none {Q : List Cx} {z : Cx} : atC Q z = none ↔ ∀ p ∈ Q, eqC p z = false := by
  unfold atC
  rw [List.findIdx?_eq_none_iff]
theorem atC_lt {Q : List Cx} {z : Cx} {i : Nat} (h : atC Q z = some i) : i < Q.length := by
  obtain ⟨p, hp, _⟩ := atC_some h
  exact (List.getElem?_eq_some_iff.1 hp).1

def finB (z : Cx) : Bool := decide (rungOf Ieee.single z.1 < 2139095040) && decide (rungOf Ieee.single z.2 < 2139095040)

/-- A label put for a point. -/
def putT (t : Tab) (z : Cx) (n : Int) : Option Tab :=
  match atC t.1 z with
  | some i => some (t.1, t.2.set i n)
  | none => if finB z then some (t.1 ++ [z], t.2 ++ [n]) else none

def smallC (z : Cx) : Prop := z.1 < 4294967296 ∧ z.2 < 4294967296
theorem finC_of {z : Cx} (h : smallC z) (hf : finB z = true) : finC z := by
  unfold finB at hf
  rw [Bool.and_eq_true, decide_eq_true_iff, decide_eq_true_iff] at hf
  exact ⟨⟨h.1, hf.1⟩, ⟨h.2, hf.2⟩⟩
theorem finB_of {z : Cx} (h : finC z) : finB z = true := by
  unfold finB; rw [Bool.and_eq_true, decide_eq_true_iff, decide_eq_true_iff]; exact ⟨h.1.2, h.2.2⟩

theorem Valid.put {t u : Tab} {z : Cx} {n : Int} (h : Valid t) (hz : smallC z) (hl : t.1.length < 64) (hu : putT t z n = some u) : Valid u ∧ t.1.length ≤ u.1.length ∧ u.1.length ≤ t.1.length + 1 := by
  unfold putT at hu
  cases ha : atC t.1 z with
  | some i =>
    rw [ha] at hu
    injection hu with hu
    subst hu
    exact ⟨⟨by simp [h.len], h.most, h.fin, h.apart⟩, Nat.le_refl _, Nat.le_succ _⟩
  | none =>
    rw [ha] at hu
    simp only [] at hu
    by_cases hf : finB z = true
    · rw [if_pos hf] at hu
      injection hu with hu
      subst hu
      have hfz := finC_of hz hf
      refine ⟨⟨by simp [h.len], by simp; omega, fun p hp => ?_, ?_⟩, by simp, by simp⟩
      · rcases List.mem_append.1 hp with g | g
        · exact h.fin p g
        · rw [List.mem_singleton.1 g]; exact hfz
      · unfold Apart
        rw [List.pairwise_append]
        refine ⟨h.apart, List.pairwise_singleton _ _, fun a ha' b hb => ?_⟩
        rw [List.mem_singleton.1 hb]
        have h1 := (atC_none.1 ha) a ha'
        rw [eqC_fin (h.fin a ha') hfz] at h1
        rw [eqC_fin hfz (h.fin a ha')]
        rw [decide_eq_false_iff_not] at h1 ⊢
        exact fun e => h1 e.symm
    · rw [if_neg hf] at hu; cases hu

/-- The label of a point. -/
def labelT (t : Tab) (z : Cx) : Option Int := (atC t.1 z).bind fun i => t.2[i]?

/-- Of a valid table: a point's place is the one place with its key. -/
theorem atC_key {Q : List Cx} (hf : ∀ p ∈ Q, finC p) (ha : Apart Q) {z : Cx} (hz : finC z) {i : Nat} {p : Cx} (hp : Q[i]? = some p) : atC Q z = some i ↔ keyC p = keyC z := by
  constructor
  · intro h
    obtain ⟨q, hq, h1, _⟩ := atC_some h
    rw [hp] at hq; cases hq
    rw [eqC_fin (hf p (List.mem_of_getElem? hp)) hz] at h1
    exact of_decide_eq_true h1
  · intro h
    have hpz : eqC p z = true := by rw [eqC_fin (hf p (List.mem_of_getElem? hp)) hz, decide_eq_true_iff]; exact h
    cases hc : atC Q z with
    | none => have := atC_none.1 hc p (List.mem_of_getElem? hp); rw [this] at hpz; cases hpz
    | some j =>
      obtain ⟨q, hq, h1, h2⟩ := atC_some hc
      have hji : j = i := by
        rcases Nat.lt_trichotomy j i with g | g | g
        · exfalso
          rw [eqC_fin (hf q (List.mem_of_getElem? hq)) hz] at h1
          have e := of_decide_eq_true h1
          have := (List.pairwise_iff_getElem.1 ha) j i (List.getElem?_eq_some_iff.1 hq).1 (List.getElem?_eq_some_iff.1 hp).1 g
          obtain ⟨_, e1⟩ := List.getElem?_eq_some_iff.1 hq
          obtain ⟨_, e2⟩ := List.getElem?_eq_some_iff.1 hp
          rw [e1, e2, eqC_fin (hf p (List.mem_of_getElem? hp)) (hf q (List.mem_of_getElem? hq)), decide_eq_false_iff_not] at this
          exact this (h.trans e.symm)
        · exact g
        · have := h2 i p g hp
          rw [this] at hpz; cases hpz
      rw [hji]

theorem labelT_key {t : Tab} (h : Valid t) {z z' : Cx} (hz : finC z) (hz' : finC z') (e : keyC z = keyC z') : labelT t z = labelT t z' := by
  have : atC t.1 z = atC t.1 z' := by
    cases hc : atC t.1 z with
    | none =>
      symm
      rw [atC_none] at hc ⊢
      intro p hp
      have := hc p hp
      rw [eqC_fin (h.fin p hp) hz, e, ← eqC_fin (h.fin p hp) hz'] at this
      exact this
    | some i =>
      obtain ⟨p, hp, _⟩ := atC_some hc
      symm
      rw [atC_key h.fin h.apart hz' hp, ← e]
      exact (atC_key h.fin h.apart hz hp).1 hc
  unfold labelT; rw [this]

theorem label_put {t u : Tab} {z : Cx} {n : Int} (h : Valid t) (hz : finC z) (hl : t.1.length < 64) (hu : putT t z n = some u) {q : Cx} (hq : finC q) :
    labelT u q = if keyC q = keyC z then some n else labelT t q := by
  have hsm : smallC z := ⟨hz.1.1, hz.2.1⟩
  obtain ⟨hv, _, _⟩ := h.put hsm hl hu
  unfold putT at hu
  cases ha : atC t.1 z with
  | some i =>
    rw [ha] at hu
    injection hu with hu
    obtain ⟨p, hp, _⟩ := atC_some ha
    have hk := (atC_key h.fin h.apart hz hp).1 ha
    subst hu
    by_cases e : keyC q = keyC z
    · rw [if_pos e]
      unfold labelT
      have : atC t.1 q = some i := by rw [atC_key h.fin h.apart hq hp, hk, e]
      show (atC t.1 q).bind _ = _
      rw [this]
      show (t.2.set i n)[i]? = some n
      rw [List.getElem?_set_self (by rw [h.len]; exact atC_lt ha)]
    · rw [if_neg e]
      unfold labelT
      show (atC t.1 q).bind (fun j => (t.2.set i n)[j]?) = _
      cases hc : atC t.1 q with
      | none => rfl
      | some j =>
        have hji : i ≠ j := by
          rintro rfl
          have := (atC_key h.fin h.apart hq hp).1 hc
          exact e (this.symm.trans hk)
        show (t.2.set i n)[j]? = t.2[j]?
        rw [List.getElem?_set_ne hji]
  | none =>
    rw [ha] at hu
    simp only [] at hu
    rw [if_pos (finB_of hz)] at hu
    injection hu with hu
    subst hu
    have hlast : (t.1 ++ [z])[t.1.length]? = some z := by simp
    by_cases e : keyC q = keyC z
    · rw [if_pos e]
      unfold labelT
      show (atC (t.1 ++ [z]) q).bind (fun j => (t.2 ++ [n])[j]?) = _
      rw [(atC_key hv.fin hv.apart hq hlast).2 e.symm]
      show (t.2 ++ [n])[t.1.length]? = some n
      rw [← h.len]; simp
    · rw [if_neg e]
      unfold labelT
      show (atC (t.1 ++ [z]) q).bind (fun j => (t.2 ++ [n])[j]?) = (atC t.1 q).bind _
      cases hc : atC t.1 q with
      | none =>
        have : atC (t.1 ++ [z]) q = none := by
          rw [atC_none] at hc ⊢
          intro p hp
          rcases List.mem_append.1 hp with g | g
          · exact hc p g
          · rw [List.mem_singleton.1 g, eqC_fin hz hq, decide_eq_false_iff_not]
            exact fun e' => e e'.symm
        rw [this]; rfl
      | some j =>
        obtain ⟨p, hp, _⟩ := atC_some hc
        have hjl := atC_lt hc
        have hp2 : (t.1 ++ [z])[j]? = some p := by rw [List.getElem?_append_left hjl]; exact hp
        rw [(atC_key hv.fin hv.apart hq hp2).2 ((atC_key h.fin h.apart hq hp).1 hc)]
        show (t.2 ++ [n])[j]? = t.2[j]?
        rw [List.getElem?_append_left (by rw [h.len]; exact hjl)]

theorem label_own {t : Tab} (h : Valid t) {i : Nat} {p : Cx} (hp : t.1[i]? = some p) : atC t.1 p = some i ∧ labelT t p = t.2[i]? := by
  have h1 := (atC_key h.fin h.apart (h.fin p (List.mem_of_getElem? hp)) hp).2 rfl
  exact ⟨h1, by unfold labelT; rw [h1]; rfl⟩
end
section
open Go.RowKit

/-- An answer, and nothing old is turned. -/
def Bool0 (r : Bool) (w : World) (e : Ending) (w' : World) : Prop := e = .returned (.bool r) ∧ Span 0 0 w w'

/-- The first m points are good; behind them the list ends, or a point is not finite. -/
structure GoodTo (Q : List Cx) (m : Nat) (r : Bool) : Prop where
  fin : ∀ j p, j < m → Q[j]? = some p → finB p = true
  apart : ∀ i j p q, i < j → j < m → Q[i]? = some p → Q[j]? = some q → eqC p q = false
  ends : (m = Q.length ∧ r = true) ∨ (r = false ∧ ∃ p, Q[m]? = some p ∧ finB p = false)

theorem good_valid {t : Tab} (h : Valid t) : GoodTo t.1 t.1.length true := by
  refine ⟨fun j p _ hp => finB_of (h.fin p (List.mem_of_getElem? hp)), fun i j p q hij hj hp hq => ?_, .inl ⟨rfl, rfl⟩⟩
  obtain ⟨h1, e1⟩ := List.getElem?_eq_some_iff.1 hp
  obtain ⟨h2, e2⟩ := List.getElem?_eq_some_iff.1 hq
  have := (List.pairwise_iff_getElem.1 h.apart) i j h1 h2 hij
  rw [e1, e2, eqC_fin (h.fin q (List.mem_of_getElem? hq)) (h.fin p (List.mem_of_getElem? hp)), decide_eq_false_iff_not] at this
  rw [eqC_fin (h.fin p (List.mem_of_getElem? hp)) (h.fin q (List.mem_of_getElem? hq)), decide_eq_false_iff_not]
  exact fun e => this e.symm
theorem good_last {t : Tab} {z : Cx} (h : Valid t) (hz : finB z = false) : GoodTo (t.1 ++ [z]) t.1.length false := by
  have g := good_valid h
  refine ⟨fun j p hj hp => g.fin j p hj (by rwa [List.getElem?_append_left hj] at hp), fun i j p q hij hj hp hq => g.apart i j p q hij hj (by rwa [List.getElem?_append_left (by omega)] at hp) (by rwa [List.getElem?_append_left hj] at hq), .inr ⟨rfl, z, by simp, hz⟩⟩

/-- The place of a point, or -1. -/
def placeZ (r : Option Nat) : Int := match r with | some i => (i : Int) | none => -1

theorem atC_take {Q : List Cx} {z : Cx} {k : Nat} (h : ∀ j q, j < k → Q[j]? = some q → eqC q z = false) {p : Cx} (hp : Q[k]? = some p) (he : eqC p z = true) : atC Q z = some k := by
  unfold atC
  rw [List.findIdx?_eq_some_iff_getElem]
  obtain ⟨h1, h2⟩ := List.getElem?_eq_some_iff.1 hp
  refine ⟨h1, by rw [h2]; exact he, fun j hj => ?_⟩
  have := h j Q[j] hj (List.getElem?_eq_getElem (by omega))
  rw [this]; simp

end
section
open Go.RowKit

theorem HasS.newsOf {α : Type} {val : α → Value} {o : Bool} {b lo hi : Nat} {w : World} {A : Option Addr} {n c : Nat} {xs : List α} (h : HasS val o b lo hi w (.slice A n c) xs) :
    n = xs.length ∧ (A = none → xs = []) ∧ ∀ ad, A = some ad → ∀ j u, (xs.map val)[j]? = some u → w.cell? (ad.add j) = some u := by
  obtain ⟨A', cap, he, hcap, hc⟩ := h
  injection he with e1 e2 e3
  subst e1 e2 e3
  refine ⟨rfl, fun ha => ?_, fun ad had j u hu => ?_⟩
  · cases xs with
    | nil => rfl
    | cons x l =>
      obtain ⟨off, h, _⟩ := hc (by simp)
      rw [ha] at h; cases h
  · rw [List.getElem?_map, Option.map_eq_some_iff] at hu
    obtain ⟨x, hx, rfl⟩ := hu
    have hj := (List.getElem?_eq_some_iff.1 hx).1
    obtain ⟨off, h, _, _, _, hcell, _⟩ := hc (by omega)
    rw [had] at h; cases h
    rw [Addr.add_lit]
    exact hcell j x hx

theorem setCells_nil (w : World) (b o : Nat) : w.setCells b o [] = w := rfl

theorem run_append_any {P : Program} {α : Type} {val : α → Value} (h1 : ∀ a, (val a).oneCell' = true) (w : World) (base : Nat) (t ty e : TypeId) (i : TypeInfo) (z : Value) (bytes : Nat) (ht : P.underlying t = some (.slice e)) (hi : P.info? e = some i) (hz : i.zero = some z)
    (hsize : i.size = 1) (hby : i.bytes = bytes) (hzs : z.cells.size = 1) (v : Value) (n : Nat) (ys : List Value) (hown : w.ownsRow base e 1 v n ys)
    {o : Bool} {b lo hi' : Nat} {x : Value} {xs : List α} (hx : HasS val o b lo hi' w x xs) (h63 : n + xs.length ≤ maxLen) (hbytes : (n + xs.length) * bytes ≤ 140737488355328) (hbase : base ≤ w.heap.size) :
    ∃ v' w', (Builtin.append_ #[t, t] ty #[v, x]).run P w = .ok v' w' ∧ w'.ownsRow base e 1 v' (n + xs.length) (ys ++ xs.map val) ∧ w.grownBy w' v.ownBlock ∧ (v'.ownBlock = v.ownBlock ∨ v'.ownBlock = some w.heap.size) := by
  obtain ⟨A, c, rfl, hc⟩ := id hx
  obtain ⟨_, hn, hnews⟩ := hx.newsOf
  cases A with
  | some ad =>
    obtain ⟨v', w', r1, r2, r3, _, r5⟩ := run_append_own_at (P := P) w base t ty e i z 1 bytes ht hi hz hsize hby hzs (by omega) v n ys hown ad xs.length c (xs.map val) (by simp) (hnews ad rfl)
      (fun u hu => by obtain ⟨a, _, rfl⟩ := List.mem_map.1 hu; exact h1 a) h63 hbytes hbase
    exact ⟨v', w', r1, r2, r3, r5⟩
  | none =>
    have he := hn rfl
    subst he
    have hsrc := Src.ofNil (P := P) w (size := i.size) (tx := t) ht c
    rcases hown.2 with ⟨rfl, rfl⟩ | ⟨g, cap, cur, rfl, hb, hg, hnc, hr⟩
    · refine ⟨.slice none 0 0, w, ?_, by simpa using hown, World.grownBy.refl _ _, .inl rfl⟩
      simp [Builtin.append_, run_underlying ht, sizeOf, typeInfo, hi, Builtin.lenOf, Builtin.firstCells]
    · refine ⟨.slice (some ⟨g, 0, none⟩) n cap, w, ?_, by simpa using hown, World.grownBy.refl _ _, .inl rfl⟩
      have := run_append_room_src (P := P) w t t ty e i ht hi g 0 n cap (.slice none 0 c) 0 [] hsrc (by omega) (fun j hj => absurd hj (by simp)) (fun j hj => absurd hj (by simp))
      rw [setCells_nil] at this
      simpa using this

/-- What is owned of another type stays owned. -/
def Keeps (e : TypeId) (w w' : World) : Prop := ∀ (B : Nat) (e' : TypeId) (s : Nat) (v : Value) (n : Nat) (ys : List Value), e' ≠ e → w.ownsRow B e' s v n ys → w'.ownsRow B e' s v n ys

theorem own_lit {w : World} {B g : Nat} {e : TypeId} (h : w.heap[g]? = some (.cells #[] e (0, 0))) (hb : B ≤ g) : w.ownsRow B e 1 (.slice (some ⟨g, 0, none⟩) 0 0) 0 [] :=
  ⟨by simp, .inr ⟨g, 0, #[], rfl, hb, h, Nat.le_refl _, by unfold maxLen; omega, by simp, by simp⟩⟩

theorem step_append_any {P : Program} {α : Type} {val : α → Value} (h1 : ∀ a, (val a).oneCell' = true) {ops : Array Oper} {op : Oper} {a : Act} {w : World} {K : Act → World → Prop} {Q : Exit → Act → World → Prop} {E : Prop} (hgd : op.guard = none) (s x : Operand) (t : TypeId)
    (ho : op.op = .call { callee := .builtin .append, args := #[s, x], argTypes := #[t, t] })
    (e : TypeId) (i : TypeInfo) (z : Value) (bytes : Nat) (ht : P.underlying t = some (.slice e)) (hi : P.info? e = some i) (hz : i.zero = some z)
    (hsize : i.size = 1) (hby : i.bytes = bytes) (hzs : z.cells.size = 1) (hb8 : bytes ≤ 8)
    (w0 : World) {o : Bool} {b lo hi' : Nat} {vx : Value} {xs : List α} (hx : HasS val o b lo hi' w0 vx xs) (hlen : xs.length ≤ 4194304) (hxe : a.eval x = vx)
    (v : Value) (hs : a.eval s = v) (hown : w.ownsRow w0.heap.size e 1 v 0 []) (hS : Span 0 0 w0 w)
    (hK : ∀ A q w', w'.ownsRow w0.heap.size e 1 (.slice A xs.length q) xs.length (xs.map val) → Span 0 0 w0 w' → Keeps e w w' → K (a.put op.dst (.slice A xs.length q)) w') :
    if Region.wanted op (yielded ops a.tmps) = true then Oper.wp P op a w K Q else E := by
  have hw : Region.wanted op (yielded ops a.tmps) = true := by simp [Region.wanted, hgd]
  rw [if_pos hw]
  have hx' : HasS val o b lo hi' w vx xs := hx.span hS (.inl (Nat.le_refl _))
  obtain ⟨v', w', hr, h2, h3, _⟩ := run_append_any (P := P) h1 w w0.heap.size t op.type e i z bytes ht hi hz hsize hby hzs v 0 [] hown hx' (by unfold maxLen; omega) (by
    have : (0 + xs.length) * bytes ≤ (0 + xs.length) * 8 := Nat.mul_le_mul (Nat.le_refl _) hb8
    omega) hS.size
  rw [Nat.zero_add, List.nil_append] at h2
  have hsp : Span 0 0 w0 w' := hS.grown h3 (fun k hk => .inr (hown.lt k hk).1)
  have hkp : Keeps e w w' := fun B e' s' v0 n0 ys hne h0 => h0.kept h3 (by
    rcases owns_apart h0 hown hne with h | h
    · exact .inl h
    · exact .inr h)
  have hv : ∃ A q, v' = .slice A xs.length q := by
    rcases h2.2 with ⟨rfl, h0⟩ | ⟨g, cap, cur, rfl, _⟩
    · rw [h0]; exact ⟨_, _, rfl⟩
    · exact ⟨_, _, rfl⟩
  obtain ⟨A, q, rfl⟩ := hv
  unfold Oper.wp execOp
  simp only [ho, resolve, invoke, builtin, Sem.run_bind, Sem.run_pure, Result.andThen_ok, List.map_toArray, List.map_cons, List.map_nil, hs, hxe, hr]
  exact hK A q w' h2 hsp hkp

theorem Span.wid0 {w w' : World} (h : Span 0 0 w w') (lo hi : Nat) : Span lo hi w w' := h.wide fun _ _ hk => absurd hk.2 (by omega)
theorem cxV_one (a : Cx) : (cxV a).oneCell' = true := rfl
theorem intV_one (a : Int) : (intV a).oneCell' = true := rfl

/-- A table that the call owns. -/
def OwnsT (t : Tab) (w : World) (e : Ending) (w' : World) : Prop :=
  ∃ A q A' q', e = .returned (.agg #[.slice A t.1.length q, .slice A' t.2.length q']) ∧ w'.ownsRow w.heap.size 35 1 (.slice A t.1.length q) t.1.length (t.1.map cxV) ∧
    w'.ownsRow w.heap.size 3 1 (.slice A' t.2.length q') t.2.length (t.2.map intV) ∧ Span 0 0 w w'

theorem box_limbs {w0 w' : World} {B R : Nat} {u v : Value} (hb : Box B u v w0) (hR : B < R) (h : Span R (R + 1) w0 w') : w'.cell? ⟨B, 0, none⟩ = some u ∧ w'.cell? ⟨B, 1, none⟩ = some v ∧ Span R (R + 1) w0 w' := by
  obtain ⟨_, h1, h2, _⟩ := hb.span h (.inr (.inl hR))
  exact ⟨h1, h2, h⟩
end
section
open Go.RowKit

theorem ownsRow_lower {w : World} {B B' : Nat} {e : TypeId} {s : Nat} {v : Value} {n : Nat} {xs : List Value} (h : w.ownsRow B e s v n xs) (hb : B' ≤ B) : w.ownsRow B' e s v n xs := by
  obtain ⟨h1, h2 | ⟨g, cap, cur, hv, hg, r⟩⟩ := h
  · exact ⟨h1, .inl h2⟩
  · exact ⟨h1, .inr ⟨g, cap, cur, hv, Nat.le_trans hb hg, r⟩⟩
theorem lit_at {W : World} {g : Nat} {o : Obj} (h : g = W.heap.size) : (W.alloc o).heap[g]? = some o := by subst h; exact heap_alloc_new _ _
theorem lit_old {W : World} {g : Nat} {o o' : Obj} (h2 : W.heap[g]? = some o') : (W.alloc o).heap[g]? = some o' := by
  have hg : g < W.heap.size := (Array.getElem?_eq_some_iff.1 h2).1
  rw [Below.heap_alloc _ _ _ hg]; exact h2

end
section
open Go.RowKit

end
section
open Go.RowKit

end
end Go.Proofs.Ytfafkdpefdpnkaa
