/- A circuit that is being made: its units, what feeds them, its stations. -/
import Derived.Test.YtkjlodoppmipfaaGreatJh19
import Derived.Test.YtkjlodoppmipfaaGreatJh21
import Derived.Deep.AppendLies
import Derived.Outline
namespace Go.Proofs.YtkjlodoppmipfaaGreat
open Go.RowKit

theorem Bx.same {b : Nat} {us : Array Value} {w w' : World} (h : Bx b us w) (hz : w.heap.size ≤ w'.heap.size) (e : w'.heap[b]? = w.heap[b]?) : Bx b us w' :=
  ⟨Nat.lt_of_lt_of_le h.1 hz, fun i => (World.cell?_of_block (w := w) (a := ⟨b, i, none⟩) e).trans (h.2.1 i), fun i => (World.frozen?_of_block (w := w) (a := ⟨b, i, none⟩) e).trans (h.2.2 i)⟩
theorem Bx.grown {b : Nat} {us : Array Value} {w w' : World} {row : Option Nat} (h : Bx b us w) (hg : w.grownBy w' row) (hne : row ≠ some b) : Bx b us w' :=
  h.same hg.size (hg.block b h.1 (fun e => hne e.symm))
theorem ownsRow_span {w w' : World} {B lo hi : Nat} {e : TypeId} {s : Nat} {v : Value} {n : Nat} {xs : List Value} (h : w.ownsRow B e s v n xs) (sp : Span lo hi w w') (hd : ∀ g, v.ownBlock = some g → ¬ (lo ≤ g ∧ g < hi)) : w'.ownsRow B e s v n xs := by
  obtain ⟨hl, h | ⟨g, cap, cur, rfl, hg, hh, hr⟩⟩ := h
  · exact ⟨hl, .inl h⟩
  · exact ⟨hl, .inr ⟨g, cap, cur, rfl, hg, (sp.block g (Array.getElem?_eq_some_iff.1 hh).1 (hd g rfl)).trans hh, hr⟩⟩
theorem setSpan (b i : Nat) (v : Value) (w : World) : Span b (b + 1) w (w.setCell ⟨b, i, none⟩ v) :=
  (Span.refl b (b + 1) w).setCell (p := ⟨b, i, none⟩) (.inl ⟨Nat.le_refl _, Nat.lt_succ_self _⟩) v
theorem Span.thenAll {lo hi : Nat} {w w1 w2 : World} (s : Span lo hi w w1) (s' : Span 0 0 w1 w2) : Span lo hi w w2 :=
  ⟨s'.os.trans s.os, s'.tape.trans s.tape, s'.output.trans s.output, Nat.le_trans s.size s'.size, fun k hk hn => (s'.block k (Nat.lt_of_lt_of_le hk s.size) (by omega)).trans (s.block k hk hn)⟩
theorem Span.thenGrown {lo hi : Nat} {w w1 w2 : World} {row : Option Nat} (s : Span lo hi w w1) (s' : w1.grownBy w2 row) (hr : ∀ g, row = some g → w.heap.size ≤ g) : Span lo hi w w2 :=
  ⟨s'.os.trans s.os, s'.tape.trans s.tape, s'.output.trans s.output, Nat.le_trans s.size s'.size, fun k hk hn => (s'.block k (Nat.lt_of_lt_of_le hk s.size) (fun e => by have := hr k e.symm; omega)).trans (s.block k hk hn)⟩
theorem ownBlock_slice (g n c : Nat) : (Value.slice (some ⟨g, 0, none⟩) n c).ownBlock = some g := rfl

/-- The units so far. -/
structure UnitsAt (Q k : Nat) (U : Value) (Ns : List Mw) (us : List (Kd × Nat)) (w : World) : Prop where
  len : us.length = k
  own : w.ownsRow (Q + 1) 94 1 U k (us.map uxV)
  off : ∀ b, U.ownBlock = some b → ∀ x ∈ us, b ≠ x.2
  box : ∀ (i : Nat) (x : Kd × Nat), us[i]? = some x → Q < x.2 ∧ ∃ m, Ns[i]? = some m ∧ m.k = x.1.num ∧ Bx x.2 (uC x.1 m) w
  inj : ∀ (i j : Nat) (x y : Kd × Nat), us[i]? = some x → us[j]? = some y → x.2 = y.2 → i = j

theorem UnitsAt.next {Q k : Nat} {U : Value} {Ns : List Mw} {us : List (Kd × Nat)} {wr w1 w6 : World} (h : UnitsAt Q k U Ns us wr) (hQ : Q < wr.heap.size) {m : Mw} (hm : Ns[k]? = some m) {kd : Kd} (hk : m.k = kd.num) (s1 : Span 0 0 wr w1) {g : Nat} (hg : wr.heap.size ≤ g) (x1 : Bx g (uC kd m) w1) (o : Obj) {gU c : Nat}
    (ho : w6.ownsRow (Q + 1) 94 1 (.slice (some ⟨gU, 0, none⟩) (k + 1) c) (k + 1) (us.map uxV ++ [uxV (kd, g)])) (hgr : (w1.alloc o).grownBy w6 U.ownBlock) (hat : U.ownBlock = some gU ∨ gU = w1.heap.size + 1) :
    UnitsAt Q (k + 1) (.slice (some ⟨gU, 0, none⟩) (k + 1) c) Ns (us ++ [(kd, g)]) (w6.setCell ⟨Q, 1, none⟩ (.slice (some ⟨gU, 0, none⟩) (k + 1) c)) := by
  have hub := h.own.lt
  have hgu := ho.lt gU rfl
  have hz := s1.size
  have hgl := x1.1
  have old : ∀ x ∈ us, x.2 < wr.heap.size ∧ Q < x.2 := fun x hx => by
    obtain ⟨i, hi⟩ := List.getElem?_of_mem hx
    obtain ⟨h1, m', _, _, h2⟩ := h.box i x hi
    exact ⟨h2.1, h1⟩
  have lenx : (us ++ [(kd, g)]).length = k + 1 := by rw [List.length_append, h.len]; rfl
  have get : ∀ (i : Nat) (x : Kd × Nat), (us ++ [(kd, g)])[i]? = some x → us[i]? = some x ∨ (i = k ∧ x = (kd, g)) := fun i x hx => by
    rcases Nat.lt_trichotomy i us.length with hlt | he | hgt
    · rw [List.getElem?_append_left hlt] at hx; exact .inl hx
    · rw [he, List.getElem?_append_right (Nat.le_refl _), Nat.sub_self] at hx
      simp at hx
      exact .inr ⟨by rw [he, h.len], hx.symm⟩
    · rw [List.getElem?_eq_none (by simp; omega)] at hx; cases hx
  refine ⟨lenx, ?_, ?_, ?_, ?_⟩
  · rw [List.map_append]
    exact ownsRow_span ho (setSpan Q 1 _ w6) (fun b hb => by rw [ownBlock_slice] at hb; injection hb with hb; omega)
  · intro b hb x hx
    rw [ownBlock_slice] at hb
    injection hb with hb
    subst hb
    rcases List.mem_append.1 hx with hx | hx
    · have := old x hx
      rcases hat with hat | hat
      · exact h.off _ hat x hx
      · omega
    · simp at hx
      subst hx
      simp only
      rcases hat with hat | hat
      · have := hub _ hat; omega
      · omega
  · intro i x hx
    rcases get i x hx with hx | ⟨rfl, rfl⟩
    · obtain ⟨h1, m', h2, h3, h4⟩ := h.box i x hx
      have hmem := List.mem_of_getElem? hx
      exact ⟨h1, m', h2, h3, (((h4.keep s1).alloc o).grown hgr (fun e => h.off _ e x hmem rfl)).span (setSpan Q 1 _ w6) (by omega)⟩
    · exact ⟨by simp only; omega, m, hm, hk, ((x1.alloc o).grown hgr (fun e => by have := hub _ e; omega)).span (setSpan Q 1 _ w6) (by omega)⟩
  · intro i j x y hx hy he
    rcases get i x hx with hx | ⟨rfl, rfl⟩ <;> rcases get j y hy with hy | ⟨rfl, rfl⟩
    · exact h.inj i j x y hx hy he
    · have := old x (List.mem_of_getElem? hx); simp only at he; omega
    · have := old y (List.mem_of_getElem? hy); simp only at he; omega
    · rfl
theorem UnitsAt.bx {Q k : Nat} {U : Value} {Ns : List Mw} {us : List (Kd × Nat)} {wr w1 w6 : World} (h : UnitsAt Q k U Ns us wr) {x0 x2 x3 x4 : Value} (b : Bx Q #[x0, U, x2, x3, x4] wr) (s1 : Span 0 0 wr w1) (o : Obj) (hgr : (w1.alloc o).grownBy w6 U.ownBlock) (v : Value) : Bx Q #[x0, v, x2, x3, x4] (w6.setCell ⟨Q, 1, none⟩ v) := by
  have hub := h.own.lt
  have h1 := (((b.keep s1).alloc o).grown hgr (fun e => by have := hub _ e; omega)).set 1 v (by simp)
  simpa using h1
theorem UnitsAt.frame {Q k : Nat} {U : Value} {Ns : List Mw} {us : List (Kd × Nat)} {w2 wr w1 w6 : World} (h : UnitsAt Q k U Ns us wr) (hQ : w2.heap.size = Q + 1) (s : Span Q (Q + 1) w2 wr) (s1 : Span 0 0 wr w1) (o : Obj) (hgr : (w1.alloc o).grownBy w6 U.ownBlock) (v : Value) : Span Q (Q + 1) w2 (w6.setCell ⟨Q, 1, none⟩ v) := by
  have hub := h.own.lt
  have h1 := ((s.thenAll s1).thenAll ((Span.refl 0 0 w1).alloc o)).thenGrown hgr (fun g e => by have := (hub g e).1; omega)
  have h2 := setSpan Q 1 v w6
  exact h1.trans h2
theorem UnitsAt.span {Q k lo hi : Nat} {U : Value} {Ns : List Mw} {us : List (Kd × Nat)} {w w' : World} (h : UnitsAt Q k U Ns us w) (s : Span lo hi w w') (hd : hi ≤ Q + 1 ∨ w.heap.size ≤ lo ∨ hi ≤ lo) : UnitsAt Q k U Ns us w' := by
  refine ⟨h.len, ownsRow_span h.own s (fun g hg => by have := h.own.lt g hg; omega), h.off, fun i x hx => ?_, h.inj⟩
  obtain ⟨h1, m, h2, h3, h4⟩ := h.box i x hx
  have := h4.1
  exact ⟨h1, m, h2, h3, h4.span s (by omega)⟩

def nV (k : Nat) : Value := .int .i64 (k : Int)
/-- What feeds each module, so far. -/
structure FeedsAt (F n : Nat) (L : List (List Nat)) (vs : List Value) (w : World) : Prop where
  len : vs.length = n ∧ L.length = n
  box : Bx F vs.toArray w
  own : ∀ (i : Nat) (v : Value) (l : List Nat), vs[i]? = some v → L[i]? = some l → w.ownsRow (F + 1) 3 1 v l.length (l.map nV)
  apart : ∀ (i j : Nat) (v v' : Value) (b : Nat), vs[i]? = some v → vs[j]? = some v' → v.ownBlock = some b → v'.ownBlock = some b → i = j

def feedOne (L : List (List Nat)) (c : Nat × Nat) : List (List Nat) := L.set c.2 (L.getD c.2 [] ++ [c.1])
/-- The modules that feed each of n modules, in the order of the cables. -/
def feedsC (n : Nat) (Cs : List (Nat × Nat)) : List (List Nat) := Cs.foldl feedOne (List.replicate n [])
theorem feedsC_snoc (n : Nat) (Cs : List (Nat × Nat)) (c : Nat × Nat) : feedsC n (Cs ++ [c]) = feedOne (feedsC n Cs) c := by unfold feedsC; rw [List.foldl_append]; rfl
theorem feedOne_len (L : List (List Nat)) (c : Nat × Nat) : (feedOne L c).length = L.length := by unfold feedOne; simp
theorem feedOne_most (L : List (List Nat)) (c : Nat × Nat) (k : Nat) (h : ∀ l ∈ L, l.length ≤ k) : ∀ l ∈ feedOne L c, l.length ≤ k + 1 := by
  intro l hl
  unfold feedOne at hl
  rcases List.mem_or_eq_of_mem_set hl with hl | rfl
  · have := h l hl; omega
  · rw [List.length_append, List.getD_eq_getElem?_getD]
    cases hx : L[c.2]? with
    | none => simp
    | some x => have := h x (List.mem_of_getElem? hx); simp; omega

theorem FeedsAt.next {F n : Nat} {L : List (List Nat)} {vs : List Value} {wr w1 w6 : World} (h : FeedsAt F n L vs wr) {x y : Nat} {v : Value} {l : List Nat} (hv : vs[y]? = some v) (hl : L[y]? = some l) (s1 : Span 0 0 wr w1) (o : Obj) {g c : Nat}
    (ho : w6.ownsRow (F + 1) 3 1 (.slice (some ⟨g, 0, none⟩) (l.length + 1) c) (l.length + 1) (l.map nV ++ [nV x])) (hgr : (w1.alloc o).grownBy w6 v.ownBlock) (hat : v.ownBlock = some g ∨ g = w1.heap.size + 1) :
    FeedsAt F n (feedOne L (x, y)) (vs.set y (.slice (some ⟨g, 0, none⟩) (l.length + 1) c)) (w6.setCell ⟨F, y, none⟩ (.slice (some ⟨g, 0, none⟩) (l.length + 1) c)) := by
  have hvl := (List.getElem?_eq_some_iff.1 hv).1
  have hll := (List.getElem?_eq_some_iff.1 hl).1
  have hub := (h.own y v l hv hl).lt
  have hgl := ho.lt g rfl
  have hz := s1.size
  have hF := h.box.1
  have e0 : L.getD y [] = l := by rw [List.getD_eq_getElem?_getD, hl]; rfl
  have e1 : feedOne L (x, y) = L.set y (l ++ [x]) := by unfold feedOne; simp only [e0]
  have other : ∀ (i : Nat) (v' : Value) (l' : List Nat), i ≠ y → vs[i]? = some v' → L[i]? = some l' → v.ownBlock = none ∨ v'.ownBlock ≠ v.ownBlock := fun i v' l' hne hv' hl' => by
    cases hb : v.ownBlock with
    | none => exact .inl rfl
    | some b => exact .inr (fun e => hne (h.apart i y v' v b hv' hv e hb))
  rw [e1]
  refine ⟨⟨by rw [List.length_set]; exact h.len.1, by rw [List.length_set]; exact h.len.2⟩, ?_, ?_, ?_⟩
  · have h1 := (((h.box.keep s1).alloc o).grown hgr (fun e => by have := hub _ e; omega)).set y (.slice (some ⟨g, 0, none⟩) (l.length + 1) c) (by simpa using hvl)
    have e2 : vs.toArray.setIfInBounds y (.slice (some ⟨g, 0, none⟩) (l.length + 1) c) = (vs.set y (.slice (some ⟨g, 0, none⟩) (l.length + 1) c)).toArray := by simp
    rwa [e2] at h1
  · intro i v' l' hv' hl'
    by_cases hi : i = y
    · subst hi
      rw [List.getElem?_set_self hvl] at hv'
      rw [List.getElem?_set_self hll] at hl'
      cases hv'; cases hl'
      have := ownsRow_span ho (setSpan F i (.slice (some ⟨g, 0, none⟩) (l.length + 1) c) w6) (fun b hb => by rw [ownBlock_slice] at hb; injection hb with hb; omega)
      rw [List.length_append, List.map_append]
      exact this
    · rw [List.getElem?_set_ne (by omega)] at hv' hl'
      have ho' := h.own i v' l' hv' hl'
      have h3 := ownsRow_farK ho' s1 (.inl (Nat.le_refl _))
      have h4 := (h3.alloc o).kept hgr (by
        rcases other i v' l' hi hv' hl' with h5 | h5
        · cases hb : v'.ownBlock with
          | none => exact .inl rfl
          | some b => exact .inr (by rw [h5]; simp)
        · exact .inr h5)
      exact ownsRow_span h4 (setSpan F y _ w6) (fun b hb => by have := h4.lt b hb; omega)
  · intro i j v1 v2 b h1 h2 b1 b2
    by_cases hi : i = y <;> by_cases hj : j = y
    · rw [hi, hj]
    · subst hi
      rw [List.getElem?_set_self hvl] at h1
      rw [List.getElem?_set_ne (by omega)] at h2
      cases h1
      rw [ownBlock_slice] at b1
      injection b1 with b1
      subst b1
      obtain ⟨l2, hl2⟩ := getElem?_some (xs := L) (j := j) (by have := (List.getElem?_eq_some_iff.1 h2).1; have := h.len; omega)
      have := (h.own j v2 l2 h2 hl2).lt _ b2
      rcases hat with hat | hat
      · exact h.apart i j v v2 g hv h2 hat b2
      · omega
    · subst hj
      rw [List.getElem?_set_self hvl] at h2
      rw [List.getElem?_set_ne (by omega)] at h1
      cases h2
      rw [ownBlock_slice] at b2
      injection b2 with b2
      subst b2
      obtain ⟨l2, hl2⟩ := getElem?_some (xs := L) (j := i) (by have := (List.getElem?_eq_some_iff.1 h1).1; have := h.len; omega)
      have := (h.own i v1 l2 h1 hl2).lt _ b1
      rcases hat with hat | hat
      · exact h.apart i j v1 v g h1 hv b1 hat
      · omega
    · rw [List.getElem?_set_ne (by omega)] at h1 h2
      exact h.apart i j v1 v2 b h1 h2 b1 b2
theorem FeedsAt.frame {F n : Nat} {L : List (List Nat)} {vs : List Value} {w2 wr w1 w6 : World} (h : FeedsAt F n L vs wr) {y : Nat} {v : Value} {l : List Nat} (hv : vs[y]? = some v) (hl : L[y]? = some l) (hF : w2.heap.size = F + 1) (s : Span F (F + 1) w2 wr) (s1 : Span 0 0 wr w1) (o : Obj) (hgr : (w1.alloc o).grownBy w6 v.ownBlock) (u : Value) : Span F (F + 1) w2 (w6.setCell ⟨F, y, none⟩ u) := by
  have hub := (h.own y v l hv hl).lt
  have h1 := ((s.thenAll s1).thenAll ((Span.refl 0 0 w1).alloc o)).thenGrown hgr (fun g e => by have := (hub g e).1; omega)
  exact h1.trans (setSpan F y u w6)
theorem FeedsAt.span {F n lo hi : Nat} {L : List (List Nat)} {vs : List Value} {w w' : World} (h : FeedsAt F n L vs w) (s : Span lo hi w w') (hd : hi ≤ F ∨ w.heap.size ≤ lo ∨ hi ≤ lo) : FeedsAt F n L vs w' := by
  have := h.box.1
  exact ⟨h.len, h.box.span s (by omega), fun i v l hv hl => ownsRow_span (h.own i v l hv hl) s (fun g hg => by have := (h.own i v l hv hl).lt g hg; omega), h.apart⟩

/-- A station: its module, what feeds it, its unit's step. -/
def stC (s : Nat × Value × (Kd × Nat)) : List Value := [.int .i64 (s.1 : Int), s.2.1, .func (.method "loop.example/g03223/impl.step") #[uxV s.2.2] #[]]
theorem stC_len (s : Nat × Value × (Kd × Nat)) : (stC s).length = 3 := rfl
/-- The stations so far, of the modules of the order. -/
structure StAt (Z k : Nat) (V : Value) (os : List Int) (vs : List Value) (us : List (Kd × Nat)) (sts : List (Nat × Value × (Kd × Nat))) (w : World) : Prop where
  len : sts.length = k
  own : w.ownsRow Z 113 3 V k (flatG stC sts)
  is : ∀ (j : Nat) (s : Nat × Value × (Kd × Nat)), sts[j]? = some s → os[j]? = some (s.1 : Int) ∧ vs[s.1]? = some s.2.1 ∧ us[s.1]? = some s.2.2
end Go.Proofs.YtkjlodoppmipfaaGreat
