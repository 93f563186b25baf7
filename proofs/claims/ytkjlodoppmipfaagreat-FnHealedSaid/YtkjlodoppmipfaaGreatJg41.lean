/- A rack is traced: what each module gives at each step. A rack without slicers is traced. -/
import Derived.Test.YtkjlodoppmipfaaGreatJg23
import Derived.Deep.AppendLies
import Derived.Outline
namespace Go.Proofs.YtkjlodoppmipfaaGreat
section
open Go.RowKit

/-- What each module gave, so far. -/
structure TrAt (F n : Nat) (L : List (List Cx)) (vs : List Value) (w : World) : Prop where
  len : vs.length = n ∧ L.length = n
  box : Bx F vs.toArray w
  own : ∀ (i : Nat) (v : Value) (l : List Cx), vs[i]? = some v → L[i]? = some l → w.ownsRow (F + 1) 23 1 v l.length (l.map cxV)
  apart : ∀ (i j : Nat) (v v' : Value) (b : Nat), vs[i]? = some v → vs[j]? = some v' → v.ownBlock = some b → v'.ownBlock = some b → i = j

theorem TrAt.next {F n : Nat} {L : List (List Cx)} {vs : List Value} {wr w1 w6 : World} (h : TrAt F n L vs wr) {x : Cx} {y : Nat} {v : Value} {l : List Cx} (hv : vs[y]? = some v) (hl : L[y]? = some l) (s1 : Span 0 0 wr w1) (o : Obj) {g c : Nat}
    (ho : w6.ownsRow (F + 1) 23 1 (.slice (some ⟨g, 0, none⟩) (l.length + 1) c) (l.length + 1) (l.map cxV ++ [cxV x])) (hgr : (w1.alloc o).grownBy w6 v.ownBlock) (hat : v.ownBlock = some g ∨ g = w1.heap.size + 1) :
    TrAt F n (L.set y (l ++ [x])) (vs.set y (.slice (some ⟨g, 0, none⟩) (l.length + 1) c)) (w6.setCell ⟨F, y, none⟩ (.slice (some ⟨g, 0, none⟩) (l.length + 1) c)) := by
  have hvl := (List.getElem?_eq_some_iff.1 hv).1
  have hll := (List.getElem?_eq_some_iff.1 hl).1
  have hub := (h.own y v l hv hl).lt
  have hgl := ho.lt g rfl
  have hz := s1.size
  have hF := h.box.1
  have other : ∀ (i : Nat) (v' : Value) (l' : List Cx), i ≠ y → vs[i]? = some v' → L[i]? = some l' → v.ownBlock = none ∨ v'.ownBlock ≠ v.ownBlock := fun i v' l' hne hv' hl' => by
    cases hb : v.ownBlock with
    | none => exact .inl rfl
    | some b => exact .inr (fun e => hne (h.apart i y v' v b hv' hv e hb))
  refine ⟨⟨by rw [List.length_set]; exact h.len.1, by rw [List.length_set]; exact h.len.2⟩, ?_, ?_, ?_⟩
  · have h1 := (((h.box.keep s1).alloc o).grown hgr (fun e => by have := hub _ e; omega)).set y (.slice (some ⟨g, 0, none⟩) (l.length + 1) c) (by simpa using hvl)
    have e2 : vs.toArray.setIfInBounds y (.slice (some ⟨g, 0, none⟩) (l.length + 1) c) = (vs.set y (.slice (some ⟨g, 0, none⟩) (l.length + 1) c)).toArray := by simp
    rwa [e2] at h1
  · intro i v' l' hv' hl'
    by_cases hi : i = y
    · subst hi
      rw [List.getElem?_set_self hvl] at hv'
      rw [List.getElem?_set_self hll] at hl'
      cases hv'; cases hl'
      have := ownsRow_span ho (setSpan F i (.slice (some ⟨g, 0, none⟩) (l.length + 1) c) w6) (fun b hb => by rw [ownBlock_slice] at hb; injection hb with hb; omega)
      rw [List.length_append, List.map_append]
      exact this
    · rw [List.getElem?_set_ne (by omega)] at hv' hl'
      have ho' := h.own i v' l' hv' hl'
      have h3 := ownsRow_farK ho' s1 (.inl (Nat.le_refl _))
      have h4 := (h3.alloc o).kept hgr (by
        rcases other i v' l' hi hv' hl' with h5 | h5
        · cases hb : v'.ownBlock with
          | none => exact .inl rfl
          | some b => exact .inr (by rw [h5]; simp)
        · exact .inr h5)
      exact ownsRow_span h4 (setSpan F y _ w6) (fun b hb => by have := h4.lt b hb; omega)
  · intro i j v1 v2 b h1 h2 b1 b2
    by_cases hi : i = y <;> by_cases hj : j = y
    · rw [hi, hj]
    · subst hi
      rw [List.getElem?_set_self hvl] at h1
      rw [List.getElem?_set_ne (by omega)] at h2
      cases h1
      rw [ownBlock_slice] at b1
      injection b1 with b1
      subst b1
      obtain ⟨l2, hl2⟩ := getElem?_some (xs := L) (j := j) (by have := (List.getElem?_eq_some_iff.1 h2).1; have := h.len; omega)
      have := (h.own j v2 l2 h2 hl2).lt _ b2
      rcases hat with hat | hat
      · exact h.apart i j v v2 g hv h2 hat b2
      · omega
    · subst hj
      rw [List.getElem?_set_self hvl] at h2
      rw [List.getElem?_set_ne (by omega)] at h1
      cases h2
      rw [ownBlock_slice] at b2
      injection b2 with b2
      subst b2
      obtain ⟨l2, hl2⟩ := getElem?_some (xs := L) (j := i) (by have := (List.getElem?_eq_some_iff.1 h1).1; have := h.len; omega)
      have := (h.own i v1 l2 h1 hl2).lt _ b1
      rcases hat with hat | hat
      · exact h.apart i j v1 v g h1 hv b1 hat
      · omega
    · rw [List.getElem?_set_ne (by omega)] at h1 h2
      exact h.apart i j v1 v2 b h1 h2 b1 b2
theorem TrAt.frame {F n : Nat} {L : List (List Cx)} {vs : List Value} {w2 wr w1 w6 : World} (h : TrAt F n L vs wr) {y : Nat} {v : Value} {l : List Cx} (hv : vs[y]? = some v) (hl : L[y]? = some l) (hF : w2.heap.size = F + 1) (s : Span F (F + 1) w2 wr) (s1 : Span 0 0 wr w1) (o : Obj) (hgr : (w1.alloc o).grownBy w6 v.ownBlock) (u : Value) : Span F (F + 1) w2 (w6.setCell ⟨F, y, none⟩ u) := by
  have hub := (h.own y v l hv hl).lt
  have h1 := ((s.thenAll s1).thenAll ((Span.refl 0 0 w1).alloc o)).thenGrown hgr (fun g e => by have := (hub g e).1; omega)
  exact h1.trans (setSpan F y u w6)
theorem TrAt.span {F n lo hi : Nat} {L : List (List Cx)} {vs : List Value} {w w' : World} (h : TrAt F n L vs w) (s : Span lo hi w w') (hd : hi ≤ F ∨ w.heap.size ≤ lo ∨ hi ≤ lo) : TrAt F n L vs w' := by
  have := h.box.1
  exact ⟨h.len, h.box.span s (by omega), fun i v l hv hl => ownsRow_span (h.own i v l hv hl) s (fun g hg => by have := (h.own i v l hv hl).lt g hg; omega), h.apart⟩


theorem TrAt.zero (w : World) (n : Nat) : TrAt w.heap.size n (List.replicate n []) (List.replicate n (.slice none 0 0)) (w.alloc (.cells (zerosV (.slice none 0 0) n) 25)) := by
  refine ⟨by simp, ?_, fun i v l hv hl => ?_, fun i j v v' b hv _ hb _ => ?_⟩
  · have := Bx.new w (zerosV (.slice none 0 0) n) 25
    rwa [show (List.replicate n (Value.slice none 0 0)).toArray = zerosV (.slice none 0 0) n by simp [zerosV]]
  · have hv' := List.mem_of_getElem? hv
    have hl' := List.mem_of_getElem? hl
    rw [(List.mem_replicate.1 hv').2, (List.mem_replicate.1 hl').2]
    exact World.ownsRow_nil ..
  · rw [(List.mem_replicate.1 (List.mem_of_getElem? hv)).2] at hb
    cases hb
theorem TrAt.keeps {F n : Nat} {L : List (List Cx)} {vs : List Value} {W : List Nat} {w w' : World} (h : TrAt F n L vs w) (k : Keeps W w w') (hW : ∀ b ∈ W, b < F) : TrAt F n L vs w' := by
  refine ⟨h.len, h.box.keeps k (fun hm => by have := hW F hm; omega), fun i v l hv hl => ?_, h.apart⟩
  obtain ⟨hl', h' | ⟨g, cap, cur, rfl, hg, hh, hr⟩⟩ := h.own i v l hv hl
  · exact ⟨hl', .inl h'⟩
  · exact ⟨hl', .inr ⟨g, cap, cur, rfl, hg, (k.block g (Array.getElem?_eq_some_iff.1 hh).1 (fun hm => by have := hW g hm; omega)).trans hh, hr⟩⟩

/-- The rows when r steps are done, and of the next one the first i. -/
def rowsAt (S : Nat → List Un × List Cx) (n r i : Nat) : List (List Cx) := (List.range n).map fun j => (List.range (if j < i then r + 1 else r)).map fun s => (S (s + 1)).2.getD j (0, 0)
theorem rowsAt_zero (S : Nat → List Un × List Cx) (n : Nat) : rowsAt S n 0 0 = List.replicate n [] := by
  apply List.ext_getElem? ; intro j
  unfold rowsAt
  rw [List.getElem?_map, List.getElem?_replicate]
  by_cases hj : j < n
  · rw [List.getElem?_range hj, if_pos hj]; simp
  · rw [List.getElem?_eq_none (by simp; omega), if_neg hj]; rfl
theorem rowsAt_get (S : Nat → List Un × List Cx) {n r i j : Nat} (hj : j < n) : (rowsAt S n r i)[j]? = some ((List.range (if j < i then r + 1 else r)).map fun s => (S (s + 1)).2.getD j (0, 0)) := by
  unfold rowsAt
  rw [List.getElem?_map, List.getElem?_range hj]; rfl
theorem rowsAt_next (S : Nat → List Un × List Cx) {n r i : Nat} (hi : i < n) {y : Cx} (hy : (S (r + 1)).2[i]? = some y) : (rowsAt S n r i).set i (((List.range r).map fun s => (S (s + 1)).2.getD i (0, 0)) ++ [y]) = rowsAt S n r (i + 1) := by
  apply List.ext_getElem? ; intro j
  have hl : (rowsAt S n r i).length = n := by simp [rowsAt]
  by_cases hj : j < n
  · rw [rowsAt_get S hj]
    by_cases hji : j = i
    · subst hji
      rw [List.getElem?_set_self (by omega), if_pos (by omega), List.range_succ, List.map_append]
      simp only [List.map_cons, List.map_nil, List.getD_eq_getElem?_getD, hy, Option.getD_some]
    · rw [List.getElem?_set_ne (by omega), rowsAt_get S hj]
      by_cases hlt : j < i
      · rw [if_pos hlt, if_pos (by omega)]
      · rw [if_neg hlt, if_neg (by omega)]
  · rw [List.getElem?_eq_none (by simp [rowsAt]; omega), List.getElem?_eq_none (by simp [rowsAt]; omega)]
theorem rowsAt_round (S : Nat → List Un × List Cx) (n r : Nat) : rowsAt S n r n = rowsAt S n (r + 1) 0 := by
  unfold rowsAt
  apply List.map_congr_left
  intro j hj
  rw [if_pos (List.mem_range.1 hj), if_neg (Nat.not_lt_zero _)]

theorem UnS.grow {W V : List Nat} {O : Nat} {X : List Nat} {us : List (Kd × Nat)} {fs : List (List Nat)} {Us : List Un} {w w' : World} (h : UnS W O X us fs Us w) (k : Keeps V w w') (hd : ∀ b ∈ V, b ∈ W → b = O) (hX : ∀ b ∈ V, b ∈ X) {G : Nat} (hG : w.heap.size ≤ G ∨ G ∈ X) (hG2 : G < w'.heap.size) : UnS W O (G :: X) us fs Us w' := by
  refine ⟨h.len, fun i x f u hx hf hu => ?_, h.sub, h.dis, fun b hb => List.mem_cons_of_mem _ (h.wx b hb), fun b hb => by
    rcases List.mem_cons.1 hb with rfl | hb
    · exact hG2
    · exact Nat.lt_of_lt_of_le (h.lt b hb) k.size⟩
  have h1 := h.has i x f u hx hf hu
  have h2 : HasU (G :: X) u x f w := by
    rcases hG with hG | hG
    · exact h1.more hG
    · cases u with
      | box cs => exact h1
      | ring xs a =>
        obtain ⟨g1, g2, g3, A, p, s, g4, g5⟩ := h1
        exact ⟨g1, g2, g3, A, p, s, fun hm => by
          rcases List.mem_cons.1 hm with rfl | hm
          · exact g4 hG
          · exact g4 hm, g5⟩
  exact h2.keeps k (fun b hb hm => by
    have := h.sub i f hf b hb
    exact this.2 (hd b hm this.1)) (fun b hb => List.mem_cons_of_mem _ (hX b hb))
theorem CircAt.grow {W X V : List Nat} {Q O n H bU bS : Nat} {C : Value} {us : List (Kd × Nat)} {ss : List (Nat × List Nat × (Kd × Nat))} {fs : List (List Nat)} {s : List Un × List Cx} {w w' : World} (h : CircAt W X Q O n H bU bS C us ss fs s w) (k : Keeps V w w') (hV : ∀ b ∈ V, H ≤ b) (hX : ∀ b ∈ V, b ∈ X) {G : Nat} (hG : w.heap.size ≤ G ∨ G ∈ X) (hG2 : G < w'.heap.size) : CircAt W (G :: X) Q O n H bU bS C us ss fs s w' :=
  ⟨h.1.other k hV, h.2.1.grow k (fun b hb hm => by have := hV b hb; have := h.1.top.1 b hm; omega) hX hG hG2, h.2.2.1, h.2.2.2.keeps k (fun hm => by have := hV O hm; have := h.1.top.1 O h.1.nin.2.2.2; omega)⟩

/-- What a trace of a rack gives. -/
def TracedRk (n : Nat) (L : List (List Cx)) (w : World) (e : Ending) (w' : World) : Prop :=
  ∃ (F : Nat) (vs : List Value), e = .returned (.tuple #[.slice (some ⟨F, 0, none⟩) n n, .bool true]) ∧ w.heap.size ≤ F ∧ TrAt F n L vs w' ∧ Span 0 0 w w'
/-- The blocks of the rows are among those. -/
def InX (X : List Nat) (F : Nat) (vs : List Value) : Prop := F ∈ X ∧ ∀ (i : Nat) (v : Value) (b : Nat), vs[i]? = some v → v.ownBlock = some b → b ∈ X
theorem info_c64s : (Tryz.prog.info? 25).map (fun i => (i.zero, i.size, i.bytes)) = some (some (.slice none 0 0), 1, 24) := by kernel_rfl
end
section
open Go.RowKit

theorem keeps_grown {w w1 : World} {o : Obj} {row : Option Nat} (g : (w.alloc o).grownBy w1 row) : Keeps row.toList w w1 :=
  ⟨g.os, g.tape, g.output, Nat.le_trans (by simp) g.size, fun k hk hn => (g.block k (by simp; omega) (fun e => hn (by rw [← e]; simp))).trans (((Span.refl 0 0 w).alloc o).block k hk (by omega))⟩

/-- A sample is appended to a row. -/
theorem trace_next {W X : List Nat} {Q O n F bU bS : Nat} {C : Value} {us : List (Kd × Nat)} {ss : List (Nat × List Nat × (Kd × Nat))} {fs : List (List Nat)} {S : Nat → List Un × List Cx} {w wr w6 : World} {vs : List Value} {r i : Nat} {y : Cx} {v : Value} {o : Obj} {g c : Nat}
    (hi : i < n) (hy : (S (r + 1)).2[i]? = some y) (hv : vs[i]? = some v) (ht : TrAt F n (rowsAt S n r i) vs wr) (hc : CircAt W X Q O n F bU bS C us ss fs (S (r + 1)) wr) (hx : InX X F vs) (s : Span 0 0 w wr) (hF : w.heap.size ≤ F)
    (ho : w6.ownsRow (F + 1) 23 1 (.slice (some ⟨g, 0, none⟩) (r + 1) c) (r + 1) (((List.range r).map fun s => (S (s + 1)).2.getD i (0, 0)).map cxV ++ [cxV y])) (hgr : (wr.alloc o).grownBy w6 v.ownBlock) (hat : v.ownBlock = some g ∨ g = wr.heap.size + 1) (hlt : g < w6.heap.size) :
    TrAt F n (rowsAt S n r (i + 1)) (vs.set i (.slice (some ⟨g, 0, none⟩) (r + 1) c)) (w6.setCell ⟨F, i, none⟩ (.slice (some ⟨g, 0, none⟩) (r + 1) c)) ∧
    CircAt W (g :: X) Q O n F bU bS C us ss fs (S (r + 1)) (w6.setCell ⟨F, i, none⟩ (.slice (some ⟨g, 0, none⟩) (r + 1) c)) ∧ InX (g :: X) F (vs.set i (.slice (some ⟨g, 0, none⟩) (r + 1) c)) ∧ Span 0 0 w (w6.setCell ⟨F, i, none⟩ (.slice (some ⟨g, 0, none⟩) (r + 1) c)) := by
  obtain ⟨l, hl0⟩ : ∃ l, l = (List.range r).map fun s => (S (s + 1)).2.getD i (0, 0) := ⟨_, rfl⟩
  have hl : (rowsAt S n r i)[i]? = some l := by rw [rowsAt_get S hi, if_neg (Nat.lt_irrefl _), hl0]
  have hll : l.length = r := by rw [hl0]; simp
  rw [← hl0] at ho
  have h1 := ht.next (x := y) hv hl (Span.refl 0 0 wr) o (g := g) (c := c) (by rw [hll]; exact ho) hgr hat
  rw [hll, hl0, rowsAt_next S hi hy] at h1
  have own := (ht.own i v l hv hl).lt
  have kV : Keeps (F :: v.ownBlock.toList) wr (w6.setCell ⟨F, i, none⟩ (.slice (some ⟨g, 0, none⟩) (r + 1) c)) := ((keeps_grown hgr).weak (fun k hk => .inl (List.mem_cons_of_mem _ hk))).setCell F i (by simp) _
  have hVlo : ∀ b ∈ F :: v.ownBlock.toList, F ≤ b := fun b hb => by
    rcases List.mem_cons.1 hb with rfl | hb
    · exact Nat.le_refl _
    · have := own b (by simpa using hb); omega
  refine ⟨h1, hc.grow kV hVlo (fun b hb => ?_) ?_ ?_, ⟨List.mem_cons_of_mem _ hx.1, fun j v' b hv' hb => ?_⟩, kV.fresh s (fun k hk => Nat.le_trans hF (hVlo k hk))⟩
  · rcases List.mem_cons.1 hb with rfl | hb
    · exact hx.1
    · exact hx.2 i v b hv (by simpa using hb)
  · rcases hat with h | h
    · exact .inr (hx.2 i v g hv h)
    · exact .inl (by omega)
  · simpa [World.setCell] using hlt
  · by_cases hj : j = i
    · subst hj
      rw [List.getElem?_set_self (List.getElem?_eq_some_iff.1 hv).1] at hv'
      injection hv' with hv'
      subst hv'
      rw [ownBlock_slice] at hb
      injection hb with hb
      subst hb
      exact List.mem_cons_self
    · rw [List.getElem?_set_ne (by omega)] at hv'
      exact List.mem_cons_of_mem _ (hx.2 j v' b hv' hb)
end
end Go.Proofs.YtkjlodoppmipfaaGreat
