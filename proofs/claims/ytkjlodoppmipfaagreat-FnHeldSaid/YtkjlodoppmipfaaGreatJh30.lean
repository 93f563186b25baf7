/- A circuit whose outputs become what a function makes of them. -/
import Derived.Test.YtkjlodoppmipfaaGreatJh29
import Derived.Outline
namespace Go.Proofs.YtkjlodoppmipfaaGreat
open Go.RowKit

/-- What of a circuit no step changes. -/
structure CircT (W : List Nat) (Q O n H bU bS : Nat) (C Bv : Value) (us : List (Kd × Nat)) (ss : List (Nat × List Nat × (Kd × Nat))) (w : World) : Prop where
  nin : Q ∉ W ∧ bU ∉ W ∧ bS ∉ W ∧ O ∈ W
  sizes : n ≤ 16 ∧ ss.length ≤ 16 ∧ us.length = n
  box : ∃ (U V : Value) (sts : List (Nat × Value × (Kd × Nat))), Bx Q #[C, U, V, .slice (some ⟨O, 0, none⟩) n n, Bv] w ∧ HasS uxV false bU 0 H w U us ∧ sts.length = ss.length ∧ HasC 3 stC bS 0 H w V sts ∧
    ∀ (j : Nat) (s : Nat × Value × (Kd × Nat)) (t : Nat × List Nat × (Kd × Nat)), sts[j]? = some s → ss[j]? = some t → s.1 = t.1 ∧ s.2.2 = t.2.2 ∧ ∃ bF, bF ∉ W ∧ bF < H ∧ HasS nV false bF 0 H w s.2.1 t.2.1
  top : (∀ b ∈ W, b < H) ∧ H ≤ w.heap.size ∧ Q < H ∧ bU < H ∧ bS < H
  places : ∀ (j : Nat) (t : Nat × List Nat × (Kd × Nat)), ss[j]? = some t → t.1 < n ∧ us[t.1]? = some t.2.2 ∧ t.2.1.length ≤ 40 ∧ ∀ f ∈ t.2.1, f < n
theorem CircT.keeps {W : List Nat} {Q O n H bU bS : Nat} {C Bv : Value} {us : List (Kd × Nat)} {ss : List (Nat × List Nat × (Kd × Nat))} {w w' : World} (h : CircT W Q O n H bU bS C Bv us ss w) (k : Keeps W w w') : CircT W Q O n H bU bS C Bv us ss w' := by
  obtain ⟨h1, h2, ⟨U, V, sts, g1, g2, g3, g4, g5⟩, h3, h4⟩ := h
  refine ⟨h1, h2, ⟨U, V, sts, g1.keeps k h1.1, g2.keeps k h1.2.1, g3, g4.keeps k h1.2.2.1, fun j s t hs ht => ?_⟩, ⟨h3.1, Nat.le_trans h3.2.1 k.size, h3.2.2⟩, h4⟩
  obtain ⟨e1, e2, bF, e3, e5, e4⟩ := g5 j s t hs ht
  exact ⟨e1, e2, bF, e3, e5, e4.keeps k e3⟩

theorem CircT.other {W V : List Nat} {Q O n H bU bS : Nat} {C Bv : Value} {us : List (Kd × Nat)} {ss : List (Nat × List Nat × (Kd × Nat))} {w w' : World} (h : CircT W Q O n H bU bS C Bv us ss w) (k : Keeps V w w') (hV : ∀ b ∈ V, H ≤ b) : CircT W Q O n H bU bS C Bv us ss w' := by
  obtain ⟨h1, h2, ⟨U, V', sts, g1, g2, g3, g4, g5⟩, h3, h4⟩ := h
  have out : ∀ b, b < H → b ∉ V := fun b hb hm => by have := hV b hm; omega
  refine ⟨h1, h2, ⟨U, V', sts, g1.keeps k (out _ h3.2.2.1), g2.keeps k (out _ h3.2.2.2.1), g3, g4.keeps k (out _ h3.2.2.2.2), fun j s t hs ht => ?_⟩, ⟨h3.1, Nat.le_trans h3.2.1 k.size, h3.2.2⟩, h4⟩
  obtain ⟨e1, e2, bF, e3, e5, e4⟩ := g5 j s t hs ht
  exact ⟨e1, e2, bF, e3, e5, e4.keeps k (out _ e5)⟩

/-- A circuit, its units and its outputs. -/
def CircB (W X : List Nat) (Q O n H bU bS : Nat) (C Bv : Value) (us : List (Kd × Nat)) (ss : List (Nat × List Nat × (Kd × Nat))) (fs : List (List Nat)) (s : List Un × List Cx) (w : World) : Prop :=
  CircT W Q O n H bU bS C Bv us ss w ∧ UnS W O X us fs s.1 w ∧ s.2.length = n ∧ HasS cxV true O O (O + 1) w (.slice (some ⟨O, 0, none⟩) n n) s.2
theorem CircB.far {W X : List Nat} {Q O n H bU bS : Nat} {C Bv : Value} {us : List (Kd × Nat)} {ss : List (Nat × List Nat × (Kd × Nat))} {fs : List (List Nat)} {s : List Un × List Cx} {w w' : World} (h : CircB W X Q O n H bU bS C Bv us ss fs s w) (k : Span 0 0 w w') : CircB W X Q O n H bU bS C Bv us ss fs s w' :=
  ⟨h.1.keeps (Keeps.span k), h.2.1.keep k, h.2.2.1, h.2.2.2.span k (.inl (Nat.le_refl _))⟩

theorem CircB.other {W X V : List Nat} {Q O n H bU bS : Nat} {C Bv : Value} {us : List (Kd × Nat)} {ss : List (Nat × List Nat × (Kd × Nat))} {fs : List (List Nat)} {s : List Un × List Cx} {w w' : World} (h : CircB W X Q O n H bU bS C Bv us ss fs s w) (k : Keeps V w w') (hV : ∀ b ∈ V, H ≤ b) (hX : ∀ b ∈ V, b ∈ X) : CircB W X Q O n H bU bS C Bv us ss fs s w' :=
  ⟨h.1.other k hV, h.2.1.far k (fun b hb hm => by have := hV b hb; have := h.1.top.1 b hm; omega) hX, h.2.2.1, h.2.2.2.keeps k (fun hm => by have := hV O hm; have := h.1.top.1 O h.1.nin.2.2.2; omega)⟩
theorem CircB.more {W X : List Nat} {Q O n H bU bS : Nat} {C Bv : Value} {us : List (Kd × Nat)} {ss : List (Nat × List Nat × (Kd × Nat))} {fs : List (List Nat)} {s : List Un × List Cx} {w w' : World} (h : CircB W X Q O n H bU bS C Bv us ss fs s w) (k : Span 0 0 w w') {G : Nat} (hG : w.heap.size ≤ G) (hG2 : G < w'.heap.size) : CircB W (G :: X) Q O n H bU bS C Bv us ss fs s w' :=
  ⟨h.1.keeps (Keeps.span k), h.2.1.more k hG hG2, h.2.2.1, h.2.2.2.span k (.inl (Nat.le_refl _))⟩
theorem CircB.next {W X : List Nat} {Q O n H bU bS : Nat} {C Bv : Value} {us : List (Kd × Nat)} {ss : List (Nat × List Nat × (Kd × Nat))} {fs : List (List Nat)} {s : List Un × List Cx} {wo wA w5 : World} (h : CircB W X Q O n H bU bS C Bv us ss fs s wo) (sA : Span 0 0 wo wA) {i : Nat} {x : Kd × Nat} {f : List Nat} {u' : Un} (y : Cx) (hi : i < n) (hx : us[i]? = some x) (hf : fs[i]? = some f) (k5 : Keeps f wA w5) (hu : HasU X u' x f w5) :
    CircB W X Q O n H bU bS C Bv us ss fs (s.1.set i u', s.2.set i y) (w5.setCell ⟨O, i, none⟩ (cxV y)) ∧ Keeps W wo (w5.setCell ⟨O, i, none⟩ (cxV y)) := by
  obtain ⟨h1, h2, h3, h4⟩ := h
  have hsub := h2.sub i f hf
  have kW : Keeps W wo (w5.setCell ⟨O, i, none⟩ (cxV y)) := ((Keeps.span sA).trans (k5.weak (fun b hb => .inl (hsub b hb).1))).setCell O i h1.nin.2.2.2 _
  have kO : Keeps [O] w5 (w5.setCell ⟨O, i, none⟩ (cxV y)) := (Keeps.refl [O] w5).setCell O i (by simp) _
  refine ⟨⟨h1.keeps kW, ?_, by simp only [List.length_set]; exact h3, ?_⟩, kW⟩
  · exact ((h2.keep sA).set hx hf k5 hu).far kO (fun b hb _ => by simpa using hb) (fun b hb => by
      have hb : b = O := by simpa using hb
      rw [hb]; exact h2.wx O h1.nin.2.2.2)
  · have h5 := ((h4.span sA (.inl (Nat.le_refl _))).keeps k5 (fun hm => (hsub O hm).2 rfl)).putB i y (by rw [h3]; exact hi)
    rwa [Nat.zero_add] at h5

theorem CircB.out0 {W X : List Nat} {Q O n H bU bS : Nat} {C Bv : Value} {us : List (Kd × Nat)} {ss : List (Nat × List Nat × (Kd × Nat))} {fs : List (List Nat)} {s : List Un × List Cx} {w : World} (h : CircB W X Q O n H bU bS C Bv us ss fs s w) {i : Nat} {y : Cx} (hy : s.2[i]? = some y) : w.cell? ⟨O, i, none⟩ = some (.complex .f32 y.1 y.2) := by
  obtain ⟨_, _, h3, h4⟩ := h
  obtain ⟨A, c, e, _, hc⟩ := h4
  injection e with e1 e2 e3
  have hl := (List.getElem?_eq_some_iff.1 hy).1
  obtain ⟨off, e4, _, _, _, h5, _⟩ := hc (by omega)
  rw [← e1] at e4
  injection e4 with e4
  injection e4 with e5 e6
  have := h5 i y hy
  rw [← e6, Nat.zero_add] at this
  exact this
theorem CircB.thaw0 {W X : List Nat} {Q O n H bU bS : Nat} {C Bv : Value} {us : List (Kd × Nat)} {ss : List (Nat × List Nat × (Kd × Nat))} {fs : List (List Nat)} {s : List Un × List Cx} {w : World} (h : CircB W X Q O n H bU bS C Bv us ss fs s w) {i : Nat} (hi : i < n) : w.frozen? ⟨O, i, none⟩ = false := by
  obtain ⟨_, _, h3, h4⟩ := h
  obtain ⟨A, c, e, _, hc⟩ := h4
  injection e with e1 e2 e3
  obtain ⟨off, e4, _, _, _, _, h5⟩ := hc (by omega)
  rw [← e1] at e4
  injection e4 with e4
  injection e4 with e5 e6
  have := h5 rfl i (by omega)
  rw [← e6, Nat.zero_add] at this
  exact this
theorem CircB.putO {W X : List Nat} {Q O n H bU bS : Nat} {C Bv : Value} {us : List (Kd × Nat)} {ss : List (Nat × List Nat × (Kd × Nat))} {fs : List (List Nat)} {s : List Un × List Cx} {w : World} (h : CircB W X Q O n H bU bS C Bv us ss fs s w) {i : Nat} (hi : i < n) (y : Cx) :
    CircB W X Q O n H bU bS C Bv us ss fs (s.1, s.2.set i y) (w.setCell ⟨O, i, none⟩ (cxV y)) := by
  obtain ⟨h1, h2, h3, h4⟩ := h
  have kO : Keeps [O] w (w.setCell ⟨O, i, none⟩ (cxV y)) := (Keeps.refl [O] w).setCell O i (by simp) _
  have kW : Keeps W w (w.setCell ⟨O, i, none⟩ (cxV y)) := (Keeps.refl W w).setCell O i h1.nin.2.2.2 _
  refine ⟨h1.keeps kW, h2.far kO (fun b hb _ => by simpa using hb) (fun b hb => by
    have hb : b = O := by simpa using hb
    rw [hb]; exact h2.wx O h1.nin.2.2.2), by simp only [List.length_set]; exact h3, ?_⟩
  have h5 := h4.putB i y (by rw [h3]; exact hi)
  rwa [Nat.zero_add] at h5

theorem CircB.out {W X : List Nat} {Q O n H bU bS : Nat} {C Bv : Value} {us : List (Kd × Nat)} {ss : List (Nat × List Nat × (Kd × Nat))} {fs : List (List Nat)} {s : List Un × List Cx} {w : World} (h : CircB W X Q O n H bU bS C Bv us ss fs s w) {i : Nat} {y : Cx} (hy : s.2[i]? = some y) : w.cell? ⟨Q, 3, none⟩ = some (.slice (some ⟨O, 0, none⟩) n n) ∧ w.cell? ⟨O, i, none⟩ = some (.complex .f32 y.1 y.2) := by
  obtain ⟨h1, _, h3, h4⟩ := h
  obtain ⟨U, V, sts, hq, _⟩ := h1.box
  refine ⟨hq.cells 3, ?_⟩
  obtain ⟨A, c, e, _, hc⟩ := h4
  injection e with e1 e2 e3
  have hl := (List.getElem?_eq_some_iff.1 hy).1
  obtain ⟨off, e4, _, _, _, h5, _⟩ := hc (by omega)
  rw [← e1] at e4
  injection e4 with e4
  injection e4 with e5 e6
  have := h5 i y hy
  rw [← e6, Nat.zero_add] at this
  exact this

theorem CircAt.toB {W X : List Nat} {Q O n H bU bS : Nat} {C : Value} {us : List (Kd × Nat)} {ss : List (Nat × List Nat × (Kd × Nat))} {fs : List (List Nat)} {s : List Un × List Cx} {w : World} (h : CircAt W X Q O n H bU bS C us ss fs s w) : CircB W X Q O n H bU bS C asG us ss fs s w :=
  ⟨⟨h.1.nin, h.1.sizes, h.1.box, h.1.top, h.1.places⟩, h.2.1, h.2.2.1, h.2.2.2⟩
/-- A list whose cells the block Q does not hold stays when Q is written. -/
theorem HasS.putQ {α : Type} {val : α → Value} {own : Bool} {b lo hi Q i : Nat} {w : World} {v u : Value} {xs : List α} (h : HasS val own b lo hi w v xs) (hq : ∀ j x, w.cell? ⟨Q, j, none⟩ = some (val x) → False) : HasS val own b lo hi (w.setCell ⟨Q, i, none⟩ u) v xs := by
  obtain ⟨A, cap, rfl, hcap, hc⟩ := id h
  by_cases hp : 0 < xs.length
  · obtain ⟨off, rfl, _, _, _, h4, _⟩ := hc hp
    have hne : b ≠ Q := fun e => by
      subst e
      obtain ⟨x, hx⟩ := getElem?_some hp
      exact hq _ x (h4 0 x hx)
    exact h.keeps ((Keeps.refl [Q] w).setCell Q i (by simp) u) (by simpa using hne)
  · have : xs = [] := List.eq_nil_of_length_eq_zero (by omega)
    subst this
    exact HasS.empty ..
theorem HasC.putQ {α : Type} {s : Nat} {fl : α → List Value} {b lo hi Q i : Nat} {w : World} {v u : Value} {L : List α} (h : HasC s fl b lo hi w v L) (hq : ∀ j x y, (fl x)[0]? = some y → w.cell? ⟨Q, j, none⟩ = some y → False) (h0 : ∀ x, ∃ y, (fl x)[0]? = some y) : HasC s fl b lo hi (w.setCell ⟨Q, i, none⟩ u) v L := by
  obtain ⟨A, cap, rfl, hcap, hc⟩ := id h
  by_cases hp : 0 < L.length
  · obtain ⟨off, rfl, _, _, _, h4⟩ := hc hp
    have hne : b ≠ Q := fun e => by
      subst e
      obtain ⟨x, hx⟩ := getElem?_some hp
      obtain ⟨y, hy⟩ := h0 x
      exact hq _ x y hy (h4 0 x 0 y hx hy)
    exact h.keeps ((Keeps.refl [Q] w).setCell Q i (by simp) u) (by simpa using hne)
  · have : L = [] := List.eq_nil_of_length_eq_zero (by omega)
    subst this
    exact HasC.empty ..
/-- Another function. -/
theorem CircB.become {W X : List Nat} {Q O n H bU bS : Nat} {C Bv : Value} {us : List (Kd × Nat)} {ss : List (Nat × List Nat × (Kd × Nat))} {fs : List (List Nat)} {s : List Un × List Cx} {w : World} (h : CircB W X Q O n H bU bS C Bv us ss fs s w) (hC : ∃ A m c, C = .slice A m c) (hB : ∃ f a c, Bv = .func f a c) (Bw : Value) : CircB W X Q O n H bU bS C Bw us ss fs s (w.setCell ⟨Q, 4, none⟩ Bw) := by
  obtain ⟨⟨g1, g2, ⟨U, V, sts, q1, q2, q3, q4, q5⟩, g3, g4⟩, h2, h3, h4⟩ := h
  obtain ⟨CA, Cm, Cc, rfl⟩ := hC
  obtain ⟨B1, B2, B3, rfl⟩ := hB
  obtain ⟨UA, Uc, hU, _⟩ := id q2
  obtain ⟨VA, Vc, hV, _⟩ := id q4
  have hcell : ∀ i u, w.cell? ⟨Q, i, none⟩ = some u → (∃ a b c, u = .slice a b c) ∨ ∃ f a b, u = .func f a b := fun i u hu => by
    have e := (q1.cells i).symm.trans hu
    rw [hU, hV] at e
    rcases i with _ | _ | _ | _ | _ | i <;> simp at e <;> subst e
    · exact .inl ⟨_, _, _, rfl⟩
    · exact .inl ⟨_, _, _, rfl⟩
    · exact .inl ⟨_, _, _, rfl⟩
    · exact .inl ⟨_, _, _, rfl⟩
    · exact .inr ⟨_, _, _, rfl⟩
  have kQ : Keeps [Q] w (w.setCell ⟨Q, 4, none⟩ Bw) := (Keeps.refl [Q] w).setCell Q 4 (by simp) _
  have hQ4 := q1.set 4 Bw (by simp)
  refine ⟨⟨g1, g2, ⟨U, V, sts, by simpa using hQ4, q2.putQ (fun j x hx => ?_), q3, q4.putQ (fun j x y hy hx => ?_) (fun x => ⟨_, rfl⟩), fun j s t hs ht => ?_⟩, ⟨g3.1, Nat.le_trans g3.2.1 kQ.size, g3.2.2⟩, g4⟩, ⟨h2.len, fun i x f u hx hf hu => ?_, h2.sub, h2.dis, h2.wx, fun b hb => Nat.lt_of_lt_of_le (h2.lt b hb) kQ.size⟩, h3, ?_⟩
  · rcases hcell _ _ hx with ⟨a, b, c, e⟩ | ⟨a, b, c, e⟩ <;> cases e
  · cases hy
    rcases hcell _ _ hx with ⟨a, b, c, e⟩ | ⟨a, b, c, e⟩ <;> cases e
  · obtain ⟨e1, e2, bF, e3, e5, e4⟩ := q5 j s t hs ht
    exact ⟨e1, e2, bF, e3, e5, e4.putQ (fun j x hx => by rcases hcell _ _ hx with ⟨a, b, c, e⟩ | ⟨a, b, c, e⟩ <;> cases e)⟩
  · have hh := h2.has i x f u hx hf hu
    have hown := hh.own
    have hxW : x.2 ∉ [Q] := fun hm => by
      have e : x.2 = Q := by simpa using hm
      have := (h2.sub i f hf x.2 (by rw [hown.1]; simp)).1
      rw [e] at this
      exact g1.1 this
    cases u with
    | box cs =>
      obtain ⟨k1, k2, k3⟩ := hh
      exact ⟨k1, k2, k3.keeps kQ hxW⟩
    | ring xs a =>
      obtain ⟨k1, k2, k3, A, p, sb, k4, k5, k6⟩ := hh
      exact ⟨k1, k2, k3, A, p, sb, k4, k5.keeps kQ hxW, (k6.putQ (fun j x hx => by rcases hcell _ _ hx with ⟨a, b, c, e⟩ | ⟨a, b, c, e⟩ <;> cases e)).weak (Nat.le_refl _) (.inl kQ.size)⟩
  · exact h4.keeps kQ (fun hm => g1.1 (by have e : O = Q := by simpa using hm
                                          rw [← e]; exact g1.2.2.2))
end Go.Proofs.YtkjlodoppmipfaaGreat
