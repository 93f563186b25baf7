/- A circuit in memory: what stays, what a step changes. -/
import Derived.Test.YtkjlodoppmipfaaGreatJh23
import Derived.Laws.ComplexArith
import Derived.Outline
namespace Go.Proofs.YtkjlodoppmipfaaGreat
open Go.RowKit

/-- What a unit is: the cells of its box; or, of a delay, the samples of its ring, and where the oldest is. -/
inductive Un where
  | box (cs : Array Value)
  | ring (xs : List Cx) (i : Nat)
/-- A unit in memory, on the blocks f; what it reads besides lies on none of the blocks X. -/
def HasU (X : List Nat) (u : Un) (x : Kd × Nat) (f : List Nat) (w : World) : Prop :=
  match u with
  | .box cs => x.1 ≠ .delay ∧ f = [x.2] ∧ Bx x.2 cs w
  | .ring xs i => x.1 = .delay ∧ f = [x.2] ∧ 0 < xs.length ∧ ∃ A p s, s ∉ X ∧ Bx x.2 #[.slice A xs.length p, .int .i64 (i : Int), .int .i64 (xs.length : Int)] w ∧ HasS cxV false s 0 w.heap.size w (.slice A xs.length p) xs
theorem HasU.keeps {X : List Nat} {u : Un} {x : Kd × Nat} {f V : List Nat} {w w' : World} (h : HasU X u x f w) (k : Keeps V w w') (hd : ∀ b ∈ f, b ∉ V) (hX : ∀ b ∈ V, b ∈ X) : HasU X u x f w' := by
  cases u with
  | box cs =>
    obtain ⟨h1, rfl, h3⟩ := h
    exact ⟨h1, rfl, h3.keeps k (hd _ (by simp))⟩
  | ring xs i =>
    obtain ⟨h1, rfl, h0, A, p, s, h2, h3, h4⟩ := h
    exact ⟨h1, rfl, h0, A, p, s, h2, h3.keeps k (hd _ (by simp)), (h4.keeps k (fun hm => h2 (hX _ hm))).weak (Nat.le_refl _) (.inl k.size)⟩
theorem HasU.keep {X : List Nat} {u : Un} {x : Kd × Nat} {f : List Nat} {w w' : World} (h : HasU X u x f w) (s : Span 0 0 w w') : HasU X u x f w' :=
  h.keeps (V := []) (Keeps.span s) (fun b _ hb => by simp at hb) (fun b hb => by simp at hb)
theorem HasU.own {X : List Nat} {u : Un} {x : Kd × Nat} {f : List Nat} {w : World} (h : HasU X u x f w) : f = [x.2] ∧ x.2 < w.heap.size := by
  cases u with
  | box cs => obtain ⟨_, h2, h3⟩ := h; exact ⟨h2, h3.1⟩
  | ring xs i => obtain ⟨_, h2, _, A, p, s, _, h3, _⟩ := h; exact ⟨h2, h3.1⟩
theorem HasU.more {X : List Nat} {u : Un} {x : Kd × Nat} {f : List Nat} {w : World} (h : HasU X u x f w) {G : Nat} (hG : w.heap.size ≤ G) : HasU (G :: X) u x f w := by
  cases u with
  | box cs => exact h
  | ring xs i =>
    obtain ⟨h1, rfl, h0, A, p, s, h2, h3, h4⟩ := h
    refine ⟨h1, rfl, h0, A, p, s, fun hm => ?_, h3, h4⟩
    rcases List.mem_cons.1 hm with rfl | hm
    · obtain ⟨_, _, _, _, hc⟩ := h4
      obtain ⟨_, _, _, _, h5, _⟩ := hc h0
      omega
    · exact h2 hm

def asG : Value := .func (.func 58) #[] #[]
/-- What of a circuit no step changes. -/
structure CircS (W : List Nat) (Q O n H bU bS : Nat) (C : Value) (us : List (Kd × Nat)) (ss : List (Nat × List Nat × (Kd × Nat))) (w : World) : Prop where
  nin : Q ∉ W ∧ bU ∉ W ∧ bS ∉ W ∧ O ∈ W
  sizes : n ≤ 16 ∧ ss.length ≤ 16 ∧ us.length = n
  box : ∃ (U V : Value) (sts : List (Nat × Value × (Kd × Nat))), Bx Q #[C, U, V, .slice (some ⟨O, 0, none⟩) n n, asG] w ∧ HasS uxV false bU 0 H w U us ∧ sts.length = ss.length ∧ HasC 3 stC bS 0 H w V sts ∧
    ∀ (j : Nat) (s : Nat × Value × (Kd × Nat)) (t : Nat × List Nat × (Kd × Nat)), sts[j]? = some s → ss[j]? = some t → s.1 = t.1 ∧ s.2.2 = t.2.2 ∧ ∃ bF, bF ∉ W ∧ bF < H ∧ HasS nV false bF 0 H w s.2.1 t.2.1
  top : (∀ b ∈ W, b < H) ∧ H ≤ w.heap.size ∧ Q < H ∧ bU < H ∧ bS < H
  places : ∀ (j : Nat) (t : Nat × List Nat × (Kd × Nat)), ss[j]? = some t → t.1 < n ∧ us[t.1]? = some t.2.2 ∧ t.2.1.length ≤ 40 ∧ ∀ f ∈ t.2.1, f < n
theorem CircS.keeps {W : List Nat} {Q O n H bU bS : Nat} {C : Value} {us : List (Kd × Nat)} {ss : List (Nat × List Nat × (Kd × Nat))} {w w' : World} (h : CircS W Q O n H bU bS C us ss w) (k : Keeps W w w') : CircS W Q O n H bU bS C us ss w' := by
  obtain ⟨h1, h2, ⟨U, V, sts, g1, g2, g3, g4, g5⟩, h3, h4⟩ := h
  refine ⟨h1, h2, ⟨U, V, sts, g1.keeps k h1.1, g2.keeps k h1.2.1, g3, g4.keeps k h1.2.2.1, fun j s t hs ht => ?_⟩, ⟨h3.1, Nat.le_trans h3.2.1 k.size, h3.2.2⟩, h4⟩
  obtain ⟨e1, e2, bF, e3, e5, e4⟩ := g5 j s t hs ht
  exact ⟨e1, e2, bF, e3, e5, e4.keeps k e3⟩

theorem CircS.other {W V : List Nat} {Q O n H bU bS : Nat} {C : Value} {us : List (Kd × Nat)} {ss : List (Nat × List Nat × (Kd × Nat))} {w w' : World} (h : CircS W Q O n H bU bS C us ss w) (k : Keeps V w w') (hV : ∀ b ∈ V, H ≤ b) : CircS W Q O n H bU bS C us ss w' := by
  obtain ⟨h1, h2, ⟨U, V', sts, g1, g2, g3, g4, g5⟩, h3, h4⟩ := h
  have out : ∀ b, b < H → b ∉ V := fun b hb hm => by have := hV b hm; omega
  refine ⟨h1, h2, ⟨U, V', sts, g1.keeps k (out _ h3.2.2.1), g2.keeps k (out _ h3.2.2.2.1), g3, g4.keeps k (out _ h3.2.2.2.2), fun j s t hs ht => ?_⟩, ⟨h3.1, Nat.le_trans h3.2.1 k.size, h3.2.2⟩, h4⟩
  obtain ⟨e1, e2, bF, e3, e5, e4⟩ := g5 j s t hs ht
  exact ⟨e1, e2, bF, e3, e5, e4.keeps k (out _ e5)⟩

/-- The units of a circuit. -/
structure UnS (W : List Nat) (O : Nat) (X : List Nat) (us : List (Kd × Nat)) (fs : List (List Nat)) (Us : List Un) (w : World) : Prop where
  len : fs.length = us.length ∧ Us.length = us.length
  has : ∀ (i : Nat) (x : Kd × Nat) (f : List Nat) (u : Un), us[i]? = some x → fs[i]? = some f → Us[i]? = some u → HasU X u x f w
  sub : ∀ (i : Nat) (f : List Nat), fs[i]? = some f → ∀ b ∈ f, b ∈ W ∧ b ≠ O
  dis : ∀ (i j : Nat) (f f' : List Nat), fs[i]? = some f → fs[j]? = some f' → ∀ b, b ∈ f → b ∈ f' → i = j
  wx : ∀ b ∈ W, b ∈ X
  lt : ∀ b ∈ X, b < w.heap.size
theorem UnS.far {W V : List Nat} {O : Nat} {X : List Nat} {us : List (Kd × Nat)} {fs : List (List Nat)} {Us : List Un} {w w' : World} (h : UnS W O X us fs Us w) (k : Keeps V w w') (hd : ∀ b ∈ V, b ∈ W → b = O) (hX : ∀ b ∈ V, b ∈ X) : UnS W O X us fs Us w' :=
  ⟨h.len, fun i x f u hx hf hu => (h.has i x f u hx hf hu).keeps k (fun b hb hm => by
    have := h.sub i f hf b hb
    exact this.2 (hd b hm this.1)) hX, h.sub, h.dis, h.wx, fun b hb => Nat.lt_of_lt_of_le (h.lt b hb) k.size⟩
theorem UnS.keep {W : List Nat} {O : Nat} {X : List Nat} {us : List (Kd × Nat)} {fs : List (List Nat)} {Us : List Un} {w w' : World} (h : UnS W O X us fs Us w) (s : Span 0 0 w w') : UnS W O X us fs Us w' :=
  h.far (V := []) (Keeps.span s) (fun b hb => by simp at hb) (fun b hb => by simp at hb)
theorem UnS.set {W : List Nat} {O : Nat} {X : List Nat} {us : List (Kd × Nat)} {fs : List (List Nat)} {Us : List Un} {w w' : World} (h : UnS W O X us fs Us w) {i : Nat} {x : Kd × Nat} {f : List Nat} {u' : Un} (hx : us[i]? = some x) (hf : fs[i]? = some f) (k : Keeps f w w') (hu : HasU X u' x f w') : UnS W O X us fs (Us.set i u') w' := by
  refine ⟨⟨h.len.1, by rw [List.length_set]; exact h.len.2⟩, fun j y g u hy hg hu2 => ?_, h.sub, h.dis, h.wx, fun b hb => Nat.lt_of_lt_of_le (h.lt b hb) k.size⟩
  have hl : i < Us.length := by have := (List.getElem?_eq_some_iff.1 hx).1; rw [h.len.2]; exact this
  by_cases hj : j = i
  · subst hj
    rw [List.getElem?_set_self hl] at hu2
    rw [hx] at hy; rw [hf] at hg
    cases hu2; cases hy; cases hg
    exact hu
  · rw [List.getElem?_set_ne (by omega)] at hu2
    exact (h.has j y g u hy hg hu2).keeps k (fun b hb hm => hj (h.dis j i g f hg hf b hb hm)) (fun b hb => h.wx b (h.sub i f hf b hb).1)
theorem UnS.more {W : List Nat} {O : Nat} {X : List Nat} {us : List (Kd × Nat)} {fs : List (List Nat)} {Us : List Un} {w w' : World} (h : UnS W O X us fs Us w) (s : Span 0 0 w w') {G : Nat} (hG : w.heap.size ≤ G) (hG2 : G < w'.heap.size) : UnS W O (G :: X) us fs Us w' :=
  ⟨h.len, fun i x f u hx hf hu => ((h.has i x f u hx hf hu).more hG).keep s, h.sub, h.dis, fun b hb => List.mem_cons_of_mem _ (h.wx b hb), fun b hb => by
    rcases List.mem_cons.1 hb with rfl | hb
    · exact hG2
    · exact Nat.lt_of_lt_of_le (h.lt b hb) s.size⟩

/-- A unit's step. -/
def StepsU (kd : Kd) (u : Un) (z : Cx) (u' : Un) (y : Cx) : Prop :=
  ∀ (X : List Nat) (g : Nat) (f : List Nat) (w : World), (∀ b ∈ X, b < w.heap.size) → HasU X u (kd, g) f w → Calls Tryz.prog kd.fs #[.pointer (some ⟨g, 0, none⟩), .complex .f32 z.1 z.2] w fun e w' => e = .returned (.complex .f32 y.1 y.2) ∧ HasU X u' (kd, g) f w' ∧ Keeps f w w'
/-- A sum of two samples in which no NaN comes. -/
def Adds (a b c : Cx) : Prop := cSumBits .add .f32 a.1 a.2 b.1 b.2 = some c
/-- A station's step: the input is the sum of what feeds it. -/
def One (inn : Int) (z : Cx) (t : Nat × List Nat × (Kd × Nat)) (s s' : List Un × List Cx) : Prop :=
  ∃ (parts : Nat → Cx) (u u' : Un) (y : Cx), (if (t.1 : Int) = inn then Adds (0, 0) z (parts 0) else parts 0 = (0, 0)) ∧
    (∀ j, j < t.2.1.length → ∃ f o, t.2.1[j]? = some f ∧ s.2[f]? = some o ∧ Adds (parts j) o (parts (j + 1))) ∧
    s.1[t.1]? = some u ∧ StepsU t.2.2.1 u (parts t.2.1.length) u' y ∧ s' = (s.1.set t.1 u', s.2.set t.1 y)

set_option maxRecDepth 100000 in
theorem asGiven_is (i : Int) (p q : Nat) (w : World) : Calls Tryz.prog 58 #[.int .i64 i, .complex .f32 p q] w fun e w' => e = .returned (.complex .f32 p q) ∧ w = w' := by
  go_enter Tryz.func58, Tryz.ntmps58
  go_wp2_with fail
  go_ret
  exact ⟨rfl, rfl⟩
end Go.Proofs.YtkjlodoppmipfaaGreat
