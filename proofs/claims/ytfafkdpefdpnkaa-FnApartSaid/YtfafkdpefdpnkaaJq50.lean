/- The program's pools: what CompactPool begins with. -/
import Derived.Test.YtfafkdpefdpnkaaJq49
namespace Go.Proofs.Ytfafkdpefdpnkaa
open Go.RowKit

theorem Bx.two {b : Nat} {x y : Value} {w : World} (h : Bx b #[x, y] w) : w.cell? ⟨b, 0, none⟩ = some x ∧ w.cell? ⟨b, 1, none⟩ = some y := ⟨h.2.1 0, h.2.1 1⟩

theorem Bx.twoD {b : Nat} {x y : Value} {w : World} (h : Bx b #[x, y] w) : w.drew.cell? ⟨b, 0, none⟩ = some x ∧ w.drew.cell? ⟨b, 1, none⟩ = some y := ⟨h.2.1 0, h.2.1 1⟩

theorem flat_set1 : ∀ (L : List Ls) (j : Nat) (x : Ls) (e : Nat), L[j]? = some x → flat (L.set j ⟨e, x.count, x.room, x.free⟩) = (flat L).set (j * 4) (.int .i64 (e : Int))
  | [], j, x, e, h => by simp at h
  | y :: L, 0, x, e, h => by
    simp at h; subst h
    rw [List.set_cons_zero, flat_cons, flat_cons]
    rfl
  | y :: L, j + 1, x, e, h => by
    simp at h
    have ih := flat_set1 L j x e h
    rw [List.set_cons_succ, flat_cons, flat_cons, ih, List.set_append_right _ _ (by show 4 ≤ _; omega), show (j + 1) * 4 - (lsC y).length = j * 4 by show (j + 1) * 4 - 4 = _; omega]

theorem Own.setL1 {R T B : Nat} {w : World} {S : List Cx} {L : List Ls} {A : Option Addr} {q g q' : Nat} {wr : World} (h : Own R T B w S L A q (some ⟨g, 0, none⟩) q' wr) (hR : R < B) (hw : w.heap.size ≤ B) {k : Nat} {x : Ls} (e : Nat) (hk : L[k]? = some x) :
    Own R T B w S (L.set k ⟨e, x.count, x.room, x.free⟩) A q (some ⟨g, 0, none⟩) q' (wr.setCell ⟨g, k * 4, none⟩ (.int .i64 (e : Int))) := by
  have sp : Span g (g + 1) wr (wr.setCell ⟨g, k * 4, none⟩ (.int .i64 (e : Int))) := (Span.refl g (g + 1) wr).setCell (.inl ⟨Nat.le_refl _, Nat.lt_succ_self _⟩) _
  have hgB : B ≤ g := (h.hl.lt g rfl).1
  have hgT : g ≠ T := h.ll g rfl
  have hl := (h.hl.stored (k * 4) (.int .i64 (e : Int))).1
  refine ⟨h.r.span sp (by omega), ?_, ownsRow_spanV h.hs sp (fun j hj => ?_), ?_, ?_, h.ls, ?_⟩
  · rw [List.length_set]; exact h.t.span sp (by omega)
  · rcases h.apart with e | e
    · rw [e] at hj; cases hj
    · intro hc
      have : j = g := by omega
      subst this
      exact e hj
  · rw [List.length_set, flat_set1 L k x e hk]; exact hl
  · exact ⟨sp.os.trans h.s.os, sp.tape.trans h.s.tape, sp.output.trans h.s.output, Nat.le_trans h.s.size sp.size, fun i hi hn => (sp.block i (Nat.lt_of_lt_of_le hi h.s.size) (by omega)).trans (h.s.block i hi hn)⟩
  · rw [List.length_set]; exact h.ll

theorem own_zeros (w : World) (e : TypeId) (z : Value) (n B : Nat) (hB : B ≤ w.heap.size) (hn : n ≤ 4194304) : (w.alloc (.cells (zerosV z n) e)).ownsRow B e 1 (.slice (some ⟨w.heap.size, 0, none⟩) n n) n (List.replicate n z) :=
  ⟨by simp, .inr ⟨w.heap.size, n, zerosV z n, rfl, hB, heap_alloc_new _ _, Nat.le_refl _, by unfold maxLen; omega, by simp [zerosV], by simp [zerosV]⟩⟩

/-- What a round of CompactPool does. -/
theorem comp_step {S : List Cx} {L L' : List Ls} {T : List Cx} {e i : Nat} {o : List Nat} {x : Ls} (hx : L[i]? = some x) (hx' : L'[i]? = some x) :
    compL L' e (i :: o) = compL (L'.set i ⟨e, x.count, x.room, x.free⟩) (e + x.room) o ∧ compT S L T e (i :: o) = compT S L (overlay T e ((S.drop x.start).take x.room)) (e + x.room) o := by
  constructor
  · conv => lhs; unfold compL
    rw [hx']
  · conv => lhs; unfold compT
    rw [hx]


/-- What CompactPool begins with: the new pool in the box T, its store in the block g. -/
def CompRel (w w1 : World) (AS : Option Addr) (cS : Nat) (AL : Option Addr) (cL n ll : Nat) (p : Pl) (s3 : Value) (wx : World) : Prop :=
  ∃ (g : Nat) (A2 : Option Addr) (q2 T : Nat), s3 = .pointer (some ⟨T, 0, none⟩) ∧ Own (w.heap.size + 1) T w1.heap.size w (List.replicate n (0, 0)) p.2 (some ⟨g, 0, none⟩) n A2 q2 wx ∧ Bx w.heap.size #[.slice AS n cS, .slice AL ll cL] wx

/-- What is there ahead of it. -/
structure CompIn (w w1 : World) (AS : Option Addr) (cS : Nat) (AL : Option Addr) (cL n ll : Nat) (p : Pl) : Prop where
  r : Box (w.heap.size + 1) (.slice none 0 0) (.slice none 0 0) w1
  s : Span 0 0 w w1
  b : Bx w.heap.size #[.slice AS n cS, .slice AL ll cL] w1
  hl : ll = p.2.length
  hn : n ≤ 4194304

theorem comp_own {w w1 wx : World} {AS : Option Addr} {cS : Nat} {AL : Option Addr} {cL n ll g T : Nat} {A2 : Option Addr} {q2 : Nat} {p : Pl} (h : CompIn w w1 AS cS AL cL n ll p) (sx : Span 0 0 w1 wx) (hZ : wx.heap[g]? = some (.cells (zerosV (.complex .f32 0 0) n) 35 (0, 0))) (hg : w1.heap.size ≤ g)
    (hT : Bx T #[.slice (some ⟨g, 0, none⟩) n n, .slice A2 ll q2] wx) (hl : wx.ownsRow w1.heap.size 68 4 (.slice A2 ll q2) ll (flat p.2)) (hgT : g ≠ T) (hlT : ∀ j, (Value.slice A2 ll q2).ownBlock = some j → j ≠ T) :
    CompRel w w1 AS cS AL cL n ll p (.pointer (some ⟨T, 0, none⟩)) wx := by
  refine ⟨g, A2, q2, T, rfl, ⟨h.r.span sx (.inl (Nat.le_refl _)), ?_, ?_, ?_, sx.after h.s, ?_, ?_⟩, h.b.keep sx⟩
  · rw [List.length_replicate, ← h.hl]
    exact ⟨hT.1, hT.2.1 0, hT.2.1 1, hT.2.2 0, hT.2.2 1⟩
  · rw [List.length_replicate, List.map_replicate]
    exact ⟨by simp, .inr ⟨g, n, zerosV (.complex .f32 0 0) n, rfl, hg, hZ, Nat.le_refl _, by have := h.hn; unfold maxLen; omega, by simp [zerosV], by simp [zerosV, cxV]⟩⟩
  · rw [← h.hl]; exact hl
  · intro k hk
    have : some g = some k := hk
    injection this with e
    omega
  · rw [← h.hl]; exact hlT

theorem comp_o1 {w w1 w2 : World} {AS : Option Addr} {cS : Nat} {AL : Option Addr} {cL n ll : Nat} {A2 : Option Addr} {q2 : Nat} {p : Pl} (h : CompIn w w1 AS cS AL cL n ll p) (s2 : Span 0 0 w1 w2) (hl : w2.ownsRow w1.heap.size 68 4 (.slice A2 ll q2) ll (flat p.2)) :
    CompRel w w1 AS cS AL cL n ll p (.pointer (some ⟨(w2.heap.size + 1), 0, none⟩)) ((w2.alloc (.cells (zerosV (.complex .f32 0 0) n) 35)).alloc (.cells #[.slice (some ⟨w2.heap.size, 0, none⟩) n n, .slice A2 ll q2] 45)) := by
  have z2 := s2.size
  have lt := fun j hj => hl.lt j hj
  have sz : w1.heap.size = w1.heap.size + 0 := by simp
  rw [sz] at z2 lt
  have hl1 := ownsRow_lower (B' := w1.heap.size) hl (by rw [sz]; omega)
  have e1 : (w2.alloc (.cells (zerosV (.complex .f32 0 0) n) 35)).heap.size = w2.heap.size + 1 := by simp
  have hT := Bx.new (w2.alloc (.cells (zerosV (.complex .f32 0 0) n) 35)) #[.slice (some ⟨w2.heap.size, 0, none⟩) n n, .slice A2 ll q2] 45
  rw [e1] at hT
  exact comp_own h ((s2.alloc _).alloc _) ((Below.heap_alloc _ _ _ (by simp)).trans (heap_alloc_new _ _)) (by omega) hT ((hl1.alloc _).alloc _) (by omega) (fun j hj => by have := lt j hj; omega)

theorem comp_o2 {w w1 w2 : World} {AS : Option Addr} {cS : Nat} {AL : Option Addr} {cL n ll : Nat} {A2 : Option Addr} {q2 : Nat} {p : Pl} (h : CompIn w w1 AS cS AL cL n ll p) (s2 : Span 0 0 w1 w2) (hl : w2.ownsRow w1.heap.size 68 4 (.slice A2 ll q2) ll (flat p.2)) :
    CompRel w w1 AS cS AL cL n ll p (.pointer (some ⟨w2.heap.size, 0, none⟩)) ((w2.alloc (.cells #[.slice (some ⟨w2.heap.size + 1, 0, none⟩) n n, .slice A2 ll q2] 45)).alloc (.cells (zerosV (.complex .f32 0 0) n) 35)) := by
  have z2 := s2.size
  have lt := fun j hj => hl.lt j hj
  have sz : w1.heap.size = w1.heap.size + 0 := by simp
  rw [sz] at z2 lt
  have hl1 := ownsRow_lower (B' := w1.heap.size) hl (by rw [sz]; omega)
  have hZ := heap_alloc_new (w2.alloc (.cells #[.slice (some ⟨w2.heap.size + 1, 0, none⟩) n n, .slice A2 ll q2] 45)) (.cells (zerosV (.complex .f32 0 0) n) 35)
  rw [show (w2.alloc (.cells #[.slice (some ⟨w2.heap.size + 1, 0, none⟩) n n, .slice A2 ll q2] 45)).heap.size = w2.heap.size + 1 by simp] at hZ
  exact comp_own h ((s2.alloc _).alloc _) hZ (by omega) ((Bx.new w2 _ _).alloc _) ((hl1.alloc _).alloc _) (by omega) (fun j hj => by have := lt j hj; omega)

theorem comp_o3 {w w1 w2 : World} {AS : Option Addr} {cS : Nat} {AL : Option Addr} {cL n ll : Nat} {A2 : Option Addr} {q2 : Nat} {p : Pl} (h : CompIn w w1 AS cS AL cL n ll p) (s2 : Span 0 0 (w1.alloc (.cells (zerosV (.complex .f32 0 0) n) 35)) w2) (hl : w2.ownsRow (w1.alloc (.cells (zerosV (.complex .f32 0 0) n) 35)).heap.size 68 4 (.slice A2 ll q2) ll (flat p.2)) :
    CompRel w w1 AS cS AL cL n ll p (.pointer (some ⟨w2.heap.size, 0, none⟩)) (w2.alloc (.cells #[.slice (some ⟨w1.heap.size, 0, none⟩) n n, .slice A2 ll q2] 45)) := by
  have z2 := s2.size
  have lt := fun j hj => hl.lt j hj
  have sz : (w1.alloc (.cells (zerosV (.complex .f32 0 0) n) 35)).heap.size = w1.heap.size + 1 := by simp
  rw [sz] at z2 lt
  have hl1 := ownsRow_lower (B' := w1.heap.size) hl (by rw [sz]; omega)
  have hZ : w2.heap[w1.heap.size]? = _ := (s2.block w1.heap.size (by simp) (by omega)).trans (heap_alloc_new _ _)
  exact comp_own h ((s2.after ((Span.refl 0 0 w1).alloc _)).alloc _) ((Below.heap_alloc _ _ _ (by omega)).trans hZ) (Nat.le_refl _) (Bx.new w2 _ _) (hl1.alloc _) (by omega) (fun j hj => by have := lt j hj; omega)

theorem comp_o4 {w w1 w2 : World} {AS : Option Addr} {cS : Nat} {AL : Option Addr} {cL n ll : Nat} {A2 : Option Addr} {q2 : Nat} {p : Pl} (h : CompIn w w1 AS cS AL cL n ll p) (s2 : Span 0 0 ((w1.alloc (.cells (zerosV (.complex .f32 0 0) n) 35)).alloc (.cells #[.slice none 0 0, .slice none 0 0] 45)) w2) (hl : w2.ownsRow ((w1.alloc (.cells (zerosV (.complex .f32 0 0) n) 35)).alloc (.cells #[.slice none 0 0, .slice none 0 0] 45)).heap.size 68 4 (.slice A2 ll q2) ll (flat p.2)) :
    CompRel w w1 AS cS AL cL n ll p (.pointer (some ⟨(w1.heap.size + 1), 0, none⟩)) ((w2.setCell ⟨w1.heap.size + 1, 0, none⟩ (.slice (some ⟨w1.heap.size, 0, none⟩) n n)).setCell ⟨w1.heap.size + 1, 1, none⟩ (.slice A2 ll q2)) := by
  have z2 := s2.size
  have lt := fun j hj => hl.lt j hj
  have sz : ((w1.alloc (.cells (zerosV (.complex .f32 0 0) n) 35)).alloc (.cells #[.slice none 0 0, .slice none 0 0] 45)).heap.size = w1.heap.size + 2 := by simp
  rw [sz] at z2 lt
  have hl1 := ownsRow_lower (B' := w1.heap.size) hl (by rw [sz]; omega)
  have hZ : w2.heap[w1.heap.size]? = _ := (s2.block w1.heap.size (by simp; omega) (by omega)).trans ((Below.heap_alloc _ _ _ (by simp)).trans (heap_alloc_new _ _))
  have hT := Bx.new (w1.alloc (.cells (zerosV (.complex .f32 0 0) n) 35)) #[.slice none 0 0, .slice none 0 0] 45
  rw [show (w1.alloc (.cells (zerosV (.complex .f32 0 0) n) 35)).heap.size = w1.heap.size + 1 by simp] at hT
  have hT2 := (hT.keep s2).set2 (.slice (some ⟨w1.heap.size, 0, none⟩) n n) (.slice A2 ll q2)
  refine comp_own h ((s2.after (((Span.refl 0 0 w1).alloc _).alloc _)).set2 (by omega) _ _) ((Below.heap_setCell _ _ _ _ (by simp)).trans ((Below.heap_setCell _ _ _ _ (by simp)).trans hZ)) (Nat.le_refl _) hT2 (ownsRow_setCell_off (ownsRow_setCell_off hl1 (fun hj => by have := lt _ hj; simp only at this; omega) _) (fun hj => by have := lt _ hj; simp only at this; omega) _) (by omega) (fun j hj => by have := lt j hj; omega)

theorem comp_o5 {w w1 w2 : World} {AS : Option Addr} {cS : Nat} {AL : Option Addr} {cL n ll : Nat} {A2 : Option Addr} {q2 : Nat} {p : Pl} (h : CompIn w w1 AS cS AL cL n ll p) (s2 : Span 0 0 ((w1.alloc (.cells #[.slice none 0 0, .slice none 0 0] 45)).alloc (.cells (zerosV (.complex .f32 0 0) n) 35)) w2) (hl : w2.ownsRow ((w1.alloc (.cells #[.slice none 0 0, .slice none 0 0] 45)).alloc (.cells (zerosV (.complex .f32 0 0) n) 35)).heap.size 68 4 (.slice A2 ll q2) ll (flat p.2)) :
    CompRel w w1 AS cS AL cL n ll p (.pointer (some ⟨w1.heap.size, 0, none⟩)) ((w2.setCell ⟨w1.heap.size, 0, none⟩ (.slice (some ⟨w1.heap.size + 1, 0, none⟩) n n)).setCell ⟨w1.heap.size, 1, none⟩ (.slice A2 ll q2)) := by
  have z2 := s2.size
  have lt := fun j hj => hl.lt j hj
  have sz : ((w1.alloc (.cells #[.slice none 0 0, .slice none 0 0] 45)).alloc (.cells (zerosV (.complex .f32 0 0) n) 35)).heap.size = w1.heap.size + 2 := by simp
  rw [sz] at z2 lt
  have hl1 := ownsRow_lower (B' := w1.heap.size) hl (by rw [sz]; omega)
  have hZ0 := heap_alloc_new (w1.alloc (.cells #[.slice none 0 0, .slice none 0 0] 45)) (.cells (zerosV (.complex .f32 0 0) n) 35)
  rw [show (w1.alloc (.cells #[.slice none 0 0, .slice none 0 0] 45)).heap.size = w1.heap.size + 1 by simp] at hZ0
  have hZ : w2.heap[w1.heap.size + 1]? = _ := (s2.block (w1.heap.size + 1) (by simp) (by omega)).trans hZ0
  have hT2 := (((Bx.new w1 #[.slice none 0 0, .slice none 0 0] 45).alloc (.cells (zerosV (.complex .f32 0 0) n) 35)).keep s2).set2 (.slice (some ⟨w1.heap.size + 1, 0, none⟩) n n) (.slice A2 ll q2)
  refine comp_own h ((s2.after (((Span.refl 0 0 w1).alloc _).alloc _)).set2 (Nat.le_refl _) _ _) ((Below.heap_setCell _ _ _ _ (by simp)).trans ((Below.heap_setCell _ _ _ _ (by simp)).trans hZ)) (by omega) hT2 (ownsRow_setCell_off (ownsRow_setCell_off hl1 (fun hj => by have := lt _ hj; simp only at this; omega) _) (fun hj => by have := lt _ hj; simp only at this; omega) _) (by omega) (fun j hj => by have := lt j hj; omega)

theorem comp_o6 {w w1 w2 : World} {AS : Option Addr} {cS : Nat} {AL : Option Addr} {cL n ll : Nat} {A2 : Option Addr} {q2 : Nat} {p : Pl} (h : CompIn w w1 AS cS AL cL n ll p) (s2 : Span 0 0 (w1.alloc (.cells #[.slice none 0 0, .slice none 0 0] 45)) w2) (hl : w2.ownsRow (w1.alloc (.cells #[.slice none 0 0, .slice none 0 0] 45)).heap.size 68 4 (.slice A2 ll q2) ll (flat p.2)) :
    CompRel w w1 AS cS AL cL n ll p (.pointer (some ⟨w1.heap.size, 0, none⟩)) (((w2.alloc (.cells (zerosV (.complex .f32 0 0) n) 35)).setCell ⟨w1.heap.size, 0, none⟩ (.slice (some ⟨w2.heap.size, 0, none⟩) n n)).setCell ⟨w1.heap.size, 1, none⟩ (.slice A2 ll q2)) := by
  have z2 := s2.size
  have lt := fun j hj => hl.lt j hj
  have sz : (w1.alloc (.cells #[.slice none 0 0, .slice none 0 0] 45)).heap.size = w1.heap.size + 1 := by simp
  rw [sz] at z2 lt
  have hl1 := ownsRow_lower (B' := w1.heap.size) hl (by rw [sz]; omega)
  have hT2 := (((Bx.new w1 #[.slice none 0 0, .slice none 0 0] 45).keep s2).alloc (.cells (zerosV (.complex .f32 0 0) n) 35)).set2 (.slice (some ⟨w2.heap.size, 0, none⟩) n n) (.slice A2 ll q2)
  refine comp_own h (((s2.after ((Span.refl 0 0 w1).alloc _)).alloc _).set2 (Nat.le_refl _) _ _) ((Below.heap_setCell _ _ _ _ (by simp only; omega)).trans ((Below.heap_setCell _ _ _ _ (by simp only; omega)).trans (heap_alloc_new _ _))) (by omega) hT2 (ownsRow_setCell_off (ownsRow_setCell_off (hl1.alloc _) (fun hj => by have := lt _ hj; simp only at this; omega) _) (fun hj => by have := lt _ hj; simp only at this; omega) _) (by omega) (fun j hj => by have := lt j hj; omega)
/-- A part of a list, whole. -/
def partS (S : List Cx) (s r : Nat) : List Cx := (S.drop s).take r

theorem HasS.news' {o : Bool} {b off lo hi n c : Nat} {w : World} {S : List Cx} (h : HasS cxV o b lo hi w (.slice (some ⟨b, off, none⟩) n c) S) (j : Nat) (u : Value) (hj : (S.map cxV)[j]? = some u) : w.cell? ((⟨b, off, none⟩ : Addr).add j) = some u := by
  rw [List.getElem?_map, Option.map_eq_some_iff] at hj
  obtain ⟨x, hx, rfl⟩ := hj
  rw [Addr.add_lit]
  exact h.atS hx

theorem Span.setCells' {lo hi g : Nat} {a : World} (h1 : lo ≤ g) (h2 : g < hi) : ∀ (xs : List Value) (i : Nat) (w : World), Span lo hi a w → Span lo hi a (w.setCells g i xs)
  | [], _, _, h => h
  | x :: xs, i, w, h => Span.setCells' h1 h2 xs (i + 1) _ (h.setCell (p := ⟨g, i, none⟩) (.inl ⟨h1, h2⟩) x)
end Go.Proofs.Ytfafkdpefdpnkaa
