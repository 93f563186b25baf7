/- The program's MergeTables. -/
import Derived.Test.YtealnolpcoalgaaU15
namespace Go.Proofs.Ytealnolpcoalgaa
open Go.RowKit

/-- A merge under way: the table in the box G, the other table in the box T3, the places in the map r. -/
structure Mrg (T3 R G r B : Nat) (w : World) (u3 v3 : Value) (Q : List Cx) (P : List Cx) (L : List Int) (vP vL : Value) (wr : World) : Prop where
  put : Putting R G B w P L vP vL wr
  bx : Box T3 u3 v3 wr
  mp : wr.heap[r]? = some (.map (entries Q) Q.length)
  pr : vP.ownBlock ≠ some r
  lr : vL.ownBlock ≠ some r

theorem Mrg.drewN {T3 R G r B : Nat} {w : World} {u3 v3 : Value} {Q P : List Cx} {L : List Int} {vP vL : Value} {wr : World} (h : Mrg T3 R G r B w u3 v3 Q P L vP vL wr) (n : Nat) : Mrg T3 R G r B w u3 v3 Q P L vP vL (wr.drewN n) :=
  ⟨h.put.span ((Span.refl _ _ wr).drewN n), h.bx.drewN n, h.mp, h.pr, h.lr⟩

theorem Box.of_block {b : Nat} {u v : Value} {w w' : World} (h : Box b u v w) (hb : w'.heap[b]? = w.heap[b]?) : Box b u v w' := by
  obtain ⟨h0, h1, h2, h3, h4⟩ := h
  refine ⟨?_, (World.cell?_of_block (w := w) (a := ⟨b, 0, none⟩) hb).trans h1, (World.cell?_of_block (w := w) (a := ⟨b, 1, none⟩) hb).trans h2, (World.frozen?_of_block (w := w) (a := ⟨b, 0, none⟩) hb).trans h3, (World.frozen?_of_block (w := w) (a := ⟨b, 1, none⟩) hb).trans h4⟩
  rcases Nat.lt_or_ge b w'.heap.size with g | g
  · exact g
  · rw [Array.getElem?_eq_none g, Array.getElem?_eq_getElem h0] at hb; cases hb

theorem grow_keeps {w w1 : World} {o : Obj} {v v' : Value} {G k off : Nat} (hk : k < w.heap.size) (hg : (w.alloc o).grownBy w1 v.ownBlock) (h1 : v.ownBlock ≠ some k) (hG : k ≠ G) : (w1.setCell ⟨G, off, none⟩ v').heap[k]? = w.heap[k]? := by
  rw [Below.heap_setCell _ _ _ _ (by simp only; exact hG), hg.block k (by simp; omega) (Ne.symm h1), Below.heap_alloc _ _ _ hk]

theorem Mrg.points {T3 R G r B : Nat} {w : World} {u3 v3 : Value} {Q P : List Cx} {L : List Int} {vP vL : Value} {wr w1 : World} (h : Mrg T3 R G r B w u3 v3 Q P L vP vL wr) (hT : T3 < R) (hR : R < B) (hG : B ≤ G) (hrG : r ≠ G) (hw : w.heap.size ≤ T3) {o : Obj} {v' : Value} {z : Cx}
    (ho : w1.ownsRow B 31 1 v' (P.length + 1) (P.map cxV ++ [cxV z])) (hg : (wr.alloc o).grownBy w1 vP.ownBlock) (hat : v'.ownBlock = vP.ownBlock ∨ v'.ownBlock = some (wr.alloc o).heap.size) :
    w1.cell? ⟨G, 0, none⟩ = some vP ∧ w1.cell? ⟨G, 1, none⟩ = some vL ∧ w1.frozen? ⟨G, 0, none⟩ = false ∧ Mrg T3 R G r B w u3 v3 Q (P ++ [z]) L v' vL (w1.setCell ⟨G, 0, none⟩ v') := by
  obtain ⟨c0, c1, c2, hp⟩ := h.put.points hR (by omega) (by omega) (by omega) ho hg hat
  have hrs : r < wr.heap.size := (Array.getElem?_eq_some_iff.1 h.mp).1
  refine ⟨c0, c1, c2, hp, h.bx.of_block (grow_keeps h.bx.1 hg (Ne.symm (ownsRow_block_ge h.put.p (by omega))) (by omega)), (grow_keeps hrs hg h.pr hrG).trans h.mp, ?_, h.lr⟩
  rcases hat with e | e
  · rw [e]; exact h.pr
  · rw [e]; simp; omega

theorem Mrg.labels {T3 R G r B : Nat} {w : World} {u3 v3 : Value} {Q P : List Cx} {L : List Int} {vP vL : Value} {wr w1 : World} (h : Mrg T3 R G r B w u3 v3 Q P L vP vL wr) (hT : T3 < R) (hR : R < B) (hG : B ≤ G) (hrG : r ≠ G) (hw : w.heap.size ≤ T3) {o : Obj} {v' : Value} {z : Int}
    (ho : w1.ownsRow B 3 1 v' (L.length + 1) (L.map intV ++ [intV z])) (hg : (wr.alloc o).grownBy w1 vL.ownBlock) (hat : v'.ownBlock = vL.ownBlock ∨ v'.ownBlock = some (wr.alloc o).heap.size) :
    w1.cell? ⟨G, 0, none⟩ = some vP ∧ w1.cell? ⟨G, 1, none⟩ = some vL ∧ w1.frozen? ⟨G, 1, none⟩ = false ∧ Box T3 u3 v3 w1 ∧ Span 0 0 w w1 ∧ Mrg T3 R G r B w u3 v3 Q P (L ++ [z]) vP v' (w1.setCell ⟨G, 1, none⟩ v') := by
  obtain ⟨c0, c1, c2, hp⟩ := h.put.labels hR (by omega) (by omega) (by omega) ho hg hat
  have hrs : r < wr.heap.size := (Array.getElem?_eq_some_iff.1 h.mp).1
  have hT3 := h.bx.1
  have hb0 : w1.heap[T3]? = wr.heap[T3]? := by
    rw [hg.block T3 (by simp; omega) (ownsRow_block_ge h.put.l (by omega)), Below.heap_alloc _ _ _ hT3]
  have hsp : Span 0 0 w w1 := (h.put.s.alloc o).grown hg (fun k hk => .inr (by have := (h.put.l.lt k hk).1; omega))
  refine ⟨c0, c1, c2, h.bx.of_block hb0, hsp, hp, h.bx.of_block (grow_keeps h.bx.1 hg (Ne.symm (ownsRow_block_ge h.put.l (by omega))) (by omega)), (grow_keeps hrs hg h.lr hrG).trans h.mp, h.pr, ?_⟩
  rcases hat with e | e
  · rw [e]; exact h.lr
  · rw [e]; simp; omega

theorem Mrg.relabel {T3 R G r B : Nat} {w : World} {u3 v3 : Value} {Q P : List Cx} {L : List Int} {vP : Value} {wr : World} {g cap i : Nat} (h : Mrg T3 R G r B w u3 v3 Q P L vP (.slice (some ⟨g, 0, none⟩) L.length cap) wr) (hT : T3 < R) (hR : R < B) (hw : w.heap.size ≤ T3) (n : Int) :
    Mrg T3 R G r B w u3 v3 Q P (L.set i n) vP (.slice (some ⟨g, 0, none⟩) L.length cap) (wr.setCell ⟨g, i, none⟩ (intV n)) := by
  have hg := (h.put.l.lt g rfl).1
  have hgr : g ≠ r := fun e => h.lr (by rw [← e]; rfl)
  exact ⟨h.put.relabel hR (by omega) n, h.bx.of_block (Below.heap_setCell _ _ _ _ (by simp only; omega)), (Below.heap_setCell _ _ _ _ (by simp only; exact Ne.symm hgr)).trans h.mp, h.pr, h.lr⟩

/-- A merged table is given. -/
def GivesMerged (a b : Tab) (w : World) (e : Ending) (w' : World) : Prop :=
  ∃ M v, e = .returned (.tuple #[v, .bool true]) ∧ Merged a b b.1.length M ∧ HasTab true w.heap.size w'.heap.size w' v M ∧ Span 0 0 w w'

/-- What the loop keeps. -/
def MrgLoop (T3 R G r B : Nat) (w : World) (u3 v3 : Value) (a b : Tab) (c : Value) (wr : World) : Prop :=
  ∃ (k : Nat) (M : Tab) (A : Option Addr) (q : Nat) (A' : Option Addr) (q' : Nat), k ≤ b.1.length ∧ c = .int .i64 k ∧ Merged a b k M ∧ Mrg T3 R G r B w u3 v3 a.1 M.1 M.2 (.slice A M.1.length q) (.slice A' M.2.length q') wr

end Go.Proofs.Ytealnolpcoalgaa
