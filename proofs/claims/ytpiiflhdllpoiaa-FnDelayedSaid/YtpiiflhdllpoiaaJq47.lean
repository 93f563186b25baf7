/- Racks' literals: rows and boxes, world by world. -/
import Derived.Test.YtpiiflhdllpoiaaJq43
import Derived.Test.YtpiiflhdllpoiaaJq45
import Derived.Outline
namespace Go.Proofs.Ytpiiflhdllpoiaa
open Go.RowKit

theorem HasC.made {α : Type} {fl : α → List Value} {s : Nat} (hf : ∀ x, (fl x).length = s) (L : List α) (w : World) (t : TypeId) (b : Nat) (hb : b = w.heap.size) : HasC s fl b 0 (w.heap.size + 1) (w.alloc (.cells (flatG fl L).toArray t)) (.slice (some ⟨b, 0, none⟩) L.length L.length) L := by
  subst hb
  refine ⟨_, L.length, rfl, Nat.le_refl _, fun hp => ⟨0, rfl, Nat.zero_le _, Nat.lt_succ_self _, by simp, fun j x i u hj hi => ?_⟩⟩
  have hi' : i < s := by have := (List.getElem?_eq_some_iff.1 hi).1; rw [hf] at this; exact this
  rw [World.cell?_alloc_new, Nat.zero_add, List.getElem?_toArray, flatG_get hf L j x i hj hi']
  exact hi
theorem Bx.made (w : World) (us : Array Value) (t : TypeId) (b : Nat) (hb : b = w.heap.size) : Bx b us (w.alloc (.cells us t)) := by subst hb; exact Bx.new ..
theorem Bx.d {b : Nat} {us : Array Value} {w : World} (h : Bx b us w) : Bx b us w.drew := h
theorem HasC.d {α : Type} {s : Nat} {fl : α → List Value} {b : Nat} {w : World} {v : Value} {L : List α} (h : HasC s fl b 0 w.heap.size w v L) : HasC s fl b 0 w.drew.heap.size w.drew v L := h
theorem HasC.a {α : Type} {s : Nat} {fl : α → List Value} {b : Nat} {w : World} {v : Value} {L : List α} (h : HasC s fl b 0 w.heap.size w v L) (o : Obj) : HasC s fl b 0 (w.alloc o).heap.size (w.alloc o) v L := (h.keep ((Span.refl 0 0 w).alloc o)).weak (Nat.le_refl _) (.inl (by simp))
theorem HasC.k {α : Type} {s : Nat} {fl : α → List Value} {b : Nat} {w w' : World} {v : Value} {L : List α} (h : HasC s fl b 0 w.heap.size w v L) (k : Span 0 0 w w') : HasC s fl b 0 w'.heap.size w' v L := (h.keep k).weak (Nat.le_refl _) (.inl k.size)
theorem HasC.st {α : Type} {s : Nat} {fl : α → List Value} {b B i : Nat} {w : World} {v : Value} {L : List α} (h : HasC s fl b 0 w.heap.size w v L) (u : Value) (hne : B ≠ b) : HasC s fl b 0 (w.setCell ⟨B, i, none⟩ u).heap.size (w.setCell ⟨B, i, none⟩ u) v L := (h.span (setSpan B i u w) (by omega)).weak (Nat.le_refl _) (.inl (setSpan B i u w).size)
theorem HasC.m {α : Type} {fl : α → List Value} {s : Nat} (hf : ∀ x, (fl x).length = s) (L : List α) (w : World) (t : TypeId) (b : Nat) (hb : b = w.heap.size) : HasC s fl b 0 (w.alloc (.cells (flatG fl L).toArray t)).heap.size (w.alloc (.cells (flatG fl L).toArray t)) (.slice (some ⟨b, 0, none⟩) L.length L.length) L := (HasC.made hf L w t b hb).weak (Nat.le_refl _) (.inl (by simp))
/-- A new row of structs, at the beginning of a block. -/
def RowAt {α : Type} (s : Nat) (fl : α → List Value) (Ls : List α) (n : Nat) (w : World) (v : Value) : Prop := ∃ b, v = .slice (some ⟨b, 0, none⟩) n n ∧ HasC s fl b 0 w.heap.size w v Ls
theorem RowAt.k {α : Type} {s : Nat} {fl : α → List Value} {Ls : List α} {n : Nat} {w w' : World} {v : Value} (h : RowAt s fl Ls n w v) (k : Span 0 0 w w') : RowAt s fl Ls n w' v := by
  obtain ⟨b, rfl, h⟩ := h
  exact ⟨b, rfl, h.k k⟩
end Go.Proofs.Ytpiiflhdllpoiaa
