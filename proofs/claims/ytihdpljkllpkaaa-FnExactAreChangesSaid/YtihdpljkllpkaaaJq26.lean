/- The grid, made by the program. -/
import Derived.Test.YtihdpljkllpkaaaJq25
namespace Go.Proofs.Ytihdpljkllpkaaa
open Go.RowKit

theorem ownsRow_slice {w : World} {B : Nat} {e : TypeId} {s : Nat} {v : Value} {n : Nat} {xs : List Value} (h : w.ownsRow B e s v n xs) : ∃ A c, v = .slice A n c := by
  rcases h.2 with ⟨rfl, rfl⟩ | ⟨g, cap, cur, rfl, _⟩
  · exact ⟨_, _, rfl⟩
  · exact ⟨_, _, rfl⟩
theorem one_cell {u : Value} (h : u.oneCell' = true) : ∀ x ∈ [u], x.oneCell' = true := by
  intro x hx
  rw [List.mem_singleton.1 hx]; exact h
theorem one_new (w : World) (u : Value) (e : TypeId) : ∀ j x, [u][j]? = some x → (w.alloc (.cells #[u] e)).cell? ((⟨w.heap.size, 0, none⟩ : Addr).add j) = some x := by
  intro j x hj
  have hj0 : j = 0 := by
    have := (List.getElem?_eq_some_iff.1 hj).1
    simp at this
    exact this
  subst hj0
  simp only [List.getElem?_cons_zero, Option.some.injEq] at hj
  subst hj
  show (w.alloc (.cells #[u] e)).cell? ⟨w.heap.size, 0, none⟩ = _
  rw [World.cell?_alloc_new]; rfl
theorem one_new' (w : World) (a : Addr) (v u : Value) (e : TypeId) : ∀ j x, [u][j]? = some x → ((w.setCell a v).alloc (.cells #[u] e)).cell? ((⟨w.heap.size, 0, none⟩ : Addr).add j) = some x := by
  have h := one_new (w.setCell a v) u e
  simpa [World.setCell] using h
end Go.Proofs.Ytihdpljkllpkaaa
