/- The program's pools: the gaps between the rooms. -/
import Derived.Test.YtfafkdpefdpnkaaJq44
namespace Go.Proofs.Ytfafkdpefdpnkaa
open Go.RowKit

/-- A gap's cells. -/
def gC (g : Nat × Nat) : List Value := [.int .i64 (g.1 : Int), .int .i64 (g.2 : Int)]
def flatG (G : List (Nat × Nat)) : List Value := G.flatMap gC
theorem flatG_cons (g : Nat × Nat) (G : List (Nat × Nat)) : flatG (g :: G) = gC g ++ flatG G := rfl
theorem flatG_append (G H : List (Nat × Nat)) : flatG (G ++ H) = flatG G ++ flatG H := List.flatMap_append
theorem flatG_one (g : Nat × Nat) : flatG [g] = gC g := by unfold flatG; simp
theorem flatG_length : ∀ G : List (Nat × Nat), (flatG G).length = G.length * 2
  | [] => rfl
  | x :: L => by rw [flatG_cons, List.length_append, flatG_length L, List.length_cons]; show 2 + _ = _; omega
theorem flatG_get : ∀ (L : List (Nat × Nat)) (j : Nat) (x : Nat × Nat) (i : Nat), L[j]? = some x → i < 2 → (flatG L)[j * 2 + i]? = (gC x)[i]?
  | [], j, x, i, h, _ => by simp at h
  | y :: L, 0, x, i, h, hi => by
    simp at h; subst h
    rw [flatG_cons, Nat.zero_mul, Nat.zero_add, List.getElem?_append_left (by show i < 2; exact hi)]
  | y :: L, j + 1, x, i, h, hi => by
    simp at h
    have := flatG_get L j x i h hi
    rw [flatG_cons, List.getElem?_append_right (by show 2 ≤ _; omega), show (j + 1) * 2 + i - (gC y).length = j * 2 + i by show (j + 1) * 2 + i - 2 = _; omega]
    exact this
theorem gC_one (g : Nat × Nat) (u : Value) (h : u ∈ gC g) : u.oneCell' = true := by
  unfold gC at h
  simp only [List.mem_cons, List.not_mem_nil, or_false] at h
  rcases h with rfl | rfl <;> rfl

/-- A gap that is read. -/
theorem ownsG_at {w : World} {B : Nat} {e : TypeId} {A : Option Addr} {n q : Nat} {G : List (Nat × Nat)} (h : w.ownsRow B e 2 (.slice A n q) n (flatG G)) {k : Nat} {g : Nat × Nat} (hk : G[k]? = some g) :
    n = G.length ∧ ∃ b, A = some ⟨b, 0, none⟩ ∧ b < w.heap.size ∧ w.cell? ⟨b, k * 2, none⟩ = some (.int .i64 (g.1 : Int)) ∧ w.cell? ⟨b, k * 2 + 1, none⟩ = some (.int .i64 (g.2 : Int)) := by
  have hkl := (List.getElem?_eq_some_iff.1 hk).1
  obtain ⟨hl, h2⟩ := id h
  rw [flatG_length] at hl
  have hn : n = G.length := by omega
  obtain ⟨b, cap, hv, h4, h5⟩ := h.form (by omega)
  injection hv with e1 e2 e3
  subst e1
  have c : ∀ i, i < 2 → w.cell? ⟨b, k * 2 + i, none⟩ = (gC g)[i]? := by
    intro i hi
    have hg := flatG_get G k g i hk hi
    rcases h2 with ⟨h0, _⟩ | ⟨g', cap', cur, hv', hb, hh, hnc, hm, hc, ht⟩
    · cases h0
    · injection hv' with f1 f2 f3
      injection f1 with f1
      injection f1 with f1
      subst f1
      rw [← ht, List.getElem?_take_of_lt (by omega)] at hg
      unfold World.cell?
      simp only [hh]
      rw [← hg]
      simp
  exact ⟨hn, b, rfl, (h.lt b rfl).2, c 0 (by omega), c 1 (by omega)⟩

theorem gapsX_length : ∀ (X : List Ls) (e n : Nat), (gapsX e X n).length = X.length + 1
  | [], _, _ => rfl
  | x :: X, e, n => by rw [gapsX, List.length_cons, gapsX_length X, List.length_cons]
end Go.Proofs.Ytfafkdpefdpnkaa
