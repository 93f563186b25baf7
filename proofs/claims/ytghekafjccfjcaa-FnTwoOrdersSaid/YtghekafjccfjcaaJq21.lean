/- The grid, made by the specification's program. -/
import Derived.Test.YtghekafjccfjcaaJq17
import Derived.Test.YtghekafjccfjcaaJq10
namespace Go.Proofs.Ytghekafjccfjcaa
open Go.RowKit

def gridO (n : Int) : Option Tab := if 1 ≤ n ∧ n ≤ 8 then some (gridT n.toNat) else none

theorem HasTab.none_ (own : Bool) (lo hi : Nat) (w : World) : HasTab own lo hi w (.agg #[.slice none 0 0, .slice none 0 0]) ([], []) :=
  ⟨0, 1, _, _, rfl, by omega, HasS.empty _ _ _ _ _ _ _ _, HasS.empty _ _ _ _ _ _ _ _⟩

/-- The table that is given, or the zero value. -/
def okT (o : Option Tab) : Tab := o.getD ([], [])
def GivesTab' (o : Option Tab) (w : World) (e : Ending) (w' : World) : Prop :=
  ∃ v, e = .returned (.tuple #[v, .bool o.isSome]) ∧ HasTab true w.heap.size w'.heap.size w' v (okT o) ∧ Span 0 0 w w'
theorem GivesTab.plain {o : Option Tab} {w : World} {e : Ending} {w' : World} (h : GivesTab o w e w') : GivesTab' o w e w' := by
  obtain ⟨h1, h2⟩ := h
  cases o with
  | none => exact ⟨_, h1, HasTab.none_ _ _ _ _, h2⟩
  | some t => obtain ⟨v, rfl, h3⟩ := h1; exact ⟨v, rfl, h3, h2⟩

theorem gridO_len (n : Int) : (okT (gridO n)).1.length ≤ 64 ∧ (okT (gridO n)).2.length ≤ 64 := by
  unfold gridO okT
  by_cases h : 1 ≤ n ∧ n ≤ 8
  · rw [if_pos h]
    have : n.toNat * n.toNat ≤ 8 * 8 := Nat.mul_le_mul (by omega) (by omega)
    simp only [Option.getD_some, gridT, gridP_length, gridL_length]
    omega
  · rw [if_neg h]; simp

theorem HasTab.form {own : Bool} {lo hi : Nat} {w : World} {v : Value} {t : Tab} (h : HasTab own lo hi w v t) : ∃ A c A' c', v = .agg #[.slice A t.1.length c, .slice A' t.2.length c'] := by
  obtain ⟨b1, b2, vP, vL, rfl, hne, h1, h2⟩ := h
  obtain ⟨A, c, rfl, _⟩ := h1
  obtain ⟨A', c', rfl, _⟩ := h2
  exact ⟨A, c, A', c', rfl⟩

/-- A box of two cells stays. -/
theorem Span.box2 {lo hi b : Nat} {w w' : World} {u v : Value} (h : Span lo hi w w') (hb : b < w.heap.size) (hd : hi ≤ lo ∨ b < lo ∨ hi ≤ b) (hc : w.cell? ⟨b, 0, none⟩ = some u ∧ w.cell? ⟨b, 1, none⟩ = some v) :
    w'.cell? ⟨b, 0, none⟩ = some u ∧ w'.cell? ⟨b, 1, none⟩ = some v := by
  have e := h.block b hb (by omega)
  exact ⟨(World.cell?_of_block (w := w) (a := ⟨b, 0, none⟩) e).trans hc.1, (World.cell?_of_block (w := w) (a := ⟨b, 1, none⟩) e).trans hc.2⟩
theorem box2_alloc {w : World} {b : Nat} {u v : Value} (hc : w.cell? ⟨b, 0, none⟩ = some u ∧ w.cell? ⟨b, 1, none⟩ = some v) (hb : b < w.heap.size) :
    (∀ o, (w.alloc o).cell? ⟨b, 0, none⟩ = some u) ∧ (∀ o, (w.alloc o).cell? ⟨b, 1, none⟩ = some v) :=
  ⟨fun o => (((Span.refl 0 0 w).alloc o).box2 hb (.inl (Nat.le_refl _)) hc).1, fun o => (((Span.refl 0 0 w).alloc o).box2 hb (.inl (Nat.le_refl _)) hc).2⟩
theorem box2_new (w : World) (u v : Value) (t : TypeId) : (w.alloc (.cells #[u, v] t)).cell? ⟨w.heap.size, 0, none⟩ = some u ∧ (w.alloc (.cells #[u, v] t)).cell? ⟨w.heap.size, 1, none⟩ = some v := by
  constructor <;> rw [World.cell?_alloc_new] <;> rfl
end Go.Proofs.Ytghekafjccfjcaa
