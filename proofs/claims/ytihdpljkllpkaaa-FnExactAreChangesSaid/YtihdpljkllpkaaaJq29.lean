/- How the arguments of the laws are read: slices of floats. -/
import Derived.Test.YtihdpljkllpkaaaJq4
import Derived.Test.YtihdpljkllpkaaaJq28
import Derived.ProofKit
import Derived.OpenShut
namespace Go.Proofs.Ytihdpljkllpkaaa
open Go.ChangeShapes Go.WideShapes Go.ChangeAt Go.RowKit

section
variable {H : Type} {enc : TypeId × Value → H} {P : Program} {w : World} {base : Nat} {spare : Nat → Bool} {held : Bool}

theorem trod_float {t : TypeId} {k : FloatKind} {fuel : Nat} {cs : List Value} {x : DataW H × List MemPlace} (ht : P.underlying t = some (.float k)) (h : DataW.trod enc P w base spare held fuel t cs = some x) : ∃ b, cs = [.float k b] := by
  cases fuel with
  | zero => simp [DataW.trod] at h
  | succ n =>
    unfold DataW.trod at h
    rw [ht] at h
    split at h <;> simp_all

/-- A slice of cells of one kind: each of its cells meets 'good'. -/
theorem open_cells {t e : TypeId} {good : Value → Prop} {v : Value} {d : DataW H} {ps : List MemPlace} {b0 : Nat} {r : Reach} (ht : P.underlying t = some (.slice e)) (hc : P.cellsOf e = 1)
    (hg : ∀ fuel cs (x : DataW H × List MemPlace), DataW.trod enc P w base spare held fuel e cs = some x → ∃ u, cs = [u] ∧ good u)
    (hval : Value.okWide P w r b0 t v) (h : DataW.Trod enc P w base spare held t v d ps) :
    ∃ (A : Option Addr) (len cap : Nat), v = .slice A len cap ∧ len ≤ cap ∧ cap ≤ maxLen ∧
      (0 < len → ∃ b off, A = some ⟨b, off, none⟩ ∧ ∀ j, j < len → ∃ u, good u ∧ w.cell? ⟨b, off + j, none⟩ = some u) := by
  obtain ⟨A, len, cap, rfl⟩ := okWide_slice ht hval
  obtain ⟨fuel, hf⟩ := h
  rcases DataW.trod_slice ht hf with ⟨h0, _⟩ | ⟨a, len', cap', elems, rest, n, _, hcs, _, hb, hl, hm, hlen, hel, _, _⟩
  · simp [Value.cells] at h0
    obtain ⟨rfl, rfl, rfl⟩ := h0
    exact ⟨none, 0, 0, rfl, Nat.le_refl _, by unfold maxLen; omega, fun h => absurd h (by omega)⟩
  · simp [Value.cells] at hcs
    obtain ⟨rfl, rfl, rfl⟩ := hcs
    refine ⟨some a, len, cap, rfl, hl, hm, fun hp => ?_⟩
    have each : ∀ i, i < len → ∃ u, good u ∧ w.cell? (a.add i) = some u := by
      intro i hi
      have h1 := hel i hi
      rw [hc, Nat.mul_one] at h1
      have h2 : elems[i]? = some (elems[i]'(by omega)) := List.getElem?_eq_getElem (by omega)
      rw [h2, Option.bind_eq_some_iff] at h1
      obtain ⟨cs', h3, h4⟩ := h1
      obtain ⟨u, rfl, hu⟩ := hg _ _ _ h4
      exact ⟨u, hu, cell_of_cells?_one h3⟩
    obtain ⟨b, off, spot⟩ := a
    obtain ⟨u0, _, h0⟩ := each 0 hp
    have hs : spot = none := by
      cases spot with
      | none => rfl
      | some s =>
        simp only [Addr.add, if_true, World.cell?] at h0
        split at h0 <;> simp at h0
    subst hs
    refine ⟨b, off, rfl, fun j hj => ?_⟩
    obtain ⟨u, hu, hcell⟩ := each j hj
    refine ⟨u, hu, ?_⟩
    rw [← hcell]
    congr 1
    unfold Addr.add
    split
    · rename_i h; subst h; rfl
    · rfl

/-- Chosen, element by element. -/
theorem list_of {α : Type} {n : Nat} {Q : Nat → α → Prop} (d : α) (h : ∀ j, j < n → ∃ x, Q j x) : ∃ xs : List α, xs.length = n ∧ ∀ j, j < n → Q j (xs.getD j d) := by
  induction n with
  | zero => exact ⟨[], rfl, fun j hj => absurd hj (by omega)⟩
  | succ n ih =>
    obtain ⟨xs, hl, hx⟩ := ih fun j hj => h j (by omega)
    obtain ⟨x, hq⟩ := h n (by omega)
    refine ⟨xs ++ [x], by simp [hl], fun j hj => ?_⟩
    by_cases hjn : j < n
    · have := hx j hjn
      simp only [List.getD_eq_getElem?_getD] at this ⊢
      rw [List.getElem?_append_left (by omega)]
      exact this
    · have : j = n := by omega
      subst this
      simp only [List.getD_eq_getElem?_getD]
      rw [List.getElem?_append_right (by omega)]
      simpa [hl] using hq

theorem open_f32s {t e : TypeId} {v : Value} {d : DataW H} {ps : List MemPlace} {b0 : Nat} {r : Reach} (ht : P.underlying t = some (.slice e)) (he : P.underlying e = some (.float .f32)) (hc : P.cellsOf e = 1)
    (hval : Value.okWide P w r b0 t v) (h : DataW.Trod enc P w base spare held t v d ps) : ∃ xs, HasF w v xs := by
  obtain ⟨A, len, cap, rfl, hl, _, hcell⟩ := open_cells (good := fun u => ∃ x, u = .float .f32 x) ht hc (fun fuel cs x hx => by
    obtain ⟨b, rfl⟩ := trod_float he hx
    exact ⟨_, rfl, b, rfl⟩) hval h
  by_cases hp : 0 < len
  · obtain ⟨b, off, rfl, hb⟩ := hcell hp
    obtain ⟨xs, hxl, hx⟩ := list_of (Q := fun j x => w.cell? ⟨b, off + j, none⟩ = some (.float .f32 x)) 0 (fun j hj => by
      obtain ⟨u, ⟨x, rfl⟩, hu⟩ := hb j hj
      exact ⟨x, hu⟩)
    subst hxl
    exact ⟨xs, some ⟨b, off, none⟩, cap, rfl, hl, fun _ => ⟨b, off, rfl, hx⟩⟩
  · have : len = 0 := by omega
    subst this
    exact ⟨[], A, cap, rfl, by simp, fun h => absurd h (by simp)⟩
end
end Go.Proofs.Ytihdpljkllpkaaa
