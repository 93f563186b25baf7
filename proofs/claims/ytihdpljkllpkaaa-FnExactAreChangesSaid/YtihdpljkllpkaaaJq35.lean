/- How the arguments of the laws are read: bytes. -/
import Derived.Test.YtihdpljkllpkaaaJq29
import Derived.Test.YtihdpljkllpkaaaJq10
namespace Go.Proofs.Ytihdpljkllpkaaa
open Go.ChangeShapes Go.WideShapes Go.ChangeAt Go.RowKit

section
variable {H : Type} {enc : TypeId × Value → H} {P : Program} {w : World} {base : Nat} {spare : Nat → Bool} {held : Bool}

theorem trod_u8 {t : TypeId} {fuel : Nat} {cs : List Value} {x : DataW H × List MemPlace} (ht : P.underlying t = some (.int .u8)) (h : DataW.trod enc P w base spare held fuel t cs = some x) : ∃ u : Int, cs = [.int .u8 u] ∧ 0 ≤ u ∧ u ≤ 255 := by
  obtain ⟨n, rfl, _, hw⟩ := DataW.trod_int ht h
  have e1 : IntKind.u8.min = 0 := by decide +kernel
  have e2 : IntKind.u8.max = 255 := by decide +kernel
  simp only [Lit.wf, e1, e2, Bool.and_eq_true, decide_eq_true_eq] at hw
  exact ⟨n, rfl, hw.1, hw.2⟩

theorem open_bytes {t e : TypeId} {v : Value} {d : DataW H} {ps : List MemPlace} {b0 : Nat} {r : Reach} (ht : P.underlying t = some (.slice e)) (he : P.underlying e = some (.int .u8)) (hc : P.cellsOf e = 1)
    (hval : Value.okWide P w r b0 t v) (h : DataW.Trod enc P w base spare held t v d ps) : ∃ A n c, v = .slice A n c ∧ HasBy w.heap.size w A n := by
  obtain ⟨A, len, cap, rfl, _, _, hcell⟩ := open_cells (good := fun u => ∃ x : Int, u = .int .u8 x ∧ 0 ≤ x ∧ x ≤ 255) ht hc (fun fuel cs x hx => by
    obtain ⟨b, rfl, b0, b1⟩ := trod_u8 he hx
    exact ⟨_, rfl, b, rfl, b0, b1⟩) hval h
  refine ⟨A, len, cap, rfl, fun hp => ?_⟩
  obtain ⟨b, off, rfl, hb⟩ := hcell hp
  obtain ⟨u, _, hu⟩ := hb 0 hp
  refine ⟨b, off, rfl, World.block_lt_of_cell? w ⟨b, off + 0, none⟩ hu, fun j hj => ?_⟩
  obtain ⟨u, ⟨x, rfl, x0, x1⟩, hu⟩ := hb j hj
  exact ⟨x, x0, x1, hu⟩
end

theorem cells_u8 : Try.prog.cellsOf 5 = 1 := by kernel_rfl
end Go.Proofs.Ytihdpljkllpkaaa
