/- Facts on the whole program, asked once for all laws of this seat. How the arguments of the laws are read: slices of floats. How the arguments of the laws are read: bytes. -/
import Derived.Test.YtkjlodoppmipfaaGreatRows
import Derived.ProofKit
import Derived.Test.YtkjlodoppmipfaaGreatJg2
import Derived.OpenShut
import Derived.Test.YtkjlodoppmipfaaGreatJg5
namespace Go.Proofs.YtkjlodoppmipfaaGreat
section
open Go.ChangeShapes Go.WideShapes Go.ChangeAt Go.RowKit

theorem own_all : ownKnob Tryz.prog.godebug = none := by kernel_rfl
theorem k_laid : laidOutB Tryz.prog = true := by kernel_rfl
theorem k_maps : mapsRowed Tryz.prog = true := by kernel_rfl
theorem k_stops : (Tryz.prog.stops == []) = true := by kernel_rfl
theorem k_knobs : (Tryz.prog.stopKnobs == []) = true := by kernel_rfl
theorem k_plain : (Rows.fnHealedRow.plainKeys == Tryz.prog.plainKeys) = true := by kernel_rfl
theorem k_heard : Tryz.prog.stopsHeard = true := by kernel_rfl
theorem k_three : (Tryz.prog.mayEnter && (Rows.fnHealedRow.lifted == Tryz.prog.liftsFinal) && (Tryz.prog.make == some Rows.fnHealedRow.make)) = true := by kernel_rfl


set_option maxRecDepth 100000 in
theorem facts_of (f : FuncId) (fn : Func) (s : ChangeSpec) (c : OpenClaim)
    (hp : c.plainKeys = Rows.fnHealedRow.plainKeys) (hl : c.lifted = Rows.fnHealedRow.lifted) (hm : c.make = Rows.fnHealedRow.make)
    (a : (c.wf (OpenSpec.ofChange s) && fn.params.all (Tryz.prog.readableRec ·) && namedTie Tryz.prog c.named s.vars && (c.stops == []) && (c.knobs == []) &&
      (c.inPlace == Tryz.prog.inPlace f) && (c.unfollowed == Tryz.prog.unfollowed f) && (c.recurses == Tryz.prog.recurses f) && (c.named == Tryz.prog.varsNamed f)) = true)
    (b : ((c.maps == (fn.params.toList ++ s.plain.varTypes Tryz.prog).any (Tryz.prog.mapsRec ·)) && (c.ifaces == (fn.params.toList ++ s.plain.varTypes Tryz.prog).any (Tryz.prog.ifacesRec ·)) && (c.mapsOut == Tryz.prog.mapsAmong fn.resultTypes.toList) &&
      (c.loops == (fn.params.toList ++ s.plain.varTypes Tryz.prog).any (Tryz.prog.loopsFrom ·)) && (c.wideKeys == (fn.params.toList ++ s.plain.varTypes Tryz.prog ++ fn.resultTypes.toList).any (Tryz.prog.wideKeysFrom ·)) &&
      s.vars.all (Tryz.prog.varReadable ·) && fn.resultTypes.all (fun t => Tryz.prog.readableRec t && decide (t < Tryz.prog.types.size)) && (c.ifacesOut == fn.resultTypes.toList.any (Tryz.prog.ifacesRec ·)) && (c.loopsOut == fn.resultTypes.toList.any (Tryz.prog.loopsFrom ·))) = true)
    (d : (c.shortTexts.isNone && (c.kinds == (if c.domain.isEmpty then [] else fn.params.toList.map fun t => match Tryz.prog.underlying t with | some (.int k) => some k | _ => none)) && (c.pinned == c.pinnedBy) &&
      (c.veiled == (fn.params.toList ++ s.plain.varTypes Tryz.prog ++ fn.resultTypes.toList).any (Tryz.prog.veiledRec ·)) && c.veiledFits Tryz.prog fn.params.toList (fn.params.toList ++ s.plain.varTypes Tryz.prog ++ fn.resultTypes.toList)) = true) :
    joinedFacts Tryz.prog f fn s c = true := by
  have h1 := k_laid
  have h2 := k_maps
  have h3 := k_stops
  have h4 := k_knobs
  have h5 := k_plain
  have h6 := k_heard
  have h7 := k_three
  rw [← hp] at h5
  rw [← hl, ← hm] at h7
  simp only [Bool.and_eq_true] at a b d h7
  obtain ⟨⟨⟨⟨⟨⟨⟨⟨a1, a2⟩, a3⟩, a4⟩, a5⟩, a6⟩, a7⟩, a8⟩, a9⟩ := a
  obtain ⟨⟨⟨⟨⟨⟨⟨⟨b1, b2⟩, b3⟩, b4⟩, b5⟩, b6⟩, b7⟩, b8⟩, b9⟩ := b
  obtain ⟨⟨⟨⟨d1, d2⟩, d3⟩, d4⟩, d5⟩ := d
  obtain ⟨⟨e1, e2⟩, e3⟩ := h7
  unfold joinedFacts
  rw [a1, h1, h2, a2, a3, a4, h3, a5, h4, a6, a7, a8, a9, b1, b2, b3, b4, b5, b6, b7, b8, b9, h5, d1, h6, e1, e2, e3, d3, d4, d5]
  simp only [Bool.true_and, Bool.and_true]
  exact d2
end
section
open Go.ChangeShapes Go.WideShapes Go.ChangeAt Go.RowKit

section
variable {H : Type} {enc : TypeId × Value → H} {P : Program} {w : World} {base : Nat} {spare : Nat → Bool} {held : Bool}

theorem trod_float {t : TypeId} {k : FloatKind} {fuel : Nat} {cs : List Value} {x : DataW H × List MemPlace} (ht : P.underlying t = some (.float k)) (h : DataW.trod enc P w base spare held fuel t cs = some x) : ∃ b, cs = [.float k b] := by
  cases fuel with
  | zero => simp [DataW.trod] at h
  | succ n =>
    unfold DataW.trod at h
    rw [ht] at h
    split at h <;> simp_all

/-- A slice of cells of one kind: each of its cells meets 'good'. -/
theorem open_cells {t e : TypeId} {good : Value → Prop} {v : Value} {d : DataW H} {ps : List MemPlace} {b0 : Nat} {r : Reach} (ht : P.underlying t = some (.slice e)) (hc : P.cellsOf e = 1)
    (hg : ∀ fuel cs (x : DataW H × List MemPlace), DataW.trod enc P w base spare held fuel e cs = some x → ∃ u, cs = [u] ∧ good u)
    (hval : Value.okWide P w r b0 t v) (h : DataW.Trod enc P w base spare held t v d ps) :
    ∃ (A : Option Addr) (len cap : Nat), v = .slice A len cap ∧ len ≤ cap ∧ cap ≤ maxLen ∧
      (0 < len → ∃ b off, A = some ⟨b, off, none⟩ ∧ ∀ j, j < len → ∃ u, good u ∧ w.cell? ⟨b, off + j, none⟩ = some u) := by
  obtain ⟨A, len, cap, rfl⟩ := okWide_slice ht hval
  obtain ⟨fuel, hf⟩ := h
  rcases DataW.trod_slice ht hf with ⟨h0, _⟩ | ⟨a, len', cap', elems, rest, n, _, hcs, _, hb, hl, hm, hlen, hel, _, _⟩
  · simp [Value.cells] at h0
    obtain ⟨rfl, rfl, rfl⟩ := h0
    exact ⟨none, 0, 0, rfl, Nat.le_refl _, by unfold maxLen; omega, fun h => absurd h (by omega)⟩
  · simp [Value.cells] at hcs
    obtain ⟨rfl, rfl, rfl⟩ := hcs
    refine ⟨some a, len, cap, rfl, hl, hm, fun hp => ?_⟩
    have each : ∀ i, i < len → ∃ u, good u ∧ w.cell? (a.add i) = some u := by
      intro i hi
      have h1 := hel i hi
      rw [hc, Nat.mul_one] at h1
      have h2 : elems[i]? = some (elems[i]'(by omega)) := List.getElem?_eq_getElem (by omega)
      rw [h2, Option.bind_eq_some_iff] at h1
      obtain ⟨cs', h3, h4⟩ := h1
      obtain ⟨u, rfl, hu⟩ := hg _ _ _ h4
      exact ⟨u, hu, cell_of_cells?_one h3⟩
    obtain ⟨b, off, spot⟩ := a
    obtain ⟨u0, _, h0⟩ := each 0 hp
    have hs : spot = none := by
      cases spot with
      | none => rfl
      | some s =>
        simp only [Addr.add, if_true, World.cell?] at h0
        split at h0 <;> simp at h0
    subst hs
    refine ⟨b, off, rfl, fun j hj => ?_⟩
    obtain ⟨u, hu, hcell⟩ := each j hj
    refine ⟨u, hu, ?_⟩
    rw [← hcell]
    congr 1
    unfold Addr.add
    split
    · rename_i h; subst h; rfl
    · rfl

/-- Chosen, element by element. -/
theorem list_of {α : Type} {n : Nat} {Q : Nat → α → Prop} (d : α) (h : ∀ j, j < n → ∃ x, Q j x) : ∃ xs : List α, xs.length = n ∧ ∀ j, j < n → Q j (xs.getD j d) := by
  induction n with
  | zero => exact ⟨[], rfl, fun j hj => absurd hj (by omega)⟩
  | succ n ih =>
    obtain ⟨xs, hl, hx⟩ := ih fun j hj => h j (by omega)
    obtain ⟨x, hq⟩ := h n (by omega)
    refine ⟨xs ++ [x], by simp [hl], fun j hj => ?_⟩
    by_cases hjn : j < n
    · have := hx j hjn
      simp only [List.getD_eq_getElem?_getD] at this ⊢
      rw [List.getElem?_append_left (by omega)]
      exact this
    · have : j = n := by omega
      subst this
      simp only [List.getD_eq_getElem?_getD]
      rw [List.getElem?_append_right (by omega)]
      simpa [hl] using hq

theorem open_f32s {t e : TypeId} {v : Value} {d : DataW H} {ps : List MemPlace} {b0 : Nat} {r : Reach} (ht : P.underlying t = some (.slice e)) (he : P.underlying e = some (.float .f32)) (hc : P.cellsOf e = 1)
    (hval : Value.okWide P w r b0 t v) (h : DataW.Trod enc P w base spare held t v d ps) : ∃ xs, HasF w v xs := by
  obtain ⟨A, len, cap, rfl, hl, _, hcell⟩ := open_cells (good := fun u => ∃ x, u = .float .f32 x) ht hc (fun fuel cs x hx => by
    obtain ⟨b, rfl⟩ := trod_float he hx
    exact ⟨_, rfl, b, rfl⟩) hval h
  by_cases hp : 0 < len
  · obtain ⟨b, off, rfl, hb⟩ := hcell hp
    obtain ⟨xs, hxl, hx⟩ := list_of (Q := fun j x => w.cell? ⟨b, off + j, none⟩ = some (.float .f32 x)) 0 (fun j hj => by
      obtain ⟨u, ⟨x, rfl⟩, hu⟩ := hb j hj
      exact ⟨x, hu⟩)
    subst hxl
    exact ⟨xs, some ⟨b, off, none⟩, cap, rfl, hl, fun _ => ⟨b, off, rfl, hx⟩⟩
  · have : len = 0 := by omega
    subst this
    exact ⟨[], A, cap, rfl, by simp, fun h => absurd h (by simp)⟩
end

theorem cells_f32 : Tryz.prog.cellsOf 24 = 1 := by kernel_rfl
end
section
open Go.ChangeShapes Go.WideShapes Go.ChangeAt Go.RowKit

section
variable {H : Type} {enc : TypeId × Value → H} {P : Program} {w : World} {base : Nat} {spare : Nat → Bool} {held : Bool}

theorem trod_u8 {t : TypeId} {fuel : Nat} {cs : List Value} {x : DataW H × List MemPlace} (ht : P.underlying t = some (.int .u8)) (h : DataW.trod enc P w base spare held fuel t cs = some x) : ∃ u : Int, cs = [.int .u8 u] ∧ 0 ≤ u ∧ u ≤ 255 := by
  obtain ⟨n, rfl, _, hw⟩ := DataW.trod_int ht h
  have e1 : IntKind.u8.min = 0 := by decide +kernel
  have e2 : IntKind.u8.max = 255 := by decide +kernel
  simp only [Lit.wf, e1, e2, Bool.and_eq_true, decide_eq_true_eq] at hw
  exact ⟨n, rfl, hw.1, hw.2⟩

theorem open_bytes {t e : TypeId} {v : Value} {d : DataW H} {ps : List MemPlace} {b0 : Nat} {r : Reach} (ht : P.underlying t = some (.slice e)) (he : P.underlying e = some (.int .u8)) (hc : P.cellsOf e = 1)
    (hval : Value.okWide P w r b0 t v) (h : DataW.Trod enc P w base spare held t v d ps) : ∃ A n c, v = .slice A n c ∧ HasBy w.heap.size w A n := by
  obtain ⟨A, len, cap, rfl, _, _, hcell⟩ := open_cells (good := fun u => ∃ x : Int, u = .int .u8 x ∧ 0 ≤ x ∧ x ≤ 255) ht hc (fun fuel cs x hx => by
    obtain ⟨b, rfl, b0, b1⟩ := trod_u8 he hx
    exact ⟨_, rfl, b, rfl, b0, b1⟩) hval h
  refine ⟨A, len, cap, rfl, fun hp => ?_⟩
  obtain ⟨b, off, rfl, hb⟩ := hcell hp
  obtain ⟨u, _, hu⟩ := hb 0 hp
  refine ⟨b, off, rfl, World.block_lt_of_cell? w ⟨b, off + 0, none⟩ hu, fun j hj => ?_⟩
  obtain ⟨u, ⟨x, rfl, x0, x1⟩, hu⟩ := hb j hj
  exact ⟨x, x0, x1, hu⟩
end

theorem cells_u8 : Tryz.prog.cellsOf 5 = 1 := by kernel_rfl
end
end Go.Proofs.YtkjlodoppmipfaaGreat
