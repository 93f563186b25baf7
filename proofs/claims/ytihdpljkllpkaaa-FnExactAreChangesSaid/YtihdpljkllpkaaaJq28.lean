/- Facts on the whole program, asked once for all laws of this seat. -/
import Derived.Test.YtihdpljkllpkaaaRows
import Derived.ProofKit
namespace Go.Proofs.Ytihdpljkllpkaaa
open Go.ChangeShapes Go.WideShapes Go.ChangeAt Go.RowKit

theorem own_all : ownKnob Try.prog.godebug = none := by kernel_rfl
theorem k_laid : laidOutB Try.prog = true := by kernel_rfl
theorem k_maps : mapsRowed Try.prog = true := by kernel_rfl
theorem k_stops : (Try.prog.stops == []) = true := by kernel_rfl
theorem k_knobs : (Try.prog.stopKnobs == []) = true := by kernel_rfl
theorem k_plain : (Rows.fnExactAreChangesRow.plainKeys == Try.prog.plainKeys) = true := by kernel_rfl
theorem k_heard : Try.prog.stopsHeard = true := by kernel_rfl
theorem k_three : (Try.prog.mayEnter && (Rows.fnExactAreChangesRow.lifted == Try.prog.liftsFinal) && (Try.prog.make == some Rows.fnExactAreChangesRow.make)) = true := by kernel_rfl


set_option maxRecDepth 100000 in
theorem facts_of (f : FuncId) (fn : Func) (s : ChangeSpec) (c : OpenClaim)
    (hp : c.plainKeys = Rows.fnExactAreChangesRow.plainKeys) (hl : c.lifted = Rows.fnExactAreChangesRow.lifted) (hm : c.make = Rows.fnExactAreChangesRow.make)
    (a : (c.wf (OpenSpec.ofChange s) && fn.params.all (Try.prog.readableRec ·) && namedTie Try.prog c.named s.vars && (c.stops == []) && (c.knobs == []) &&
      (c.inPlace == Try.prog.inPlace f) && (c.unfollowed == Try.prog.unfollowed f) && (c.recurses == Try.prog.recurses f) && (c.named == Try.prog.varsNamed f)) = true)
    (b : ((c.maps == (fn.params.toList ++ s.plain.varTypes Try.prog).any (Try.prog.mapsRec ·)) && (c.ifaces == (fn.params.toList ++ s.plain.varTypes Try.prog).any (Try.prog.ifacesRec ·)) && (c.mapsOut == Try.prog.mapsAmong fn.resultTypes.toList) &&
      (c.loops == (fn.params.toList ++ s.plain.varTypes Try.prog).any (Try.prog.loopsFrom ·)) && (c.wideKeys == (fn.params.toList ++ s.plain.varTypes Try.prog ++ fn.resultTypes.toList).any (Try.prog.wideKeysFrom ·)) &&
      s.vars.all (Try.prog.varReadable ·) && fn.resultTypes.all (fun t => Try.prog.readableRec t && decide (t < Try.prog.types.size)) && (c.ifacesOut == fn.resultTypes.toList.any (Try.prog.ifacesRec ·)) && (c.loopsOut == fn.resultTypes.toList.any (Try.prog.loopsFrom ·))) = true)
    (d : (c.shortTexts.isNone && (c.kinds == (if c.domain.isEmpty then [] else fn.params.toList.map fun t => match Try.prog.underlying t with | some (.int k) => some k | _ => none)) && (c.pinned == c.pinnedBy) &&
      (c.veiled == (fn.params.toList ++ s.plain.varTypes Try.prog ++ fn.resultTypes.toList).any (Try.prog.veiledRec ·)) && c.veiledFits Try.prog fn.params.toList (fn.params.toList ++ s.plain.varTypes Try.prog ++ fn.resultTypes.toList)) = true) :
    joinedFacts Try.prog f fn s c = true := by
  have h1 := k_laid
  have h2 := k_maps
  have h3 := k_stops
  have h4 := k_knobs
  have h5 := k_plain
  have h6 := k_heard
  have h7 := k_three
  rw [← hp] at h5
  rw [← hl, ← hm] at h7
  simp only [Bool.and_eq_true] at a b d h7
  obtain ⟨⟨⟨⟨⟨⟨⟨⟨a1, a2⟩, a3⟩, a4⟩, a5⟩, a6⟩, a7⟩, a8⟩, a9⟩ := a
  obtain ⟨⟨⟨⟨⟨⟨⟨⟨b1, b2⟩, b3⟩, b4⟩, b5⟩, b6⟩, b7⟩, b8⟩, b9⟩ := b
  obtain ⟨⟨⟨⟨d1, d2⟩, d3⟩, d4⟩, d5⟩ := d
  obtain ⟨⟨e1, e2⟩, e3⟩ := h7
  unfold joinedFacts
  rw [a1, h1, h2, a2, a3, a4, h3, a5, h4, a6, a7, a8, a9, b1, b2, b3, b4, b5, b6, b7, b8, b9, h5, d1, h6, e1, e2, e3, d3, d4, d5]
  simp only [Bool.true_and, Bool.and_true]
  exact d2
end Go.Proofs.Ytihdpljkllpkaaa
