/- Facts on the whole program, asked once for all laws of this seat. -/
import Derived.Test.YthcccliiokckjaaDoorRows
import Derived.ProofKit
namespace Go.Proofs.YthcccliiokckjaaDoor
open Go.ChangeShapes Go.WideShapes Go.ChangeAt Go.RowKit

theorem own_all : ownKnob Tryd.prog.godebug = none := by kernel_rfl
theorem k_laid : laidOutB Tryd.prog = true := by kernel_rfl
theorem k_maps : mapsRowed Tryd.prog = true := by kernel_rfl
theorem k_stops : (Tryd.prog.stops == []) = true := by kernel_rfl
theorem k_knobs : (Tryd.prog.stopKnobs == []) = true := by kernel_rfl
theorem k_plain : (Rows.fnStepsRow.plainKeys == Tryd.prog.plainKeys) = true := by kernel_rfl
theorem k_heard : Tryd.prog.stopsHeard = true := by kernel_rfl
theorem k_three : (Tryd.prog.mayEnter && (Rows.fnStepsRow.lifted == Tryd.prog.liftsFinal) && (Tryd.prog.make == some Rows.fnStepsRow.make)) = true := by kernel_rfl


set_option maxRecDepth 100000 in
theorem facts_of (f : FuncId) (fn : Func) (s : ChangeSpec) (c : OpenClaim)
    (hp : c.plainKeys = Rows.fnStepsRow.plainKeys) (hl : c.lifted = Rows.fnStepsRow.lifted) (hm : c.make = Rows.fnStepsRow.make)
    (a : (c.wf (OpenSpec.ofChange s) && fn.params.all (Tryd.prog.readableRec ·) && namedTie Tryd.prog c.named s.vars && (c.stops == []) && (c.knobs == []) &&
      (c.inPlace == Tryd.prog.inPlace f) && (c.unfollowed == Tryd.prog.unfollowed f) && (c.recurses == Tryd.prog.recurses f) && (c.named == Tryd.prog.varsNamed f)) = true)
    (b : ((c.maps == (fn.params.toList ++ s.plain.varTypes Tryd.prog).any (Tryd.prog.mapsRec ·)) && (c.ifaces == (fn.params.toList ++ s.plain.varTypes Tryd.prog).any (Tryd.prog.ifacesRec ·)) && (c.mapsOut == Tryd.prog.mapsAmong fn.resultTypes.toList) &&
      (c.loops == (fn.params.toList ++ s.plain.varTypes Tryd.prog).any (Tryd.prog.loopsFrom ·)) && (c.wideKeys == (fn.params.toList ++ s.plain.varTypes Tryd.prog ++ fn.resultTypes.toList).any (Tryd.prog.wideKeysFrom ·)) &&
      s.vars.all (Tryd.prog.varReadable ·) && fn.resultTypes.all (fun t => Tryd.prog.readableRec t && decide (t < Tryd.prog.types.size)) && (c.ifacesOut == fn.resultTypes.toList.any (Tryd.prog.ifacesRec ·)) && (c.loopsOut == fn.resultTypes.toList.any (Tryd.prog.loopsFrom ·))) = true)
    (d : (c.shortTexts.isNone && (c.kinds == (if c.domain.isEmpty then [] else fn.params.toList.map fun t => match Tryd.prog.underlying t with | some (.int k) => some k | _ => none)) && (c.pinned == c.pinnedBy) &&
      (c.veiled == (fn.params.toList ++ s.plain.varTypes Tryd.prog ++ fn.resultTypes.toList).any (Tryd.prog.veiledRec ·)) && c.veiledFits Tryd.prog fn.params.toList (fn.params.toList ++ s.plain.varTypes Tryd.prog ++ fn.resultTypes.toList)) = true) :
    joinedFacts Tryd.prog f fn s c = true := by
  have h1 := k_laid
  have h2 := k_maps
  have h3 := k_stops
  have h4 := k_knobs
  have h5 := k_plain
  have h6 := k_heard
  have h7 := k_three
  rw [← hp] at h5
  rw [← hl, ← hm] at h7
  simp only [Bool.and_eq_true] at a b d h7
  obtain ⟨⟨⟨⟨⟨⟨⟨⟨a1, a2⟩, a3⟩, a4⟩, a5⟩, a6⟩, a7⟩, a8⟩, a9⟩ := a
  obtain ⟨⟨⟨⟨⟨⟨⟨⟨b1, b2⟩, b3⟩, b4⟩, b5⟩, b6⟩, b7⟩, b8⟩, b9⟩ := b
  obtain ⟨⟨⟨⟨d1, d2⟩, d3⟩, d4⟩, d5⟩ := d
  obtain ⟨⟨e1, e2⟩, e3⟩ := h7
  unfold joinedFacts
  rw [a1, h1, h2, a2, a3, a4, h3, a5, h4, a6, a7, a8, a9, b1, b2, b3, b4, b5, b6, b7, b8, b9, h5, d1, h6, e1, e2, e3, d3, d4, d5]
  simp only [Bool.true_and, Bool.and_true]
  exact d2
end Go.Proofs.YthcccliiokckjaaDoor
