/- Facts on the whole program, asked once for all laws of this seat. -/
import Derived.Test.YtfafkdpefdpnkaaGreatRows
import Derived.ProofKit
namespace Go.Proofs.YtfafkdpefdpnkaaGreat
open Go.ChangeShapes Go.WideShapes Go.ChangeAt Go.RowKit

theorem own_all : ownKnob Tryz.prog.godebug = none := by kernel_rfl
theorem k_laid : laidOutB Tryz.prog = true := by kernel_rfl
theorem k_maps : mapsRowed Tryz.prog = true := by kernel_rfl
theorem k_stops : (Tryz.prog.stops == []) = true := by kernel_rfl
theorem k_knobs : (Tryz.prog.stopKnobs == []) = true := by kernel_rfl
theorem k_plain : (Rows.fnSlicedRow.plainKeys == Tryz.prog.plainKeys) = true := by kernel_rfl
theorem k_heard : Tryz.prog.stopsHeard = true := by kernel_rfl
theorem k_three : (Tryz.prog.mayEnter && (Rows.fnSlicedRow.lifted == Tryz.prog.liftsFinal) && (Tryz.prog.make == some Rows.fnSlicedRow.make)) = true := by kernel_rfl


set_option maxRecDepth 100000 in
theorem facts_of (f : FuncId) (fn : Func) (s : ChangeSpec) (c : OpenClaim)
    (hp : c.plainKeys = Rows.fnSlicedRow.plainKeys) (hl : c.lifted = Rows.fnSlicedRow.lifted) (hm : c.make = Rows.fnSlicedRow.make)
    (a : (c.wf (OpenSpec.ofChange s) && fn.params.all (Tryz.prog.readableRec ·) && namedTie Tryz.prog c.named s.vars && (c.stops == []) && (c.knobs == []) &&
      (c.inPlace == Tryz.prog.inPlace f) && (c.unfollowed == Tryz.prog.unfollowed f) && (c.recurses == Tryz.prog.recurses f) && (c.named == Tryz.prog.varsNamed f)) = true)
    (b : ((c.maps == (fn.params.toList ++ s.plain.varTypes Tryz.prog).any (Tryz.prog.mapsRec ·)) && (c.ifaces == (fn.params.toList ++ s.plain.varTypes Tryz.prog).any (Tryz.prog.ifacesRec ·)) && (c.mapsOut == Tryz.prog.mapsAmong fn.resultTypes.toList) &&
      (c.loops == (fn.params.toList ++ s.plain.varTypes Tryz.prog).any (Tryz.prog.loopsFrom ·)) && (c.wideKeys == (fn.params.toList ++ s.plain.varTypes Tryz.prog ++ fn.resultTypes.toList).any (Tryz.prog.wideKeysFrom ·)) &&
      s.vars.all (Tryz.prog.varReadable ·) && fn.resultTypes.all (fun t => Tryz.prog.readableRec t && decide (t < Tryz.prog.types.size)) && (c.ifacesOut == fn.resultTypes.toList.any (Tryz.prog.ifacesRec ·)) && (c.loopsOut == fn.resultTypes.toList.any (Tryz.prog.loopsFrom ·))) = true)
    (d : (c.shortTexts.isNone && (c.kinds == (if c.domain.isEmpty then [] else fn.params.toList.map fun t => match Tryz.prog.underlying t with | some (.int k) => some k | _ => none)) && (c.pinned == c.pinnedBy) &&
      (c.veiled == (fn.params.toList ++ s.plain.varTypes Tryz.prog ++ fn.resultTypes.toList).any (Tryz.prog.veiledRec ·)) && c.veiledFits Tryz.prog fn.params.toList (fn.params.toList ++ s.plain.varTypes Tryz.prog ++ fn.resultTypes.toList)) = true) :
    joinedFacts Tryz.prog f fn s c = true := by
  have h1 := k_laid
  have h2 := k_maps
  have h3 := k_stops
  have h4 := k_knobs
  have h5 := k_plain
  have h6 := k_heard
  have h7 := k_three
  rw [← hp] at h5
  rw [← hl, ← hm] at h7
  simp only [Bool.and_eq_true] at a b d h7
  obtain ⟨⟨⟨⟨⟨⟨⟨⟨a1, a2⟩, a3⟩, a4⟩, a5⟩, a6⟩, a7⟩, a8⟩, a9⟩ := a
  obtain ⟨⟨⟨⟨⟨⟨⟨⟨b1, b2⟩, b3⟩, b4⟩, b5⟩, b6⟩, b7⟩, b8⟩, b9⟩ := b
  obtain ⟨⟨⟨⟨d1, d2⟩, d3⟩, d4⟩, d5⟩ := d
  obtain ⟨⟨e1, e2⟩, e3⟩ := h7
  unfold joinedFacts
  rw [a1, h1, h2, a2, a3, a4, h3, a5, h4, a6, a7, a8, a9, b1, b2, b3, b4, b5, b6, b7, b8, b9, h5, d1, h6, e1, e2, e3, d3, d4, d5]
  simp only [Bool.true_and, Bool.and_true]
  exact d2
end Go.Proofs.YtfafkdpefdpnkaaGreat
