/- Complex numbers: conversions, for every input. -/
import Derived.Test.YtkjlodoppmipfaaGreatJg2
namespace Go.Proofs.YtkjlodoppmipfaaGreat
open Go.RowKit

section
variable {P : Program} (w : World)

theorem run_fF (s k : FloatKind) (b : Nat) : (Conv.floatToFloat s b k).run P w = .ok (.float k (fCv s k b w)) (w.drewN (fCd s k b)) := by
  cases hf : floatToFloatBits s b k with
  | some r =>
    rw [run_floatToFloat w hf]
    simp [fCv, fCd, hf]
  | none =>
    simp only [fCv, fCd, hf]
    unfold floatToFloatBits at hf
    split at hf
    · cases hf
    · rename_i ne
      split at hf
      · rename_i sg fr he
        simp [Conv.floatToFloat, ne, he, Question.forced, World.drewN, Ieee.Datum.isNaN]
      · cases hf
      · rename_i sg m e he
        split at hf
        · rename_i ho
          simp [Conv.floatToFloat, ne, he, ho, Question.forced, World.drewN, Ieee.Datum.isNaN]
        · cases hf

@[go_sem] theorem run_cCv (src dst : TypeId) (s k : FloatKind) (a b : Nat) (hs : (P.underlying src).isSome = true) (hd : P.underlying dst = some (.complex k)) :
    (convert src dst (.complex s a b)).run P w = .ok (.complex k (fCv s k a w) (fCv s k b (w.drewN (fCd s k a)))) (w.drewN (fCd s k a + fCd s k b)) := by
  obtain ⟨u, hs'⟩ := Option.isSome_iff_exists.1 hs
  cases u <;> simp [convert, run_underlying hs', run_underlying hd, Conv.complexToComplex, run_fF, World.drewN_drewN]

end
end Go.Proofs.YtkjlodoppmipfaaGreat
