/- Complex numbers: conversions, for every input. -/
import Derived.Test.YtocmppilihiehaaA1
namespace Go.Proofs.Ytocmppilihiehaa
open Go.RowKit

section
variable {P : Program} (w : World)

theorem run_fF (s k : FloatKind) (b : Nat) : (Conv.floatToFloat s b k).run P w = .ok (.float k (fCv s k b w)) (w.drewN (fCd s k b)) := by
  cases hf : floatToFloatBits s b k with
  | some r =>
    rw [run_floatToFloat w hf]
    simp [fCv, fCd, hf, World.drewN_zero]
  | none =>
    simp only [fCv, fCd, hf]
    unfold floatToFloatBits at hf
    split at hf
    · cases hf
    · rename_i ne
      split at hf
      · rename_i sg fr he
        simp [Conv.floatToFloat, ne, he, Question.forced, World.drewN, Ieee.Datum.isNaN]
      · cases hf
      · rename_i sg m e he
        split at hf
        · rename_i ho
          simp [Conv.floatToFloat, ne, he, ho, Question.forced, World.drewN, Ieee.Datum.isNaN]
        · cases hf

@[go_sem] theorem run_cCv (src dst : TypeId) (s k : FloatKind) (a b : Nat) (hs : (P.underlying src).isSome = true) (hd : P.underlying dst = some (.complex k)) :
    (convert src dst (.complex s a b)).run P w = .ok (.complex k (fCv s k a w) (fCv s k b (w.drewN (fCd s k a)))) (w.drewN (fCd s k a + fCd s k b)) := by
  obtain ⟨u, hs'⟩ := Option.isSome_iff_exists.1 hs
  cases u <;> simp [convert, run_underlying hs', run_underlying hd, Conv.complexToComplex, run_fF, World.drewN_drewN]

end

theorem sameComplex_true (a b c d : Nat) (w : World) (h1 : FE .f64 a c) (h2 : FE .f64 b d) : Calls Try.prog 68 #[.complex .f64 a b, .complex .f64 c d] w (SaysTrue w) := by
  go_enter Try.func68, Try.ntmps68
  go_wp2_with fail
  refine (sameFloat_true _ _ _ h1).mono ?_
  rintro _ _ ⟨n, rfl, rfl⟩
  go_wp2_with fail
  refine (sameFloat_true _ _ _ h2).mono ?_
  rintro _ _ ⟨m, rfl, rfl⟩
  go_wp2_with fail
  go_ret
  exact ⟨_, rfl, rfl⟩

theorem sameComplex_wide (x1 x2 y1 y2 : Nat) (wa wb wc wd w : World) (h1 : FE .f32 x1 y1) (h2 : FE .f32 x2 y2) :
    Calls Try.prog 68 #[.complex .f64 (fCv .f32 .f64 x1 wa) (fCv .f32 .f64 x2 wb), .complex .f64 (fCv .f32 .f64 y1 wc) (fCv .f32 .f64 y2 wd)] w (SaysTrue w) :=
  sameComplex_true _ _ _ _ w (FE.widen _ _ h1) (FE.widen _ _ h2)
end Go.Proofs.Ytocmppilihiehaa
