/- The law FnMixed. -/
import Derived.Test.YtdmahikaajdkgaaRbMw
import Derived.Test.YtdmahikaajdkgaaJb49
import Derived.Test.YtdmahikaajdkgaaJb45
import Derived.Test.YtdmahikaajdkgaaJb29
import Derived.Deep.DeepCutAuto
import Derived.Outline
namespace Go.Proofs.Ytdmahikaajdkgaa
open Go.RowKit

/-- The powers of a number whose parts are whole. -/
def upow (U : Int × Int) : Nat → Int × Int
  | 0 => (1, 0)
  | n + 1 => ((upow U n).1 * U.1 - (upow U n).2 * U.2, (upow U n).1 * U.2 + (upow U n).2 * U.1)
def IsTurn (U : Int × Int) : Prop := U = (0, 1) ∨ U = (0, -1) ∨ U = (-1, 0)
def IsUnit (U : Int × Int) : Prop := U = (1, 0) ∨ U = (-1, 0) ∨ U = (0, 1) ∨ U = (0, -1)
theorem upow_unit {U : Int × Int} (hU : IsTurn U) : ∀ n, IsUnit (upow U n)
  | 0 => .inl rfl
  | n + 1 => by
    have h := upow_unit hU n
    show IsUnit ((upow U n).1 * U.1 - (upow U n).2 * U.2, (upow U n).1 * U.2 + (upow U n).2 * U.1)
    rcases hU with rfl | rfl | rfl <;> rcases h with h | h | h | h <;> rw [h] <;> simp [IsUnit]
theorem upow_four {U : Int × Int} (hU : IsTurn U) (n : Nat) : upow U (n + 4) = upow U n := by
  show upow U (n + 1 + 1 + 1 + 1) = _
  simp only [upow]
  rcases hU with rfl | rfl | rfl <;> simp <;> (generalize upow _ n = p; obtain ⟨p, q⟩ := p; simp)
theorem upow_zero {U : Int × Int} (hU : IsTurn U) : ∀ n, n % 4 = 0 → upow U n = (1, 0)
  | 0, _ => rfl
  | 1, h => by omega
  | 2, h => by omega
  | 3, h => by omega
  | n + 4, h => by rw [upow_four hU]; exact upow_zero hU n (by omega)

/-- The parts of z are these whole numbers, with any sign of 0. -/
def WholeC (z : Cx) (U : Int × Int) : Prop := Whole z.1 U.1 ∧ Whole z.2 U.2
theorem mulW {z s : Cx} {a b p q : Int} (hz : WholeC z (a, b)) (hs : WholeC s (p, q)) (hu : IsUnit (p, q)) (ha : a.natAbs ≤ 100) (hb : b.natAbs ≤ 100) (w : World) :
    ∃ y, mulS z s = some y ∧ WholeC y (a * p - b * q, a * q + b * p) := by
  obtain ⟨h1, h2⟩ := hz
  obtain ⟨g1, g2⟩ := hs
  simp only at h1 h2 g1 g2
  have key : (a * p).natAbs ≤ 100 ∧ (b * q).natAbs ≤ 100 ∧ (a * q).natAbs ≤ 100 ∧ (b * p).natAbs ≤ 100 := by
    rcases hu with h | h | h | h <;> (injection h with hp hq; subst hp hq; simp; omega)
  obtain ⟨y, e, y1, y2⟩ := mulS_at (j := 149) (by omega) (a := z) (b := s) h1.sat h2.sat g1 g2 (by omega) (by omega) (by omega) (by omega) (by omega) (by omega) w
  exact ⟨y, e, y1.whole (by omega), y2.whole (by omega)⟩
theorem wholeC_one : WholeC (1065353216, 0) (1, 0) := by
  have e1 : fi 1 = 1065353216 := by decide +kernel
  have e0 : fi 0 = 0 := by decide +kernel
  have w1 := whole_fi (a := 1) (by decide)
  have w0 := whole_fi (a := 0) (by decide)
  rw [e1] at w1
  rw [e0] at w0
  exact ⟨w1, w0⟩
theorem turn_abs {U : Int × Int} (h : IsUnit U) : U.1.natAbs ≤ 1 ∧ U.2.natAbs ≤ 1 := by
  rcases h with rfl | rfl | rfl | rfl <;> decide
theorem turn_unit {U : Int × Int} (h : IsTurn U) : IsUnit U ∧ IsUnit (U.1, -U.2) := by
  rcases h with rfl | rfl | rfl <;> simp [IsUnit]
theorem unit_conj {U : Int × Int} (h : IsUnit U) : IsUnit (U.1, -U.2) := by
  rcases h with rfl | rfl | rfl | rfl <;> simp [IsUnit]
/-- The third power of a turn undoes it. -/
theorem turn_back {t : Cx} {U : Int × Int} (hU : IsTurn U) (ht : WholeC t U) (w : World) : ∃ s r, mulS t t = some s ∧ mulS s t = some r ∧ WholeC r (U.1, -U.2) := by
  obtain ⟨p, q⟩ := U
  have hu := (turn_unit hU).1
  have ha := turn_abs hu
  simp only at ha
  obtain ⟨s, e1, h1⟩ := mulW ht ht hu (by omega) (by omega) w
  have hk : (p * p - q * q).natAbs ≤ 100 ∧ (p * q + q * p).natAbs ≤ 100 := by
    rcases hU with h | h | h <;> (injection h with hp hq; subst hp hq; decide)
  obtain ⟨r, e2, h2⟩ := mulW h1 ht hu hk.1 hk.2 w
  refine ⟨s, r, e1, e2, ?_⟩
  have e3 : ((p * p - q * q) * p - (p * q + q * p) * q, (p * p - q * q) * q + (p * q + q * p) * p) = (p, -q) := by
    rcases hU with h | h | h <;> (injection h with hp hq; subst hp hq; decide)
  rw [e3] at h2
  exact h2

/-- A step of both: what they give, and their next states. -/
theorem mixed_step {U : Int × Int} (hU : IsTurn U) {t r sa sb z : Cx} {a b : Int} (k : Nat) (ht : WholeC t U) (hr : WholeC r (U.1, -U.2)) (ha : WholeC sa (upow U k)) (hb : WholeC sb ((upow U k).1, -(upow U k).2)) (hz : WholeC z (a, b)) (h1 : a.natAbs ≤ 3) (h2 : b.natAbs ≤ 3) (w : World) :
    ∃ y x na nb, mulS z sa = some y ∧ mulS y sb = some x ∧ mulS sa t = some na ∧ mulS sb r = some nb ∧ WholeC x (a, b) ∧ (k % 4 = 0 → WholeC y (a, b)) ∧ WholeC na (upow U (k + 1)) ∧ WholeC nb ((upow U (k + 1)).1, -(upow U (k + 1)).2) := by
  have hu := upow_unit hU k
  have hp := turn_abs hu
  have huc := unit_conj hu
  obtain ⟨hut, hutc⟩ := turn_unit hU
  have h4 := upow_zero hU k
  have hs : upow U (k + 1) = ((upow U k).1 * U.1 - (upow U k).2 * U.2, (upow U k).1 * U.2 + (upow U k).2 * U.1) := rfl
  rw [hs]
  generalize upow U k = V at *
  obtain ⟨p, q⟩ := V
  obtain ⟨c, d⟩ := U
  simp only at *
  obtain ⟨y, e1, y1⟩ := mulW hz ha hu (by omega) (by omega) w
  have hk : (a * p - b * q).natAbs ≤ 100 ∧ (a * q + b * p).natAbs ≤ 100 := by
    rcases hu with h | h | h | h <;> (injection h with hp hq; subst hp hq; simp; omega)
  obtain ⟨x, e2, x1⟩ := mulW y1 hb huc hk.1 hk.2 w
  have e5 : ((a * p - b * q) * p - (a * q + b * p) * -q, (a * p - b * q) * -q + (a * q + b * p) * p) = (a, b) := by
    rcases hu with h | h | h | h <;> (injection h with hp hq; subst hp hq; simp)
  rw [e5] at x1
  obtain ⟨na, e3, n1⟩ := mulW ha ht hut (by omega) (by omega) w
  obtain ⟨nb, e4, n2⟩ := mulW hb hr hutc (by omega) (by omega) w
  refine ⟨y, x, na, nb, e1, e2, e3, e4, x1, fun h => ?_, n1, ?_⟩
  · have := h4 h
    injection this with hp hq
    subst hp hq
    simpa using y1
  · have e6 : (p * c - -q * -d, p * -d + -q * c) = (p * c - q * d, -(p * d + q * c)) := by
      rcases hu with h | h | h | h <;> (injection h with hp hq; subst hp hq; simp) <;> omega
    rw [e6] at n2
    exact n2
theorem turn_bits : WholeC (0, 1065353216) (0, 1) ∧ WholeC (0, 3212836864) (0, -1) ∧ WholeC (3212836864, 0) (-1, 0) := by
  have e1 : fi 1 = 1065353216 := by decide +kernel
  have e2 : fi (-1) = 3212836864 := by decide +kernel
  have e0 : fi 0 = 0 := by decide +kernel
  have w1 := whole_fi (a := 1) (by decide)
  have w2 := whole_fi (a := -1) (by decide)
  have w0 := whole_fi (a := 0) (by decide)
  rw [e1] at w1
  rw [e2] at w2
  rw [e0] at w0
  exact ⟨⟨w0, w1⟩, ⟨w0, w2⟩, ⟨w2, w0⟩⟩
theorem eq_whole {x y : Cx} {a b : Int} (hx : WholeC x (a, b)) (hy : WholeC y (a, b)) : FloatKind.f32.format.order x.1 y.1 = some .eq ∧ FloatKind.f32.format.order x.2 y.2 = some .eq := by
  refine ⟨?_, ?_⟩
  · rw [order_whole hx.1 hy.1, (cmp_eq).2 rfl]
  · rw [order_whole hx.2 hy.2, (cmp_eq).2 rfl]

end Go.Proofs.Ytdmahikaajdkgaa
