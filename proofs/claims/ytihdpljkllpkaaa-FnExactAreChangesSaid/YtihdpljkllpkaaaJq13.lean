/- Widening, absolute values; subnormal numbers in double precision. -/
import Derived.Test.YtihdpljkllpkaaaJq12
namespace Go.Proofs.Ytihdpljkllpkaaa
open Ieee Go.RowKit

theorem d_lp : Ieee.double.leastPlace = -1074 := by decide +kernel
theorem d_inf : Ieee.double.infRung = 9218868437227405312 := by decide +kernel
theorem d_bin : Ieee.double.binade = 4503599627370496 := by decide +kernel
theorem d_eb : 2 ≤ Ieee.double.exponentBits := by decide +kernel

theorem not_nan_of_fin {x : Nat} (h : rungOf Ieee.single x < Ieee.single.infRung) : nanB .f32 x = false := by
  obtain ⟨m, e, hr, _⟩ := read_fin Ieee.single h
  show (Ieee.single.read x).isNaN = false
  rw [hr]; rfl

theorem pow_shift (m e k : Nat) : m * 2 ^ (e + k) = m * 2 ^ e * 2 ^ k := by rw [Nat.pow_add, Nat.mul_assoc]
theorem cmp_scaled (u c K : Nat) (hK : 0 < K) : (compare (sgn false (u * K)) (sgn false (c * K)) = .lt) ↔ u < c := by
  rw [cmp_lt]
  unfold sgn
  simp only [Bool.false_eq_true, if_false]
  rw [Int.ofNat_lt, Nat.mul_lt_mul_right hK]

/-- A finite number widened: the same number. -/
theorem widen_fin {x : Nat} (w : World) (h : rungOf Ieee.single x < Ieee.single.infRung) :
    isU Ieee.double (fCv .f32 .f64 x w) (negOf Ieee.single x) (units Ieee.single (rungOf Ieee.single x) * 2 ^ 925) := by
  obtain ⟨m, e, hr, hu⟩ := read_fin Ieee.single h
  obtain ⟨e', he, hp, hm⟩ := read_single_number hr
  rw [s_lp] at hp
  have hee : e' = e := by omega
  subst hee
  have hw := wide_isU (negOf Ieee.single x) he hm
  obtain ⟨m', g', hr', _⟩ := read_isU hw
  have hs : floatToFloatBits .f32 x .f64 = some (Ieee.double.nearest (negOf Ieee.single x) m (-149 + (e' : Int))) := by
    unfold floatToFloatBits FloatKind.decode FloatKind.encode FloatKind.format
    rw [if_neg (by simp)]
    simp only []
    rw [hr, s_lp]
    simp only [Ieee.Format.write, hr', Ieee.Datum.isInfinity]
    rfl
  have hc : fCv .f32 .f64 x w = Ieee.double.nearest (negOf Ieee.single x) m (-149 + (e' : Int)) := by unfold fCv; rw [hs]
  rw [hc]
  rw [pow_shift m e' 925, hu] at hw
  exact hw

theorem widen_inf {x : Nat} {s : Bool} (w : World) (h : Ieee.single.read x = .infinity s) : Ieee.double.read (fCv .f32 .f64 x w) = .infinity s := by
  have hs : floatToFloatBits .f32 x .f64 = some (Ieee.double.write (.infinity s)) := by
    unfold floatToFloatBits FloatKind.decode FloatKind.encode FloatKind.format
    rw [if_neg (by simp)]
    simp only []
    rw [h]
  have hc : fCv .f32 .f64 x w = Ieee.double.write (.infinity s) := by unfold fCv; rw [hs]
  rw [hc]
  cases s <;> decide +kernel

/-- Finite words stand to each other as their units do. -/
theorem order_isU {f : Format} {x y : Nat} {s t : Bool} {A B : Nat} (hx : isU f x s A) (hy : isU f y t B) : f.order x y = some (compare (sgn s A) (sgn t B)) := by
  obtain ⟨m, e, h1, h2⟩ := read_isU hx
  obtain ⟨n, g, h3, h4⟩ := read_isU hy
  rw [order_fin h1 h3, h2, h4]

/-- y is the absolute value of x. -/
def AbsOf (x y : Nat) : Prop := (nanB .f32 x = true → y = x) ∧ (nanB .f32 x = false → rungOf Ieee.single y = rungOf Ieee.single x ∧ negOf Ieee.single y = false)

theorem neg_rung (x : Nat) : rungOf Ieee.single (Op.negFloat .f32 x) = rungOf Ieee.single x ∧ negOf Ieee.single (Op.negFloat .f32 x) = !negOf Ieee.single x := by
  have hN : Op.negFloat .f32 x = x ^^^ 2 ^ 31 := rfl
  have hs : Ieee.single.signWeight = 2 ^ 31 := by decide +kernel
  unfold rungOf negOf
  rw [hN, hs]
  refine ⟨?_, ?_⟩
  · rw [Nat.xor_mod_two_pow]
    simp
  · have a1 : ∀ b, (b / 2 ^ 31 % 2 == 1) = b.testBit 31 := by
      intro b
      rw [Nat.testBit_eq_decide_div_mod_eq]
      rw [Bool.eq_iff_iff]; simp
    rw [a1, a1, Nat.testBit_xor]
    have : (2 ^ 31 : Nat).testBit 31 = true := by decide +kernel
    rw [this]; simp

/-- How a number stands to 0. -/
theorem order_zero_fin {x : Nat} (h : rungOf Ieee.single x < Ieee.single.infRung) :
    Ieee.single.order x 0 = some (if rungOf Ieee.single x = 0 then .eq else if negOf Ieee.single x then .lt else .gt) := by
  have h0 : rungOf Ieee.single 0 < Ieee.single.infRung := by rw [rung_zero, s_inf]; omega
  have hz : units Ieee.single 0 = 0 := by decide +kernel
  rw [order_rung _ h h0, rung_zero, neg_zero_, hz]
  congr 1
  have hu := units_zero Ieee.single (r := rungOf Ieee.single x)
  by_cases hr : rungOf Ieee.single x = 0
  · rw [if_pos hr, hu.2 hr, cmp_eq]
    cases negOf Ieee.single x <;> simp [sgn]
  · rw [if_neg hr]
    have : 0 < units Ieee.single (rungOf Ieee.single x) := by
      rcases Nat.eq_zero_or_pos (units Ieee.single (rungOf Ieee.single x)) with h | h
      · exact absurd (hu.1 h) hr
      · exact h
    cases negOf Ieee.single x
    · simp only [Bool.false_eq_true, if_false, cmp_gt]; simp [sgn]; omega
    · simp only [if_true, cmp_lt]; simp [sgn]; omega

theorem isU_dleast : isU Ieee.double 4039728865751334912 false (8388608 * 2 ^ 925) := ⟨4039728865751334912, rfl, by rw [d_inf]; omega, by decide +kernel⟩

/-- What spec asks of x is whether it is subnormal. -/
theorem sub_spec (x y : Nat) (w : World) (h : AbsOf x y) : ((Ieee.single.order x 0 != some .eq) && (Ieee.double.order (fCv .f32 .f64 y w) 4039728865751334912 == some .lt)) = subB x := by
  rcases Nat.lt_trichotomy (rungOf Ieee.single x) Ieee.single.infRung with hr | hr | hr
  · obtain ⟨h1, h2⟩ := h.2 (not_nan_of_fin hr)
    have hy : rungOf Ieee.single y < Ieee.single.infRung := by rw [h1]; exact hr
    rw [order_isU (widen_fin w hy) isU_dleast, order_zero_fin hr, h1, h2]
    have hc := cmp_scaled (units Ieee.single (rungOf Ieee.single x)) 8388608 (2 ^ 925) (Nat.two_pow_pos 925)
    have hu : units Ieee.single (rungOf Ieee.single x) < 8388608 ↔ rungOf Ieee.single x < 8388608 := by
      by_cases hb : rungOf Ieee.single x < Ieee.single.binade
      · rw [units_small _ hb]
      · have := units_big Ieee.single (r := rungOf Ieee.single x) (by omega)
        rw [s_bin] at this hb
        constructor <;> intro <;> omega
    rw [Bool.eq_iff_iff]
    simp only [Bool.and_eq_true, bne_iff_ne, ne_eq, beq_iff_eq, Option.some.injEq, hc, hu, subB, decide_eq_true_eq]
    by_cases h0 : rungOf Ieee.single x = 0
    · simp [h0]
    · rw [if_neg h0]
      cases negOf Ieee.single x <;> simp <;> omega
  · have hi := read_inf Ieee.single s_eb hr
    have hnn : nanB .f32 x = false := by show (Ieee.single.read x).isNaN = false; rw [hi]; rfl
    obtain ⟨h1, h2⟩ := h.2 hnn
    have hiy := read_inf Ieee.single s_eb (h1.trans hr)
    rw [h2] at hiy
    have hwi := widen_inf w hiy
    have ho : Ieee.double.order (fCv .f32 .f64 y w) 4039728865751334912 = some .gt := order_inf_left hwi ⟨_, _, _, rfl⟩
    rw [s_inf] at hr
    have hs : subB x = false := by unfold subB; rw [hr]; decide
    rw [hs, ho]
    simp
  · have hn := read_nan Ieee.single s_eb hr
    have hnn : nanB .f32 x = true := hn
    obtain rfl := h.1 hnn
    have ho : Ieee.double.order (fCv .f32 .f64 y w) 4039728865751334912 = none := order_nan_left (k := .f64) (nanB_of_cv w (by simp) hnn)
    rw [s_inf] at hr
    have hs : subB y = false := by unfold subB; rw [decide_eq_false_iff_not]; omega
    rw [hs, ho]
    simp
end Go.Proofs.Ytihdpljkllpkaaa
