/- Subnormal numbers of single precision, by their bits. Widening, absolute values; subnormal numbers in double precision. IsSubnormal and FlushSmall. -/
import Derived.Test.YtkjlodoppmipfaaGreatJg1
import Derived.Test.YtkjlodoppmipfaaGreatJg2
namespace Go.Proofs.YtkjlodoppmipfaaGreat
section
open Ieee

/-! READING ANY WORD -/
def rungOf (f : Format) (b : Nat) : Nat := b % f.signWeight
def negOf (f : Format) (b : Nat) : Bool := b / f.signWeight % 2 == 1

theorem read_fin (f : Format) {b : Nat} (h : rungOf f b < f.infRung) : ∃ m e : Nat, f.read b = .number (negOf f b) m (f.leastPlace + (e : Int)) ∧ m * 2 ^ e = units f (rungOf f b) := by
  unfold Format.read units rungOf negOf at *
  simp only []
  by_cases hb : b % f.signWeight < f.binade
  · rw [if_pos hb, if_pos hb]
    exact ⟨_, 0, by simp; rfl, by simp⟩
  · rw [if_neg hb, if_pos h, if_neg hb]
    exact ⟨_, _, rfl, rfl⟩

theorem binade_le_inf (f : Format) (h : 2 ≤ f.exponentBits) : f.binade ≤ f.infRung := by
  unfold Format.infRung
  refine Nat.le_mul_of_pos_left _ ?_
  have : 2 ^ 1 ≤ 2 ^ f.exponentBits := Nat.pow_le_pow_right (by decide) (by omega)
  omega

theorem read_inf (f : Format) {b : Nat} (hf : 2 ≤ f.exponentBits) (h : rungOf f b = f.infRung) : f.read b = .infinity (negOf f b) := by
  have := binade_le_inf f hf
  unfold Format.read rungOf negOf at *
  simp only []
  rw [if_neg (by omega), if_neg (by omega), if_pos h]

theorem read_nan (f : Format) {b : Nat} (hf : 2 ≤ f.exponentBits) (h : f.infRung < rungOf f b) : (f.read b).isNaN = true := by
  have := binade_le_inf f hf
  unfold Format.read rungOf at *
  simp only []
  rw [if_neg (by omega), if_neg (by omega), if_neg (by omega)]
  rfl

theorem compare_mul (a b c : Int) (hc : 0 < c) : compare (a * c) (b * c) = compare a b := by
  simp only [compare, compareOfLessAndEq, Int.mul_lt_mul_right hc]
  by_cases h : a < b
  · simp [h]
  · simp only [h, if_false]
    by_cases h2 : a = b
    · simp [h2]
    · have : ¬ a * c = b * c := fun he => h2 (Int.eq_of_mul_eq_mul_right (by omega) he)
      simp [h2, this]

/-- Finite words stand to each other as their units do. -/
theorem order_fin {f : Format} {x y : Nat} {s t : Bool} {m n e g : Nat} (hx : f.read x = .number s m (f.leastPlace + (e : Int))) (hy : f.read y = .number t n (f.leastPlace + (g : Int))) :
    f.order x y = some (compare (sgn s (m * 2 ^ e)) (sgn t (n * 2 ^ g))) := by
  unfold Format.order
  rw [hx, hy]
  simp only [Datum.order]
  generalize f.leastPlace = L at *
  have hmin : min (L + (e : Int)) (L + (g : Int)) = L + ((min e g : Nat) : Int) := by omega
  have hme : (L + (e : Int) - (L + ((min e g : Nat) : Int))).toNat = e - min e g := by omega
  have hmg : (L + (g : Int) - (L + ((min e g : Nat) : Int))).toNat = g - min e g := by omega
  rw [hmin, hme, hmg]
  generalize hc : min e g = c at *
  have h1 : signed s m (e - c) * (2 : Int) ^ c = sgn s (m * 2 ^ e) := by
    rcases signed_mul s m e c with h | h
    · exact h
    · omega
  have h2 : signed t n (g - c) * (2 : Int) ^ c = sgn t (n * 2 ^ g) := by
    rcases signed_mul t n g c with h | h
    · exact h
    · omega
  have hpc : (0 : Int) < (2 : Int) ^ c := by exact_mod_cast Nat.two_pow_pos c
  rw [← h1, ← h2, compare_mul _ _ _ hpc]

/-- Units by rungs: for finite words. -/
theorem order_rung (f : Format) {x y : Nat} (hx : rungOf f x < f.infRung) (hy : rungOf f y < f.infRung) :
    f.order x y = some (compare (sgn (negOf f x) (units f (rungOf f x))) (sgn (negOf f y) (units f (rungOf f y)))) := by
  obtain ⟨m, e, h1, h2⟩ := read_fin f hx
  obtain ⟨n, g, h3, h4⟩ := read_fin f hy
  rw [order_fin h1 h3, h2, h4]

theorem units_small (f : Format) {r : Nat} (h : r < f.binade) : units f r = r := by unfold units; rw [if_pos h]
theorem units_big (f : Format) {r : Nat} (h : f.binade ≤ r) : f.binade ≤ units f r := by
  unfold units
  rw [if_neg (by omega)]
  have := Nat.two_pow_pos (r / f.binade - 1)
  exact Nat.le_trans (Nat.le_add_right _ _) (Nat.le_mul_of_pos_right _ this)
theorem units_zero (f : Format) {r : Nat} : units f r = 0 ↔ r = 0 := by
  have hB := binade_pos f
  constructor
  · intro h
    rcases Nat.lt_or_ge r f.binade with h1 | h1
    · rw [units_small f h1] at h; exact h
    · have := units_big f h1; omega
  · rintro rfl; exact units_small f hB
end
section
open Ieee Go.RowKit

/-- The bits without the sign are those of a subnormal number. -/
def subB (x : Nat) : Bool := decide (0 < rungOf Ieee.single x ∧ rungOf Ieee.single x < 8388608)

theorem s_inf : Ieee.single.infRung = 2139095040 := by decide +kernel
theorem s_bin : Ieee.single.binade = 8388608 := by decide +kernel
theorem s_sw : Ieee.single.signWeight = 2147483648 := by decide +kernel
theorem s_lp : Ieee.single.leastPlace = -149 := by decide +kernel
theorem s_eb : 2 ≤ Ieee.single.exponentBits := by decide +kernel

theorem order_inf_left {f : Format} {x y : Nat} {s : Bool} (hx : f.read x = .infinity s) (hy : ∃ t n j, f.read y = .number t n j) : f.order x y = some (if s then .lt else .gt) := by
  obtain ⟨t, n, j, hy⟩ := hy
  unfold Format.order
  rw [hx, hy]
  rfl
theorem order_inf_right {f : Format} {x y : Nat} {t : Bool} (hx : ∃ s n j, f.read x = .number s n j) (hy : f.read y = .infinity t) : f.order x y = some (if t then .gt else .lt) := by
  obtain ⟨s, n, j, hx⟩ := hx
  unfold Format.order
  rw [hx, hy]
  rfl

theorem num_zero : ∃ s n j, Ieee.single.read 0 = .number s n j := ⟨_, _, _, rfl⟩

theorem rung_zero : rungOf Ieee.single 0 = 0 := by decide +kernel
theorem neg_zero_ : negOf Ieee.single 0 = false := by decide +kernel
theorem rung_least : rungOf Ieee.single 8388608 = 8388608 := by decide +kernel
theorem neg_least : negOf Ieee.single 8388608 = false := by decide +kernel
theorem rung_mleast : rungOf Ieee.single 2155872256 = 8388608 := by decide +kernel
theorem neg_mleast : negOf Ieee.single 2155872256 = true := by decide +kernel
theorem units_least : units Ieee.single 8388608 = 8388608 := by decide +kernel

theorem cmp_lt {a b : Int} : (compare a b = .lt) ↔ a < b := by
  simp only [compare, compareOfLessAndEq]
  split
  · simp [*]
  · split <;> simp [*]
theorem cmp_eq {a b : Int} : (compare a b = .eq) ↔ a = b := by
  simp only [compare, compareOfLessAndEq]
  split
  · simp; omega
  · split <;> simp [*]
theorem cmp_gt {a b : Int} : (compare a b = .gt) ↔ b < a := by
  simp only [compare, compareOfLessAndEq]
  split
  · simp; omega
  · split
    · simp; omega
    · simp; omega

/-- What impl asks of x is whether it is subnormal. -/
theorem sub_impl (x : Nat) : ((Ieee.single.order x 0 != some .eq) && (Ieee.single.order 2155872256 x == some .lt) && (Ieee.single.order x 8388608 == some .lt)) = subB x := by
  rcases Nat.lt_trichotomy (rungOf Ieee.single x) Ieee.single.infRung with h | h | h
  · have h0 : rungOf Ieee.single 0 < Ieee.single.infRung := by rw [rung_zero, s_inf]; omega
    have h1 : rungOf Ieee.single 8388608 < Ieee.single.infRung := by rw [rung_least, s_inf]; omega
    have h2 : rungOf Ieee.single 2155872256 < Ieee.single.infRung := by rw [rung_mleast, s_inf]; omega
    rw [order_rung _ h h0, order_rung _ h2 h, order_rung _ h h1, rung_zero, rung_least, rung_mleast, neg_zero_, neg_least, neg_mleast, units_least]
    have hz : units Ieee.single 0 = 0 := by decide +kernel
    rw [hz]
    unfold subB
    generalize negOf Ieee.single x = s
    by_cases hb : rungOf Ieee.single x < Ieee.single.binade
    · rw [units_small _ hb]
      rw [s_bin] at hb
      generalize rungOf Ieee.single x = r at *
      rw [Bool.eq_iff_iff]
      simp only [Bool.and_eq_true, bne_iff_ne, ne_eq, beq_iff_eq, Option.some.injEq, cmp_eq, cmp_lt, decide_eq_true_eq]
      cases s <;> simp [sgn] <;> omega
    · have hu := units_big Ieee.single (r := rungOf Ieee.single x) (by omega)
      rw [s_bin] at hb hu
      generalize units Ieee.single (rungOf Ieee.single x) = u at *
      generalize rungOf Ieee.single x = r at *
      rw [Bool.eq_iff_iff]
      simp only [Bool.and_eq_true, bne_iff_ne, ne_eq, beq_iff_eq, Option.some.injEq, cmp_eq, cmp_lt, decide_eq_true_eq]
      cases s <;> simp [sgn] <;> omega
  · have hi := read_inf Ieee.single s_eb h
    rw [s_inf] at h
    have hs : subB x = false := by unfold subB; rw [h]; decide
    rw [hs, order_inf_left hi num_zero, order_inf_right (x := 2155872256) ⟨_, _, _, rfl⟩ hi, order_inf_left (y := 8388608) hi ⟨_, _, _, rfl⟩]
    cases negOf Ieee.single x <;> decide
  · have hn := read_nan Ieee.single s_eb h
    rw [s_inf] at h
    have hs : subB x = false := by unfold subB; rw [decide_eq_false_iff_not]; omega
    have e1 : Ieee.single.order 2155872256 x = none := order_nan_right (k := .f32) hn
    rw [hs, e1]
    simp
end
section
open Ieee Go.RowKit

theorem d_lp : Ieee.double.leastPlace = -1074 := by decide +kernel
theorem d_inf : Ieee.double.infRung = 9218868437227405312 := by decide +kernel
theorem d_bin : Ieee.double.binade = 4503599627370496 := by decide +kernel
theorem d_eb : 2 ≤ Ieee.double.exponentBits := by decide +kernel

theorem not_nan_of_fin {x : Nat} (h : rungOf Ieee.single x < Ieee.single.infRung) : nanB .f32 x = false := by
  obtain ⟨m, e, hr, _⟩ := read_fin Ieee.single h
  show (Ieee.single.read x).isNaN = false
  rw [hr]; rfl

theorem pow_shift (m e k : Nat) : m * 2 ^ (e + k) = m * 2 ^ e * 2 ^ k := by rw [Nat.pow_add, Nat.mul_assoc]
theorem cmp_scaled (u c K : Nat) (hK : 0 < K) : (compare (sgn false (u * K)) (sgn false (c * K)) = .lt) ↔ u < c := by
  rw [cmp_lt]
  unfold sgn
  simp only [Bool.false_eq_true, if_false]
  rw [Int.ofNat_lt, Nat.mul_lt_mul_right hK]

/-- A finite number widened: the same number. -/
theorem widen_fin {x : Nat} (w : World) (h : rungOf Ieee.single x < Ieee.single.infRung) :
    isU Ieee.double (fCv .f32 .f64 x w) (negOf Ieee.single x) (units Ieee.single (rungOf Ieee.single x) * 2 ^ 925) := by
  obtain ⟨m, e, hr, hu⟩ := read_fin Ieee.single h
  obtain ⟨e', he, hp, hm⟩ := read_single_number hr
  rw [s_lp] at hp
  have hee : e' = e := by omega
  subst hee
  have hw := wide_isU (negOf Ieee.single x) he hm
  obtain ⟨m', g', hr', _⟩ := read_isU hw
  have hs : floatToFloatBits .f32 x .f64 = some (Ieee.double.nearest (negOf Ieee.single x) m (-149 + (e' : Int))) := by
    unfold floatToFloatBits FloatKind.decode FloatKind.encode FloatKind.format
    rw [if_neg (by simp)]
    simp only []
    rw [hr, s_lp]
    simp only [Ieee.Format.write, hr', Ieee.Datum.isInfinity]
    rfl
  have hc : fCv .f32 .f64 x w = Ieee.double.nearest (negOf Ieee.single x) m (-149 + (e' : Int)) := by unfold fCv; rw [hs]
  rw [hc]
  rw [pow_shift m e' 925, hu] at hw
  exact hw

theorem widen_inf {x : Nat} {s : Bool} (w : World) (h : Ieee.single.read x = .infinity s) : Ieee.double.read (fCv .f32 .f64 x w) = .infinity s := by
  have hs : floatToFloatBits .f32 x .f64 = some (Ieee.double.write (.infinity s)) := by
    unfold floatToFloatBits FloatKind.decode FloatKind.encode FloatKind.format
    rw [if_neg (by simp)]
    simp only []
    rw [h]
  have hc : fCv .f32 .f64 x w = Ieee.double.write (.infinity s) := by unfold fCv; rw [hs]
  rw [hc]
  cases s <;> decide +kernel

/-- Finite words stand to each other as their units do. -/
theorem order_isU {f : Format} {x y : Nat} {s t : Bool} {A B : Nat} (hx : isU f x s A) (hy : isU f y t B) : f.order x y = some (compare (sgn s A) (sgn t B)) := by
  obtain ⟨m, e, h1, h2⟩ := read_isU hx
  obtain ⟨n, g, h3, h4⟩ := read_isU hy
  rw [order_fin h1 h3, h2, h4]

/-- y is the absolute value of x. -/
def AbsOf (x y : Nat) : Prop := (nanB .f32 x = true → y = x) ∧ (nanB .f32 x = false → rungOf Ieee.single y = rungOf Ieee.single x ∧ negOf Ieee.single y = false)

theorem neg_rung (x : Nat) : rungOf Ieee.single (Op.negFloat .f32 x) = rungOf Ieee.single x ∧ negOf Ieee.single (Op.negFloat .f32 x) = !negOf Ieee.single x := by
  have hN : Op.negFloat .f32 x = x ^^^ 2 ^ 31 := rfl
  have hs : Ieee.single.signWeight = 2 ^ 31 := by decide +kernel
  unfold rungOf negOf
  rw [hN, hs]
  refine ⟨?_, ?_⟩
  · rw [Nat.xor_mod_two_pow]
    simp
  · have a1 : ∀ b, (b / 2 ^ 31 % 2 == 1) = b.testBit 31 := by
      intro b
      rw [Nat.testBit_eq_decide_div_mod_eq]
      rw [Bool.eq_iff_iff]; simp
    rw [a1, a1, Nat.testBit_xor]
    have : (2 ^ 31 : Nat).testBit 31 = true := by decide +kernel
    rw [this]; simp

/-- How a number stands to 0. -/
theorem order_zero_fin {x : Nat} (h : rungOf Ieee.single x < Ieee.single.infRung) :
    Ieee.single.order x 0 = some (if rungOf Ieee.single x = 0 then .eq else if negOf Ieee.single x then .lt else .gt) := by
  have h0 : rungOf Ieee.single 0 < Ieee.single.infRung := by rw [rung_zero, s_inf]; omega
  have hz : units Ieee.single 0 = 0 := by decide +kernel
  rw [order_rung _ h h0, rung_zero, neg_zero_, hz]
  congr 1
  have hu := units_zero Ieee.single (r := rungOf Ieee.single x)
  by_cases hr : rungOf Ieee.single x = 0
  · rw [if_pos hr, hu.2 hr, cmp_eq]
    cases negOf Ieee.single x <;> simp [sgn]
  · rw [if_neg hr]
    have : 0 < units Ieee.single (rungOf Ieee.single x) := by
      rcases Nat.eq_zero_or_pos (units Ieee.single (rungOf Ieee.single x)) with h | h
      · exact absurd (hu.1 h) hr
      · exact h
    cases negOf Ieee.single x
    · simp only [Bool.false_eq_true, if_false, cmp_gt]; simp [sgn]; omega
    · simp only [if_true, cmp_lt]; simp [sgn]; omega

set_option maxHeartbeats 400000 in
theorem l1Abs_any (x : Nat) (w : World) : Calls Tryz.prog 37 #[.float .f32 x] w fun e w' => (∃ y, e = .returned (.float .f32 y) ∧ AbsOf x y) ∧ w = w' := by
  have hneg := neg_rung x
  rcases Nat.lt_trichotomy (rungOf Ieee.single x) Ieee.single.infRung with h | h | h
  · have ho := order_zero_fin h
    have hnn := not_nan_of_fin h
    by_cases h0 : rungOf Ieee.single x = 0
    · rw [if_pos h0] at ho
      have hfin : AbsOf x 0 := ⟨(fun hh => by rw [hnn] at hh; cases hh), fun _ => by rw [h0]; exact ⟨rung_zero, neg_zero_⟩⟩
      have ho' : FloatKind.f32.format.order x 0 = some .eq := ho
      clear ho hneg hnn h0 h
      go_enter Tryz.func37, Tryz.ntmps37
      go_wp2
      go_ret
      exact ⟨⟨_, rfl, hfin⟩, rfl⟩
    · rw [if_neg h0] at ho
      cases hs : negOf Ieee.single x with
      | true =>
        rw [hs] at ho hneg
        have hfin : AbsOf x (Op.negFloat .f32 x) := ⟨(fun hh => by rw [hnn] at hh; cases hh), fun _ => hneg⟩
        have ho' : FloatKind.f32.format.order x 0 = some .lt := ho
        clear ho hneg hnn h0 h hs
        go_enter Tryz.func37, Tryz.ntmps37
        go_wp2
        go_ret
        exact ⟨⟨_, rfl, hfin⟩, rfl⟩
      | false =>
        rw [hs] at ho
        have hfin : AbsOf x x := ⟨fun _ => rfl, fun _ => ⟨rfl, hs⟩⟩
        have ho' : FloatKind.f32.format.order x 0 = some .gt := ho
        clear ho hneg hnn h0 h hs
        go_enter Tryz.func37, Tryz.ntmps37
        go_wp2
        go_ret
        exact ⟨⟨_, rfl, hfin⟩, rfl⟩
  · have hi := read_inf Ieee.single s_eb h
    have ho := order_inf_left hi num_zero
    have hnn : nanB .f32 x = false := by show (Ieee.single.read x).isNaN = false; rw [hi]; rfl
    cases hs : negOf Ieee.single x with
    | true =>
      rw [hs] at ho hneg
      have hfin : AbsOf x (Op.negFloat .f32 x) := ⟨(fun hh => by rw [hnn] at hh; cases hh), fun _ => hneg⟩
      have ho' : FloatKind.f32.format.order x 0 = some .lt := ho
      clear ho hneg hnn h hs hi
      go_enter Tryz.func37, Tryz.ntmps37
      go_wp2
      go_ret
      exact ⟨⟨_, rfl, hfin⟩, rfl⟩
    | false =>
      rw [hs] at ho
      have hfin : AbsOf x x := ⟨fun _ => rfl, fun _ => ⟨rfl, hs⟩⟩
      have ho' : FloatKind.f32.format.order x 0 = some .gt := ho
      clear ho hneg hnn h hs hi
      go_enter Tryz.func37, Tryz.ntmps37
      go_wp2
      go_ret
      exact ⟨⟨_, rfl, hfin⟩, rfl⟩
  · have hn := read_nan Ieee.single s_eb h
    have ho' : FloatKind.f32.format.order x 0 = none := order_nan_left (k := .f32) hn
    have hfin : AbsOf x x := ⟨fun _ => rfl, (fun hh => by have : nanB .f32 x = true := hn; rw [hh] at this; cases this)⟩
    clear hneg hn h
    go_enter Tryz.func37, Tryz.ntmps37
    go_wp2
    go_ret
    exact ⟨⟨_, rfl, hfin⟩, rfl⟩

theorem isU_dleast : isU Ieee.double 4039728865751334912 false (8388608 * 2 ^ 925) := ⟨4039728865751334912, rfl, by rw [d_inf]; omega, by decide +kernel⟩

/-- What spec asks of x is whether it is subnormal. -/
theorem sub_spec (x y : Nat) (w : World) (h : AbsOf x y) : ((Ieee.single.order x 0 != some .eq) && (Ieee.double.order (fCv .f32 .f64 y w) 4039728865751334912 == some .lt)) = subB x := by
  rcases Nat.lt_trichotomy (rungOf Ieee.single x) Ieee.single.infRung with hr | hr | hr
  · obtain ⟨h1, h2⟩ := h.2 (not_nan_of_fin hr)
    have hy : rungOf Ieee.single y < Ieee.single.infRung := by rw [h1]; exact hr
    rw [order_isU (widen_fin w hy) isU_dleast, order_zero_fin hr, h1, h2]
    have hc := cmp_scaled (units Ieee.single (rungOf Ieee.single x)) 8388608 (2 ^ 925) (Nat.two_pow_pos 925)
    have hu : units Ieee.single (rungOf Ieee.single x) < 8388608 ↔ rungOf Ieee.single x < 8388608 := by
      by_cases hb : rungOf Ieee.single x < Ieee.single.binade
      · rw [units_small _ hb]
      · have := units_big Ieee.single (r := rungOf Ieee.single x) (by omega)
        rw [s_bin] at this hb
        constructor <;> intro <;> omega
    rw [Bool.eq_iff_iff]
    simp only [Bool.and_eq_true, bne_iff_ne, ne_eq, beq_iff_eq, Option.some.injEq, hc, hu, subB, decide_eq_true_eq]
    by_cases h0 : rungOf Ieee.single x = 0
    · simp [h0]
    · rw [if_neg h0]
      cases negOf Ieee.single x <;> simp <;> omega
  · have hi := read_inf Ieee.single s_eb hr
    have hnn : nanB .f32 x = false := by show (Ieee.single.read x).isNaN = false; rw [hi]; rfl
    obtain ⟨h1, h2⟩ := h.2 hnn
    have hiy := read_inf Ieee.single s_eb (h1.trans hr)
    rw [h2] at hiy
    have hwi := widen_inf w hiy
    have ho : Ieee.double.order (fCv .f32 .f64 y w) 4039728865751334912 = some .gt := order_inf_left hwi ⟨_, _, _, rfl⟩
    rw [s_inf] at hr
    have hs : subB x = false := by unfold subB; rw [hr]; decide
    rw [hs, ho]
    simp
  · have hn := read_nan Ieee.single s_eb hr
    have hnn : nanB .f32 x = true := hn
    obtain rfl := h.1 hnn
    have ho : Ieee.double.order (fCv .f32 .f64 y w) 4039728865751334912 = none := order_nan_left (k := .f64) (nanB_of_cv w (by simp) hnn)
    rw [s_inf] at hr
    have hs : subB y = false := by unfold subB; rw [decide_eq_false_iff_not]; omega
    rw [hs, ho]
    simp
end
section
open Ieee Go.RowKit

/-- A bool comes back, and nothing is written. -/
def GivesB (w : World) (b : Bool) (e : Ending) (w' : World) : Prop := ∃ n, e = .returned (.bool b) ∧ w' = w.drewN n

set_option maxHeartbeats 400000 in
theorem impl_isSubnormal (x : Nat) (w : World) : Calls Tryz.prog 82 #[.float .f32 x] w (GivesB w (subB x)) := by
  have hs := sub_impl x
  rw [← hs]
  clear hs
  cases h1 : (FloatKind.f32.format.order x 0 != some .eq) <;> cases h2 : (FloatKind.f32.format.order 2155872256 x == some .lt) <;> cases h3 : (FloatKind.f32.format.order x 8388608 == some .lt)
  all_goals
    have h1' : (Ieee.single.order x 0 != some .eq) = _ := h1
    have h2' : (Ieee.single.order 2155872256 x == some .lt) = _ := h2
    have h3' : (Ieee.single.order x 8388608 == some .lt) = _ := h3
    rw [h1', h2', h3']
    clear h1' h2' h3'
    go_enter Tryz.func82, Tryz.ntmps82
    go_wp2
    go_ret
    exact ⟨0, rfl, rfl⟩

set_option maxHeartbeats 400000 in
theorem spec_isSubnormal (x : Nat) (w : World) : Calls Tryz.prog 19 #[.float .f32 x] w (GivesB w (subB x)) := by
  cases h1 : (FloatKind.f32.format.order x 0 != some .eq) with
  | false =>
    have hs := sub_spec x
    have h1' : (Ieee.single.order x 0 != some .eq) = false := h1
    have hf : subB x = false := by
      obtain ⟨y, hy⟩ : ∃ y, AbsOf x y := by
        refine ⟨if nanB .f32 x then x else rungOf Ieee.single x, fun h => by rw [if_pos h], fun h => ?_⟩
        rw [h]
        simp only [Bool.false_eq_true, if_false]
        have hlt : rungOf Ieee.single x < 2147483648 := by unfold rungOf; rw [s_sw]; exact Nat.mod_lt _ (by decide)
        unfold rungOf negOf
        rw [s_sw]
        unfold rungOf at hlt
        rw [s_sw] at hlt
        rw [Nat.mod_mod, Nat.div_eq_of_lt hlt]
        exact ⟨rfl, rfl⟩
      rw [← hs y w hy, h1']
      rfl
    rw [hf]
    clear hs h1' hf
    go_enter Tryz.func19, Tryz.ntmps19
    go_wp2
    go_ret
    exact ⟨0, rfl, rfl⟩
  | true =>
    go_enter Tryz.func19, Tryz.ntmps19
    go_wp2_with fail
    refine (l1Abs_any x _).mono ?_
    rintro _ _ ⟨⟨y, rfl, hy⟩, rfl⟩
    go_wp2_with fail
    go_ret
    have hs := sub_spec x y w hy
    have h1' : (Ieee.single.order x 0 != some .eq) = true := h1
    rw [h1', Bool.true_and] at hs
    have hs' := congrArg (fun b => Ending.returned (.bool b)) hs
    exact ⟨_, hs', rfl⟩

/-- The sign alone. -/
def zeroOf (x : Nat) : Nat := if negOf Ieee.single x then 2147483648 else 0

theorem isU_zero (s : Bool) : isU Ieee.single (if s then 2147483648 else 0) s 0 := by
  refine ⟨0, ?_, by rw [s_inf]; omega, by decide +kernel⟩
  cases s <;> decide +kernel

/-- A subnormal number times 0. -/
theorem sub_times_zero {x : Nat} (w : World) (h : subB x = true) : fAr .mul .f32 x 0 w = zeroOf x := by
  unfold subB at h
  rw [decide_eq_true_eq] at h
  have hr : rungOf Ieee.single x < Ieee.single.infRung := by rw [s_inf]; omega
  obtain ⟨m, e, hx, hu⟩ := read_fin Ieee.single hr
  have h0 : Ieee.single.read 0 = .number false 0 (-149) := by decide +kernel
  have hp : Ieee.single.mul x 0 = some (zeroOf x) := by
    unfold Ieee.Format.mul
    rw [hx, h0]
    simp only [Ieee.Datum.product, Option.map_some, Ieee.Format.write, Nat.mul_zero, Bool.xor_false]
    refine congrArg some ?_
    unfold zeroOf Ieee.Format.nearest
    rw [if_pos rfl]
    cases negOf Ieee.single x <;> rfl
  unfold fAr
  simp only [floatBits, FloatKind.format, hp]

theorem and_two31 (x : Nat) : x &&& 2 ^ 31 = if x.testBit 31 then 2 ^ 31 else 0 := by
  apply Nat.eq_of_testBit_eq
  intro i
  rw [Nat.testBit_and, Nat.testBit_two_pow]
  by_cases h : 31 = i
  · subst h
    have h31 : Nat.testBit (2 ^ 31) 31 = true := by decide +kernel
    cases x.testBit 31
    · simp
    · rw [if_pos rfl, h31]; rfl
  · have : decide (31 = i) = false := by simpa using h
    rw [this, Bool.and_false]
    cases x.testBit 31
    · simp
    · rw [if_pos rfl, Nat.testBit_two_pow, this]

theorem and_sign (x : Nat) : x &&& 2147483648 = zeroOf x := by
  have h := and_two31 x
  unfold zeroOf negOf
  rw [s_sw]
  have a1 : (x / 2147483648 % 2 == 1) = x.testBit 31 := by
    rw [Nat.testBit_eq_decide_div_mod_eq]
    rw [Bool.eq_iff_iff]; simp
  rw [a1]
  exact h

theorem run_float32bits (x : Nat) (w : World) : (callFunc 84 #[.float .f32 x]).run Tryz.prog w = .ok (.value (.int .u32 x)) w :=
  (run_callFunc_extern (P := Tryz.prog) (f := 84) (fn := Tryz.f84) (e := Extern.MathFloatBits.float32bits) Tryz.func84 (by kernel_rfl) (by kernel_rfl) (by kernel_rfl) (by kernel_rfl) #[.float .f32 x] w).trans rfl
theorem run_float32frombits (n : Int) (w : World) : (callFunc 83 #[.int .u32 n]).run Tryz.prog w = .ok (.value (.float .f32 n.toNat)) w :=
  (run_callFunc_extern (P := Tryz.prog) (f := 83) (fn := Tryz.f83) (e := Extern.MathFloatBits.float32frombits) Tryz.func83 (by kernel_rfl) (by kernel_rfl) (by kernel_rfl) (by kernel_rfl) #[.int .u32 n] w).trans rfl

theorem bits_and_u32 (a b : Nat) (ha : a < 4294967296) (hb : b < 4294967296) : bits .and .u32 (a : Int) (b : Int) = ((a &&& b : Nat) : Int) :=
  (bits_nat .u32 32 (by decide) (fun n h0 h1 => by rw [IntKind.wrap_u32]; omega) a b (by omega) (by omega)).1
theorem bits_or_u32 (a b : Nat) (ha : a < 4294967296) (hb : b < 4294967296) : bits .or .u32 (a : Int) (b : Int) = ((a ||| b : Nat) : Int) :=
  (bits_nat .u32 32 (by decide) (fun n h0 h1 => by rw [IntKind.wrap_u32]; omega) a b (by omega) (by omega)).2
theorem bits_sign (x : Nat) (hx : x < 4294967296) : (bits .and .u32 (x : Int) 2147483648).toNat = zeroOf x := by
  have h := bits_and_u32 x 2147483648 hx (by omega)
  rw [and_sign] at h
  have e : ((2147483648 : Nat) : Int) = 2147483648 := rfl
  rw [e] at h
  rw [h]
  rfl

/-- What is flushed. -/
def flushB (x : Nat) : Nat := if subB x then zeroOf x else x

set_option maxHeartbeats 400000 in
theorem spec_flushSmall (x : Nat) (w : World) : Calls Tryz.prog 100 #[.float .f32 x] w (GivesF w .f32 (flushB x)) := by
  go_enter Tryz.func100, Tryz.ntmps100
  go_wp2_with fail
  refine (spec_isSubnormal x _).mono ?_
  rintro _ _ ⟨n, rfl, rfl⟩
  cases hs : subB x with
  | true =>
    have ht := sub_times_zero (w.drewN n) hs
    have hf : flushB x = zeroOf x := by unfold flushB; rw [hs]; rfl
    go_wp2_with fail
    go_ret
    refine ⟨_, _, rfl, rfl, ?_⟩
    rw [hf]
    exact FE.refl _ _
  | false =>
    have hf : flushB x = x := by unfold flushB; rw [hs]; rfl
    go_wp2_with fail
    go_ret
    refine ⟨_, _, rfl, rfl, ?_⟩
    rw [hf]
    exact FE.refl _ _

set_option maxHeartbeats 400000 in
theorem impl_flushSmall (x : Nat) (hx : x < 4294967296) (w : World) : Calls Tryz.prog 60 #[.float .f32 x] w (GivesF w .f32 (flushB x)) := by
  have hb := run_float32bits x
  have hfb := fun n : Int => run_float32frombits n
  go_enter Tryz.func60, Tryz.ntmps60
  go_wp2_with fail
  refine (impl_isSubnormal x _).mono ?_
  rintro _ _ ⟨n, rfl, rfl⟩
  cases hs : subB x with
  | true =>
    have hf : flushB x = zeroOf x := by unfold flushB; rw [hs]; rfl
    go_wp2_with fail
    go_ret
    refine ⟨_, _, rfl, rfl, ?_⟩
    rw [hf, bits_sign x hx]
    exact FE.refl _ _
  | false =>
    have hf : flushB x = x := by unfold flushB; rw [hs]; rfl
    go_wp2_with fail
    go_ret
    refine ⟨_, _, rfl, rfl, ?_⟩
    rw [hf]
    exact FE.refl _ _

theorem f32_lt {x : Nat} (h : (Lit.float .f32 x).wf = true) : x < 4294967296 := by
  simpa [Lit.wf] using h
end
end Go.Proofs.YtkjlodoppmipfaaGreat
