/- The same numbers in double precision; sums of whole numbers. -/
import Derived.Test.YtdmahikaajdkgaaJb3
import Derived.Deep.RegionWith
import Derived.IntWalk
import Derived.Test.YtdmahikaajdkgaaJb42
namespace Go.Proofs.Ytdmahikaajdkgaa
section
open Go.RowKit

end
section
open Go.RowKit

/-- The sum of pairs. -/
def pairsN : Nat → List Nat → Nat
  | 0, _ => 0
  | n + 1, xs => if xs.length = 0 then 0 else if xs.length = 1 then xs.getD 0 0 else fC .add .f32 (pairsN n (xs.take (xs.length / 2))) (pairsN n (xs.drop (xs.length / 2)))

theorem HasF.take {w : World} {A : Option Addr} {n c : Nat} {xs : List Nat} (h : HasF w (.slice A n c) xs) {k : Nat} (hk : k ≤ n) : HasF w (.slice A k c) (xs.take k) := by
  obtain ⟨A', cap, he, hcap, hc⟩ := h
  injection he with e1 e2 e3
  subst e1 e2 e3
  refine ⟨A, c, by rw [List.length_take, Nat.min_eq_left hk], by rw [List.length_take]; omega, fun hp => ?_⟩
  rw [List.length_take] at hp
  obtain ⟨b, off, rfl, hcell⟩ := hc (by omega)
  refine ⟨b, off, rfl, fun j hj => ?_⟩
  rw [List.length_take] at hj
  rw [hcell j (by omega)]
  simp only [List.getD_eq_getElem?_getD]
  rw [List.getElem?_take_of_lt (by omega)]

theorem HasF.drop {w : World} {b off n c : Nat} {xs : List Nat} (h : HasF w (.slice (some ⟨b, off, none⟩) n c) xs) {k : Nat} (hk : k < n) : HasF w (.slice (some ⟨b, off + k, none⟩) (n - k) (c - k)) (xs.drop k) := by
  obtain ⟨A', cap, he, hcap, hc⟩ := h
  injection he with e1 e2 e3
  subst e2 e3
  obtain ⟨b', off', hA, hcell⟩ := hc (by omega)
  rw [hA] at e1
  injection e1 with e1
  injection e1 with e1 e2 _
  subst e1 e2
  refine ⟨some ⟨b, off + k, none⟩, c - k, by rw [List.length_drop], by rw [List.length_drop]; omega, fun hp => ⟨b, off + k, rfl, fun j hj => ?_⟩⟩
  rw [List.length_drop] at hj
  have := hcell (k + j) (by omega)
  rw [← Nat.add_assoc] at this
  rw [this]
  simp only [List.getD_eq_getElem?_getD]
  rw [List.getElem?_drop]
end
section
open Ieee Go.RowKit

theorem isU_parts {x U : Nat} {s : Bool} (h : isU Ieee.single x s U) : rungOf Ieee.single x < Ieee.single.infRung ∧ negOf Ieee.single x = s ∧ units Ieee.single (rungOf Ieee.single x) = U := by
  obtain ⟨r, rfl, hr, hu⟩ := h
  have hr' : r < 2139095040 := by rw [s_inf] at hr; exact hr
  have e1 : rungOf Ieee.single (Ieee.single.word s r) = r := by
    unfold rungOf Ieee.Format.word
    rw [s_sw]
    cases s <;> simp <;> omega
  have e2 : negOf Ieee.single (Ieee.single.word s r) = s := by
    unfold negOf Ieee.Format.word
    rw [s_sw]
    cases s
    · have : r / 2147483648 = 0 := by omega
      simp [this]
    · have : (2147483648 + r) / 2147483648 = 1 := by omega
      simp [this]
  rw [e1, e2]
  exact ⟨hr, rfl, hu⟩

/-- The double x is N units of 2^k least steps. -/
def DAt (k : Nat) (x : Nat) (N : Int) : Prop := ∃ s, isU Ieee.double x s (N.natAbs * 2 ^ k) ∧ sgn s (N.natAbs * 2 ^ k) = N * ((2 ^ k : Nat) : Int)

theorem snoc_induct {α : Type} {P : List α → Prop} (h0 : P []) (h1 : ∀ l a, P l → P (l ++ [a])) : ∀ l, P l := by
  intro l
  rw [← List.reverse_reverse l]
  induction l.reverse with
  | nil => exact h0
  | cons a t ih => rw [List.reverse_cons]; exact h1 _ _ ih

theorem isU_shift {f : Format} {x : Nat} {s : Bool} {N j m : Nat} (h : isU f x s (N * 2 ^ j * 2 ^ m)) : isU f x s (N * 2 ^ (j + m)) := by
  rw [Nat.pow_add, ← Nat.mul_assoc]; exact h
theorem sgn_shift {s : Bool} {N : Int} {j : Nat} (m : Nat) (h : sgn s (N.natAbs * 2 ^ j) = N * ((2 ^ j : Nat) : Int)) : sgn s (N.natAbs * 2 ^ (j + m)) = N * ((2 ^ (j + m) : Nat) : Int) := by
  rw [Nat.pow_add]
  generalize 2 ^ j = J at *
  generalize 2 ^ m = L
  have e : N.natAbs * (J * L) = N.natAbs * J * L := by rw [Nat.mul_assoc]
  rw [e]
  have : sgn s (N.natAbs * J * L) = sgn s (N.natAbs * J) * (L : Int) := by
    unfold sgn
    cases s <;> simp [Int.natCast_mul, Int.neg_mul]
  rw [this, h, Int.natCast_mul, Int.mul_assoc]

theorem dat_widen {j x : Nat} {N : Int} {s : Bool} (h1 : isU Ieee.single x s (N.natAbs * 2 ^ j)) (h2 : sgn s (N.natAbs * 2 ^ j) = N * ((2 ^ j : Nat) : Int)) (w : World) : DAt (j + 925) (fCv .f32 .f64 x w) N := by
  obtain ⟨a1, a2, a3⟩ := isU_parts h1
  have h := widen_fin w a1
  rw [a2, a3] at h
  exact ⟨s, isU_shift h, sgn_shift 925 h2⟩

theorem rep_dd {k : Nat} {N : Int} (h : N.natAbs < 2 ^ 53) (hk : k ≤ 1500) : Rep Ieee.double (N.natAbs * 2 ^ k) := by
  refine rep_of _ (by rw [d_bin]; omega) ?_
  have h : Ieee.double.exponentBits = 11 := rfl
  rw [h]
  omega

theorem dat_zero (k : Nat) : DAt k 0 0 := ⟨false, ⟨0, rfl, by rw [d_inf]; omega, by rw [Int.natAbs_zero, Nat.zero_mul]; decide +kernel⟩, by rw [Int.natAbs_zero, Nat.zero_mul, Int.zero_mul]; rfl⟩

theorem dat_add {k x y : Nat} {N M : Int} (hx : DAt k x N) (hy : DAt k y M) (hr : (N + M).natAbs < 2 ^ 53) (hk : k ≤ 1500) : ∃ z, floatBits .add .f64 x y = some z ∧ DAt k z (N + M) := by
  obtain ⟨s, h1, h2⟩ := hx
  obtain ⟨t, h3, h4⟩ := hy
  have hr' := rep_dd hr hk
  unfold DAt
  generalize 2 ^ k = K at *
  obtain ⟨z, neg, g1, g2, g3, _⟩ := add_isU h1 h3 hr' (by rw [h2, h4]; exact abs_scaled_add N M K)
  rw [h2, h4, ← Int.add_mul] at g3
  exact ⟨z, g1, neg, g2, g3⟩

theorem dat_order {k x y : Nat} {N M : Int} (hx : DAt k x N) (hy : DAt k y M) : FloatKind.f64.format.order x y = some (compare N M) := by
  obtain ⟨s, h1, h2⟩ := hx
  obtain ⟨t, h3, h4⟩ := hy
  have hp := Nat.two_pow_pos k
  generalize 2 ^ k = K at *
  have h : FloatKind.f64.format.order x y = _ := order_isU h1 h3
  rw [h, h2, h4, compare_mul N M K (by omega)]

theorem dat_at {x : Nat} {N : Int} (h : At x N) (w : World) : DAt 1049 (fCv .f32 .f64 x w) N := by
  obtain ⟨s, h1, h2⟩ := h
  exact dat_widen (j := 124) h1 h2 w
theorem dat_whole {x : Nat} {N : Int} (h : Whole x N) (w : World) : DAt 1074 (fCv .f32 .f64 x w) N := by
  obtain ⟨_, s, h1, h2⟩ := h
  exact dat_widen (j := 149) h1 h2 w

theorem widC_cv {x : Nat} {N : Int} (h : Whole x N) (w : World) : DAt 1074 (widC x) N := by
  have hn := nan_whole h
  obtain ⟨r, hr⟩ := widen_some hn
  have e : widC x = r := by unfold widC; rw [hr]
  have e2 : fCv .f32 .f64 x w = r := by simp [fCv, hr]
  rw [e, ← e2]
  exact dat_whole h w

/-- The list of these whole numbers, as floats. -/
def fis (qs : List Int) : List Nat := qs.map fi
def sumI (qs : List Int) : Int := qs.foldl (· + ·) 0
theorem sumI_snoc (qs : List Int) (q : Int) : sumI (qs ++ [q]) = sumI qs + q := by simp [sumI]
def Small (qs : List Int) : Prop := qs.length ≤ 20 ∧ ∀ q ∈ qs, q.natAbs ≤ 1000

theorem sumI_bound : ∀ (qs : List Int), (∀ q ∈ qs, q.natAbs ≤ 1000) → (sumI qs).natAbs ≤ 1000 * qs.length := by
  refine snoc_induct (by simp [sumI]) fun l a ih h => ?_
  rw [sumI_snoc, List.length_append]
  have h1 := ih fun q hq => h q (by simp [hq])
  have h2 := h a (by simp)
  simp only [List.length_cons, List.length_nil]
  omega

theorem sumF_whole : ∀ (qs : List Int), Small qs → Whole (sumF (fis qs)) (sumI qs) := by
  refine snoc_induct (fun _ => whole_fi (a := 0) (by decide)) fun l a ih h => ?_
  obtain ⟨hl, hq⟩ := h
  rw [List.length_append] at hl
  have hl' : l.length ≤ 19 := by simpa using hl
  have h1 := ih ⟨by omega, fun q hq' => hq q (by simp [hq'])⟩
  have hb := sumI_bound l fun q hq' => hq q (by simp [hq'])
  have ha := hq a (by simp)
  have e : sumF (fis (l ++ [a])) = fC .add .f32 (sumF (fis l)) (fi a) := by simp [sumF, fis]
  obtain ⟨z, hz, wz⟩ := whole_add h1 (whole_fi (a := a) (by omega)) (by omega)
  rw [e, fC_of hz, sumI_snoc]
  exact wz

theorem steady_whole : ∀ (qs : List Int), Small qs → Whole (steady (fis qs)).1 (sumI qs) ∧ Whole (steady (fis qs)).2 0 := by
  refine snoc_induct (fun _ => ⟨whole_fi (a := 0) (by decide), whole_fi (a := 0) (by decide)⟩) fun l a ih h => ?_
  obtain ⟨hl, hq⟩ := h
  rw [List.length_append] at hl
  have hl' : l.length ≤ 19 := by simpa using hl
  obtain ⟨h1, h2⟩ := ih ⟨by omega, fun q hq' => hq q (by simp [hq'])⟩
  have hb := sumI_bound l fun q hq' => hq q (by simp [hq'])
  have ha := hq a (by simp)
  obtain ⟨y, hy, wy⟩ := whole_sub (whole_fi (a := a) (by omega)) h2 (by omega)
  obtain ⟨t, ht, wt⟩ := whole_add h1 wy (by omega)
  obtain ⟨u, hu, wu⟩ := whole_sub wt h1 (by omega)
  obtain ⟨v, hv, wv⟩ := whole_sub wu wy (by omega)
  have e : steady (fis (l ++ [a])) = (t, v) := by
    simp only [steady, fis, List.map_append, List.map_cons, List.map_nil, List.foldl_append, List.foldl_cons, List.foldl_nil]
    simp only [steady, fis] at hy ht hu hv
    rw [fC_of hy, fC_of ht, fC_of hu, fC_of hv]
  rw [e, sumI_snoc]
  refine ⟨by simpa using wt, ?_⟩
  have : sumI l + (a - 0) - sumI l - (a - 0) = 0 := by omega
  rw [this] at wv
  exact wv

theorem sumI_append (a b : List Int) : sumI (a ++ b) = sumI a + sumI b := by
  revert b
  refine snoc_induct (by simp [sumI]) fun l x ih => ?_
  rw [← List.append_assoc, sumI_snoc, ih, sumI_snoc]; omega

theorem pairs_whole (n : Nat) : ∀ (qs : List Int), Small qs → qs.length ≤ n → Whole (pairsN n (fis qs)) (sumI qs) := by
  induction n with
  | zero =>
    intro qs _ hn
    have : qs = [] := by cases qs with | nil => rfl | cons a l => simp at hn
    subst this
    exact whole_fi (a := 0) (by decide)
  | succ n ih =>
    intro qs hs hn
    unfold pairsN
    have hl : (fis qs).length = qs.length := by simp [fis]
    rw [hl]
    by_cases h0 : qs.length = 0
    · have : qs = [] := by cases qs with | nil => rfl | cons a l => simp at h0
      rw [if_pos h0]
      subst this
      exact whole_fi (a := 0) (by decide)
    · rw [if_neg h0]
      by_cases h1 : qs.length = 1
      · rw [if_pos h1]
        match qs, h1 with
        | [q], _ =>
          have := hs.2 q (by simp)
          have e : sumI [q] = q := by simp [sumI]
          rw [e]
          exact whole_fi (a := q) (by omega)
      · rw [if_neg h1]
        have e1 : (fis qs).take (qs.length / 2) = fis (qs.take (qs.length / 2)) := by simp [fis]
        have e2 : (fis qs).drop (qs.length / 2) = fis (qs.drop (qs.length / 2)) := by simp [fis]
        rw [e1, e2]
        have s1 : Small (qs.take (qs.length / 2)) := ⟨by rw [List.length_take]; have := hs.1; omega, fun q hq => hs.2 q (List.mem_of_mem_take hq)⟩
        have s2 : Small (qs.drop (qs.length / 2)) := ⟨by rw [List.length_drop]; have := hs.1; omega, fun q hq => hs.2 q (List.mem_of_mem_drop hq)⟩
        have w1 := ih _ s1 (by rw [List.length_take]; omega)
        have w2 := ih _ s2 (by rw [List.length_drop]; omega)
        have e3 : sumI qs = sumI (qs.take (qs.length / 2)) + sumI (qs.drop (qs.length / 2)) := by rw [← sumI_append, List.take_append_drop]
        have hb := sumI_bound qs hs.2
        have := hs.1
        obtain ⟨z, hz, wz⟩ := whole_add w1 w2 (by rw [← e3]; omega)
        rw [fC_of hz, e3]
        exact wz

theorem sumD_whole (w : World) : ∀ (qs : List Int), Small qs → DAt 1074 (sumD (fis qs)) (sumI qs) := by
  refine snoc_induct (fun _ => dat_zero 1074) fun l a ih h => ?_
  obtain ⟨hl, hq⟩ := h
  rw [List.length_append] at hl
  have hl' : l.length ≤ 19 := by simpa using hl
  have h1 := ih ⟨by omega, fun q hq' => hq q (by simp [hq'])⟩
  have hb := sumI_bound l fun q hq' => hq q (by simp [hq'])
  have ha := hq a (by simp)
  have e : sumD (fis (l ++ [a])) = fC .add .f64 (sumD (fis l)) (widC (fi a)) := by simp [sumD, fis]
  obtain ⟨z, hz, wz⟩ := dat_add h1 (widC_cv (whole_fi (a := a) (by omega)) w) (by omega) (by omega)
  rw [e, fC_of hz, sumI_snoc]
  exact wz
end
end Go.Proofs.Ytdmahikaajdkgaa
