/- FnSteps. -/
import Derived.Test.YthcccliiokckjaaDoorT11
import Derived.Test.YthcccliiokckjaaDoorF3
import Derived.Test.YthcccliiokckjaaDoorI6
import Derived.Test.YthcccliiokckjaaDoorC4
import Derived.Test.YthcccliiokckjaaDoorC2
import Derived.Deep.DeepCutAuto
namespace Go.Proofs.YthcccliiokckjaaDoor
open Go.RowKit Ieee

theorem hby_up {B : Nat} {w : World} {A : Option Addr} {n : Nat} (h : HasBy B w A n) (hB : B ≤ w.heap.size) : HasBy w.heap.size w A n := fun hp => by
  obtain ⟨b, off, rfl, hb, hc⟩ := h hp
  exact ⟨b, off, rfl, by omega, hc⟩

theorem units_next (f : Format) (r : Nat) : units f r < units f (r + 1) := by
  have hb := binade_pos f
  generalize hB : f.binade = B at hb
  unfold units
  rw [hB]
  by_cases h1 : r + 1 < B
  · rw [if_pos h1, if_pos (by omega)]; omega
  · rw [if_neg h1]
    by_cases h2 : r < B
    · have : r + 1 = B := by omega
      rw [if_pos h2, this, Nat.mod_self, Nat.div_self hb]
      simp; omega
    · rw [if_neg h2]
      by_cases h3 : r % B + 1 = B
      · have e0 : r + 1 = B * (r / B + 1) := by
          have h4 := Nat.div_add_mod r B
          rw [Nat.mul_add]; omega
        have e1 : (r + 1) % B = 0 := by rw [e0, Nat.mul_mod_right]
        have e2 : (r + 1) / B = r / B + 1 := by
          have h4 := Nat.div_add_mod r B
          have h5 : r + 1 = B * (r / B + 1) := by rw [Nat.mul_add]; omega
          rw [h5, Nat.mul_div_cancel_left _ hb]
        have hd : 1 ≤ r / B := (Nat.le_div_iff_mul_le hb).2 (by omega)
        rw [e1, e2, Nat.add_zero, Nat.add_sub_cancel]
        obtain ⟨k, hk⟩ : ∃ k, r / B = k + 1 := ⟨r / B - 1, by omega⟩
        rw [hk, Nat.add_sub_cancel, Nat.pow_succ, ← Nat.mul_assoc, Nat.mul_right_comm]
        exact Nat.mul_lt_mul_of_pos_right (by omega) (Nat.two_pow_pos _)
      · have hm : r % B < B := Nat.mod_lt _ hb
        have e2 : (r + 1) / B = r / B := by
          have h4 := Nat.div_add_mod r B
          refine Nat.div_eq_of_lt_le ?_ ?_
          · rw [Nat.mul_comm]; omega
          · rw [Nat.mul_comm, Nat.mul_add]; omega
        have e1 : (r + 1) % B = r % B + 1 := by
          have h4 := Nat.div_add_mod r B
          have h5 := Nat.div_add_mod (r + 1) B
          rw [e2] at h5
          omega
        rw [e1, e2]
        exact Nat.mul_lt_mul_of_pos_right (by omega) (Nat.two_pow_pos _)
theorem units_lt_of (f : Format) {r s : Nat} (h : r < s) : units f r < units f s := by
  induction s with
  | zero => omega
  | succ s ih =>
    by_cases e : r = s
    · subst e; exact units_next f r
    · exact Nat.lt_trans (ih (by omega)) (units_next f s)

/-- Steps put numbers in order. -/
theorem cmp_steps (x y : Nat) : compare (uZ x) (uZ y) = compare (stepsZ x) (stepsZ y) := by
  have hm : ∀ r s : Nat, (units Ieee.single r < units Ieee.single s ↔ r < s) := fun r s => ⟨fun h => by
    by_cases e : r < s
    · exact e
    · exfalso
      by_cases e2 : r = s
      · subst e2; omega
      · have := units_lt_of Ieee.single (show s < r by omega); omega, units_lt_of _⟩
  have hz : units Ieee.single 0 = 0 := by decide +kernel
  unfold uZ stepsZ sgn
  generalize rungOf Ieee.single x = r
  generalize rungOf Ieee.single y = s
  have h1 := hm r s
  have h2 := hm s r
  have h3 := hm 0 r
  have h4 := hm 0 s
  rw [hz] at h3 h4
  generalize units Ieee.single r = a at *
  generalize units Ieee.single s = b at *
  have key : ∀ p q p' q' : Int, (p < q ↔ p' < q') → (q < p ↔ q' < p') → compare p q = compare p' q' := by
    intro p q p' q' e1 e2
    rcases Int.lt_trichotomy p' q' with h | h | h
    · rw [(cmp_lt).2 h, (cmp_lt).2 (e1.2 h)]
    · have hp : p = q := by
        rcases Int.lt_trichotomy p q with g | g | g
        · have := e1.1 g; omega
        · exact g
        · have := e2.1 g; omega
      rw [(cmp_eq).2 h, (cmp_eq).2 hp]
    · rw [(cmp_gt).2 h, (cmp_gt).2 (e2.2 h)]
  cases negOf Ieee.single x <;> cases negOf Ieee.single y <;> simp only [if_true, if_false, Bool.false_eq_true] <;> apply key <;> omega

theorem order_steps {x y : Nat} (hx : x < 4294967296) (hy : y < 4294967296) (h1 : rungOf Ieee.single x < 2139095040) (h2 : rungOf Ieee.single y < 2139095040) : FloatKind.f32.format.order x y = some (compare (stepsZ x) (stepsZ y)) := by
  rw [atu_order (atu_fin hx h1) (atu_fin hy h2), cmp_steps]

theorem fmtL_len {x : Nat} : (fmtL x).length ≤ 100 := by
  have e : ∀ b : Bool, ((if b then [45] else []) : List UInt8).length ≤ 1 := fun b => by cases b <;> simp
  have e1 := e (negOf Ieee.single x)
  by_cases h1 : rungOf Ieee.single x < 2139095040
  · by_cases h0 : rungOf Ieee.single x = 0
    · rw [fmtL_zero h0, List.length_append, List.length_cons, List.length_nil]; omega
    · obtain ⟨o, _⟩ := oddR_lt (show 0 < rungOf Ieee.single x by omega) h1
      obtain ⟨p1, p2⟩ := powR_bound (show 0 < rungOf Ieee.single x by omega) h1
      have l1 := itoa_len (n := (oddR (rungOf Ieee.single x) : Int)) (by omega) (by omega)
      have l2 := itoa_len (n := powR (rungOf Ieee.single x)) (by omega) (by omega)
      rw [fmtL_num (by omega) h1]
      unfold bareL
      rw [List.length_append, List.length_append, List.length_cons]
      omega
  · unfold fmtL; rw [if_neg h1]; simp

end Go.Proofs.YthcccliiokckjaaDoor
