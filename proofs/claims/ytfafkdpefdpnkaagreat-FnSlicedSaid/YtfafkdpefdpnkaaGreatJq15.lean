/- FromSteps, NextUp, NextDown. Numbers that are drawn. -/
import Derived.Test.YtfafkdpefdpnkaaGreatJq14
import Derived.Test.YtfafkdpefdpnkaaGreatJq7
namespace Go.Proofs.YtfafkdpefdpnkaaGreat
section
open Ieee Go.RowKit

set_option maxHeartbeats 400000 in
theorem spec_fromSteps (k : Int) (w : World) : Calls Tryz.prog 45 #[.int .i64 k] w (GivesFrom w k) := by
  by_cases h : -2139095039 ≤ k ∧ k ≤ 2139095039
  · by_cases hneg : k < 0
    · obtain ⟨N, hN⟩ : ∃ N : Nat, k = -(N : Int) := ⟨k.natAbs, by omega⟩
      refine Calls.mono (P := Tryz.prog) (by rw [hN]; exact spec_fromSteps_neg N (by omega) (by omega) w) ?_
      rintro e w' ⟨rfl, rfl⟩
      exact ⟨0, by rw [if_pos h, hN, fromB_neg (by omega)], rfl⟩
    · obtain ⟨N, hN⟩ : ∃ N : Nat, k = (N : Int) := ⟨k.natAbs, by omega⟩
      refine Calls.mono (P := Tryz.prog) (by rw [hN]; exact spec_fromSteps_pos N (by omega) w) ?_
      rintro e w' ⟨rfl, rfl⟩
      exact ⟨0, by rw [if_pos h, hN, fromB_pos], rfl⟩
  · go_enter Tryz.func45, Tryz.ntmps45
    go_wp2_with fail
    refine (l1In_any k _ _ _).mono ?_
    rintro _ _ ⟨rfl, rfl⟩
    rw [decide_eq_false h]
    go_wp2_with fail
    go_ret2
    exact ⟨0, by rw [if_neg h]; rfl, rfl⟩

theorem or_sign {N : Nat} (h : N < 2147483648) : N ||| 2147483648 = 2147483648 + N := by
  have h1 : N < 2 ^ 31 := h
  have h2 := Nat.two_pow_add_eq_or_of_lt h1 1
  rw [Nat.mul_one] at h2
  have h3 : (2 ^ 31 : Nat) = 2147483648 := rfl
  rw [h3] at h2
  rw [h2, Nat.or_comm]

def GivesNext (w : World) (x : Nat) (d : Int) (e : Ending) (w' : World) : Prop :=
  ∃ n, e = .returned (if rungOf Ieee.single x < 2139095040 ∧ -2139095039 ≤ stepsZ x + d ∧ stepsZ x + d ≤ 2139095039 then .tuple #[.float .f32 (fromB (stepsZ x + d)), .bool true] else .tuple #[.float .f32 0, .bool false]) ∧ w' = w.drewN n

theorem GivesNext.fin (w : World) (x : Nat) (d : Int) (h : rungOf Ieee.single x < 2139095040) (e : Ending) (n : Nat)
    (he : e = .returned (if -2139095039 ≤ stepsZ x + d ∧ stepsZ x + d ≤ 2139095039 then .tuple #[.float .f32 (fromB (stepsZ x + d)), .bool true] else .tuple #[.float .f32 0, .bool false])) : GivesNext w x d e (w.drewN n) := by
  refine ⟨n, ?_, rfl⟩
  rw [he]
  by_cases hin : -2139095039 ≤ stepsZ x + d ∧ stepsZ x + d ≤ 2139095039
  · rw [if_pos hin, if_pos ⟨h, hin⟩]
  · rw [if_neg hin, if_neg (fun hh => hin hh.2)]

theorem stepsZ_bound2 {x : Nat} (h : rungOf Ieee.single x < 2139095040) : -2139095040 < stepsZ x ∧ stepsZ x < 2139095040 := by
  unfold stepsZ
  split <;> omega
end
section
open Go.RowKit

theorem Cur.drewN {B : Nat} {w : World} {a : Addr} (h : Cur B w a) (n : Nat) : Cur B (w.drewN n) a := h

theorem f32_word_lt {b : Nat} (h : (Lit.float .f32 b).wf = true) : b < 4294967296 := f32_lt h
theorem fAr_lt (op : BinOp) (x y : Nat) (w : World) : fAr op .f32 x y w < 4294967296 := by
  unfold fAr
  cases h : floatBits op .f32 x y with
  | some r => exact f32_lt (floatBits_wf h)
  | none =>
    simp only [Question.cut]
    generalize w.tape w.drawn (.nanBits .f32 x y) = t
    have h1 : t % 2 < 2 := Nat.mod_lt _ (by decide)
    have h2 : (t / 2) % (2 ^ 23 - 1) < 2 ^ 23 - 1 := Nat.mod_lt _ (by decide)
    generalize t % 2 = a at *
    generalize (t / 2) % (2 ^ 23 - 1) = b at *
    omega
theorem ofInt_lt (n : Int) : floatOfInt .f32 n < 4294967296 := f32_lt (floatOfInt_wf .f32 n)
theorem fromB_lt {k : Int} (h : -2139095039 ≤ k ∧ k ≤ 2139095039) : fromB k < 4294967296 := by unfold fromB; split <;> omega
theorem neg0_lt : Op.negFloat .f32 0 < 4294967296 := by decide +kernel

/-- A number of single precision comes back, the cursor has moved. -/
def DrawnF (B : Nat) (a : Addr) (w : World) (e : Ending) (w' : World) : Prop :=
  ∃ r, e = .returned (.float .f32 r) ∧ r < 4294967296 ∧ Cur B w' a ∧ w.grownBy w' (some a.block)

def DrawnB (B : Nat) (a : Addr) (w : World) (e : Ending) (w' : World) : Prop :=
  ∃ r, e = .returned (.bool r) ∧ Cur B w' a ∧ w.grownBy w' (some a.block)

set_option maxHeartbeats 400000 in
theorem l01Once_any (B : Nat) (a : Addr) (m : Int) (w : World) (h : Cur B w a) (h1 : 1 ≤ m) (h2 : m ≤ 9223372036854775807) :
    Calls Tryz.prog 23 #[.pointer (some a), .int .i64 m] w (DrawnB B a w) := by
  go_enter Tryz.func23, Tryz.ntmps23
  go_wp2_with fail
  refine (l01Below_any B a m w h h1 h2).mono ?_
  rintro _ w1 ⟨r, rfl, r0, r1, hc, hb⟩
  go_wp2_with fail
  go_ret
  exact ⟨_, rfl, hc, hb⟩

set_option maxHeartbeats 1000000 in
theorem l1Odd_any (B : Nat) (a : Addr) (w : World) (h : Cur B w a) : Calls Tryz.prog 44 #[.pointer (some a)] w (DrawnF B a w) := by
  go_enter Tryz.func44, Tryz.ntmps44
  go_wp2_with fail
  refine (l01Below_any B a 12 w h (by omega) (by omega)).mono ?_
  rintro _ w1 ⟨r, rfl, r0, r1, hc, hb⟩
  have hcase : r = 0 ∨ r = 1 ∨ r = 2 ∨ r = 3 ∨ r = 4 ∨ r = 5 ∨ r = 6 ∨ r = 7 ∨ r = 8 ∨ r = 9 ∨ r = 10 ∨ r = 11 := by omega
  clear r0 r1
  rcases hcase with rfl | rfl | rfl | rfl | rfl | rfl | rfl | rfl | rfl | rfl | rfl | rfl
  all_goals
    go_wp2_with fail
    go_ret
    exact ⟨_, rfl, by first | exact fAr_lt _ _ _ _ | exact neg0_lt | decide, by first | exact hc | exact Cur.drewN hc _, by first | exact hb | exact grown_drewN hb _⟩

set_option maxHeartbeats 1000000 in
theorem l1Some_any (B : Nat) (a : Addr) (w : World) (h : Cur B w a) : Calls Tryz.prog 47 #[.pointer (some a)] w (DrawnF B a w) := by
  go_enter Tryz.func47, Tryz.ntmps47
  go_wp2_with fail
  refine (l01Below_any B a 3 w h (by omega) (by omega)).mono ?_
  rintro _ w1 ⟨r, rfl, r0, r1, hc, hb⟩
  have hcase : r = 0 ∨ r = 1 ∨ r = 2 := by omega
  clear r0 r1
  rcases hcase with rfl | rfl | rfl
  · go_wp2_with fail
    refine (l01Below_any B a 65 w1 hc (by omega) (by omega)).mono ?_
    rintro _ w2 ⟨s, rfl, s0, s1, hc2, hb2⟩
    go_wp2_with fail
    go_ret
    exact ⟨_, rfl, fAr_lt _ _ _ _, Cur.drewN hc2 _, grown_drewN (grown_trans hb hb2) _⟩
  · go_wp2_with fail
    refine (l01Below_any B a 2000001 w1 hc (by omega) (by omega)).mono ?_
    rintro _ w2 ⟨s, rfl, s0, s1, hc2, hb2⟩
    go_wp2_with fail
    go_ret
    exact ⟨_, rfl, fAr_lt _ _ _ _, Cur.drewN hc2 _, grown_drewN (grown_trans hb hb2) _⟩
  · go_wp2_with fail
    refine (l01Below_any B a 9 w1 hc (by omega) (by omega)).mono ?_
    rintro _ w2 ⟨s, rfl, s0, s1, hc2, hb2⟩
    go_wp2_with fail
    go_ret
    exact ⟨_, rfl, ofInt_lt _, hc2, grown_trans hb hb2⟩
end
end Go.Proofs.YtfafkdpefdpnkaaGreat
