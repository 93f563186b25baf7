/- FromSteps. FromSteps, NextUp, NextDown. Numbers that are drawn. Any number that is drawn. -/
import Derived.Test.YtpiiflhdllpoiaaJq8
import Derived.Test.YtpiiflhdllpoiaaJq6
namespace Go.Proofs.Ytpiiflhdllpoiaa
section
open Ieee Go.RowKit

/-- The number with so many steps, by its bits. -/
def fromB (k : Int) : Nat := if k < 0 then 2147483648 + k.natAbs else k.natAbs

def GivesFrom (w : World) (k : Int) (e : Ending) (w' : World) : Prop :=
  ∃ n, e = .returned (if -2139095039 ≤ k ∧ k ≤ 2139095039 then .tuple #[.float .f32 (fromB k), .bool true] else .tuple #[.float .f32 0, .bool false]) ∧ w' = w.drewN n

theorem times_one_pow (kept K : Nat) : kept * 2 ^ K = kept * 2 ^ K * 2 ^ 0 := by rw [Nat.pow_zero, Nat.mul_one]

theorem AtY.ofInt {kept : Nat} (hk : kept < 16777216) : AtY (floatOfInt .f64 kept) kept 1074 := by
  have h : floatOfInt .f64 kept = Ieee.double.nearest false kept 0 := by
    unfold floatOfInt FloatKind.nearest FloatKind.encode FloatKind.format Ieee.Format.write
    simp only []
    have e1 : decide ((kept : Int) < 0) = false := by simp
    rw [e1, Int.natAbs_natCast]
  rw [h]
  exact isU_of_nearest false (a := 1074) (b := 0) (rep_d (n := 1074) hk (by omega)) (times_one_pow kept 1074) (by rw [d_lp]; omega)

theorem narrow {z E kept r : Nat} {s : Bool} (h : isU Ieee.double z s (kept * 2 ^ (E + 925))) (hr : units Ieee.single r = kept * 2 ^ E) (hr' : r < Ieee.single.infRung) :
    floatToFloatBits .f64 z .f32 = some (Ieee.single.word s r) := by
  obtain ⟨m, g, h1, h2⟩ := read_isU h
  rw [scaled_pow kept E 925, ← hr] at h2
  have hw : isU Ieee.single (Ieee.single.nearest s m (Ieee.double.leastPlace + (g : Int))) s (units Ieee.single r) :=
    isU_of_nearest s (a := g) (b := 925) ⟨r, hr', rfl⟩ h2 (by rw [d_lp, s_lp]; omega)
  have he := isU_word hw ⟨r, rfl, hr', rfl⟩
  obtain ⟨m', g', h3, _⟩ := read_isU hw
  unfold floatToFloatBits FloatKind.decode FloatKind.encode FloatKind.format
  rw [if_neg (by simp)]
  simp only []
  rw [h1]
  simp only [Ieee.Format.write, h3, Ieee.Datum.isInfinity]
  rw [← he]
  rfl

theorem d_sw : Ieee.double.signWeight = 9223372036854775808 := by decide +kernel

theorem neg_isU {z U : Nat} (h : isU Ieee.double z false U) : isU Ieee.double (Op.negFloat .f64 z) true U := by
  obtain ⟨r, hz, hr, hU⟩ := h
  refine ⟨r, ?_, hr, hU⟩
  rw [d_inf] at hr
  rw [hz]
  clear hz hU
  have e1 : Ieee.double.word false r = r := rfl
  have e2 : Ieee.double.word true r = Ieee.double.signWeight + r := rfl
  have e3 : Op.negFloat .f64 r = r ^^^ 2 ^ 63 := rfl
  rw [e1, e2, e3, d_sw]
  have h1 : r < 2 ^ 63 := by omega
  have h2 := Nat.two_pow_add_eq_or_of_lt h1 1
  have h3 : (r ^^^ 2 ^ 63) = 2 ^ 63 * 1 ||| r := by
    apply Nat.eq_of_testBit_eq
    intro i
    rw [Nat.testBit_xor, Nat.testBit_or, Nat.mul_one, Nat.testBit_two_pow]
    by_cases hi : 63 = i
    · subst hi
      rw [Nat.testBit_lt_two_pow h1]
      simp
    · have : decide (63 = i) = false := by simpa using hi
      rw [this]
      simp
  rw [h3, ← h2]

theorem fromB_neg {N : Nat} (h : 0 < N) : fromB (-(N : Int)) = Ieee.single.word true N := by
  unfold fromB
  rw [if_pos (by omega)]
  show _ = Ieee.single.signWeight + N
  rw [s_sw]
  omega
theorem fromB_pos (N : Nat) : fromB (N : Int) = Ieee.single.word false N := by
  unfold fromB
  rw [if_neg (by omega)]
  show _ = N
  omega
end
section
open Ieee Go.RowKit

theorem or_sign {N : Nat} (h : N < 2147483648) : N ||| 2147483648 = 2147483648 + N := by
  have h1 : N < 2 ^ 31 := h
  have h2 := Nat.two_pow_add_eq_or_of_lt h1 1
  rw [Nat.mul_one] at h2
  have h3 : (2 ^ 31 : Nat) = 2147483648 := rfl
  rw [h3] at h2
  rw [h2, Nat.or_comm]

def GivesNext (w : World) (x : Nat) (d : Int) (e : Ending) (w' : World) : Prop :=
  ∃ n, e = .returned (if rungOf Ieee.single x < 2139095040 ∧ -2139095039 ≤ stepsZ x + d ∧ stepsZ x + d ≤ 2139095039 then .tuple #[.float .f32 (fromB (stepsZ x + d)), .bool true] else .tuple #[.float .f32 0, .bool false]) ∧ w' = w.drewN n

theorem GivesNext.fin (w : World) (x : Nat) (d : Int) (h : rungOf Ieee.single x < 2139095040) (e : Ending) (n : Nat)
    (he : e = .returned (if -2139095039 ≤ stepsZ x + d ∧ stepsZ x + d ≤ 2139095039 then .tuple #[.float .f32 (fromB (stepsZ x + d)), .bool true] else .tuple #[.float .f32 0, .bool false])) : GivesNext w x d e (w.drewN n) := by
  refine ⟨n, ?_, rfl⟩
  rw [he]
  by_cases hin : -2139095039 ≤ stepsZ x + d ∧ stepsZ x + d ≤ 2139095039
  · rw [if_pos hin, if_pos ⟨h, hin⟩]
  · rw [if_neg hin, if_neg (fun hh => hin hh.2)]

theorem stepsZ_bound2 {x : Nat} (h : rungOf Ieee.single x < 2139095040) : -2139095040 < stepsZ x ∧ stepsZ x < 2139095040 := by
  unfold stepsZ
  split <;> omega
end
section
open Go.RowKit

theorem Cur.drewN {B : Nat} {w : World} {a : Addr} (h : Cur B w a) (n : Nat) : Cur B (w.drewN n) a := h

theorem f32_word_lt {b : Nat} (h : (Lit.float .f32 b).wf = true) : b < 4294967296 := f32_lt h
theorem fAr_lt (op : BinOp) (x y : Nat) (w : World) : fAr op .f32 x y w < 4294967296 := by
  unfold fAr
  cases h : floatBits op .f32 x y with
  | some r => exact f32_lt (floatBits_wf h)
  | none =>
    simp only [Question.cut]
    generalize w.tape w.drawn (.nanBits .f32 x y) = t
    have h1 : t % 2 < 2 := Nat.mod_lt _ (by decide)
    have h2 : (t / 2) % (2 ^ 23 - 1) < 2 ^ 23 - 1 := Nat.mod_lt _ (by decide)
    generalize t % 2 = a at *
    generalize (t / 2) % (2 ^ 23 - 1) = b at *
    omega
theorem ofInt_lt (n : Int) : floatOfInt .f32 n < 4294967296 := f32_lt (floatOfInt_wf .f32 n)
theorem fromB_lt {k : Int} (h : -2139095039 ≤ k ∧ k ≤ 2139095039) : fromB k < 4294967296 := by unfold fromB; split <;> omega
theorem neg0_lt : Op.negFloat .f32 0 < 4294967296 := by decide +kernel

/-- A number of single precision comes back, the cursor has moved. -/
def DrawnF (B : Nat) (a : Addr) (w : World) (e : Ending) (w' : World) : Prop :=
  ∃ r, e = .returned (.float .f32 r) ∧ r < 4294967296 ∧ Cur B w' a ∧ w.grownBy w' (some a.block)

def DrawnB (B : Nat) (a : Addr) (w : World) (e : Ending) (w' : World) : Prop :=
  ∃ r, e = .returned (.bool r) ∧ Cur B w' a ∧ w.grownBy w' (some a.block)
end
section
open Go.RowKit

theorem Cur.lt {B : Nat} {w : World} {a : Addr} (h : Cur B w a) : a.block < w.heap.size := by
  obtain ⟨g, A, n, c, i, x, rfl, _, hh, _⟩ := h
  rcases Nat.lt_or_ge g w.heap.size with h1 | h1
  · exact h1
  · rw [Array.getElem?_eq_none h1] at hh; cases hh
theorem Cur.alloc {B : Nat} {w : World} {a : Addr} (h : Cur B w a) (o : Obj) : Cur B (w.alloc o) a := by
  have hlt := h.lt
  obtain ⟨g, A, n, c, i, x, rfl, hg, hh, hi, hn, hby⟩ := h
  refine ⟨g, A, n, c, i, x, rfl, hg, (Below.heap_alloc w o g hlt).trans hh, hi, hn, fun hp => ?_⟩
  obtain ⟨b, off, rfl, hb, hc⟩ := hby hp
  refine ⟨b, off, rfl, hb, fun j hj => ?_⟩
  obtain ⟨u, u0, u1, hu⟩ := hc j hj
  exact ⟨u, u0, u1, (World.cell?_alloc_lt w o ⟨b, off + j, none⟩ (World.block_lt_of_cell? w ⟨b, off + j, none⟩ hu)).trans hu⟩

def MakesCur (w : World) (e : Ending) (w' : World) : Prop := ∃ a, e = .returned (.pointer (some a)) ∧ a.block = w.heap.size ∧ Cur w.heap.size w' a ∧ Below w.heap.size w w'

set_option maxHeartbeats 1000000 in
theorem l01New_any (A : Option Addr) (n c : Nat) (w : World) (hn : n ≤ 1048576) (h : HasBy w.heap.size w A n) :
    Calls Try.prog 21 #[.slice A n c] w (MakesCur w) := by
  have Hby := Lib.hid h
  have Hn := Lib.hid hn
  have i0 : (n : Int) ≤ 1048576 := by omega
  clear h hn
  go_enter Try.func21, Try.ntmps21
  go_wp2
  go_loopw [3, 4] (fun v i wr => ∃ (k : Nat) (x : Int), k ≤ n ∧ i = .int .i64 k ∧ v = .int .i64 x ∧ w = wr) (fun _ i _ => n - (intOf i).toNat)
  case atStart => exact ⟨0, _, Nat.zero_le _, rfl, rfl, rfl⟩
  case round =>
    obtain ⟨k, x, hk, rfl, rfl, rfl⟩ := hrel
    by_cases hlt : k < n
    · by_cases hlt2 : k < 4000
      · obtain ⟨b, off, rfl, hbB, hcell⟩ := Hby.out (by omega)
        obtain ⟨u, u0, u1, hu⟩ := hcell k hlt
        have i1 : decide ((k : Int) < 4000) = true := by rw [decide_eq_true_eq]; omega
        clear hcell hlt2
        go_wp2
        go_roundw
        case rel => exact ⟨k + 1, _, by omega, by go_num, rfl, by first | rfl | trivial⟩
        case measure => simp [intOf]; omega
      · have i1 : decide ((k : Int) < 4000) = false := by rw [decide_eq_false_iff_not]; omega
        clear hlt2
        go_wp2
        go_ret
        refine ⟨⟨w.heap.size, 0, none⟩, rfl, rfl, ⟨w.heap.size, A, n, c, 0, x, rfl, Nat.le_refl _, ?_, Nat.zero_le _, Hn.out, Hby.out.below ((Below.refl _ _).alloc (Nat.le_refl _) _)⟩, (Below.refl _ _).alloc (Nat.le_refl _) _⟩
        show (w.heap.push _)[w.heap.size]? = _
        simp
    · have hk2 : n ≤ k := by omega
      go_wp2
      go_ret
      refine ⟨⟨w.heap.size, 0, none⟩, rfl, rfl, ⟨w.heap.size, A, n, c, 0, x, rfl, Nat.le_refl _, ?_, Nat.zero_le _, Hn.out, Hby.out.below ((Below.refl _ _).alloc (Nat.le_refl _) _)⟩, (Below.refl _ _).alloc (Nat.le_refl _) _⟩
      show (w.heap.push _)[w.heap.size]? = _
      simp

/-- A number of single precision comes back; old memory is as it was. -/
def MakesFloat (w : World) (e : Ending) (w' : World) : Prop := ∃ r, e = .returned (.float .f32 r) ∧ r < 4294967296 ∧ Below w.heap.size w w'
end
end Go.Proofs.Ytpiiflhdllpoiaa
