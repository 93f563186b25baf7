/- Numbers as decimal text. The odd part of a number, and its text. -/
import Derived.Test.YtfafkdpefdpnkaaJq3
import Derived.Laws.IdiomStrings
import Derived.Lib.ItoaNum
import Derived.Lib.Hide
import Derived.Outline
import Derived.Test.YtfafkdpefdpnkaaJq8
import Derived.Lib.TrailingZeros
namespace Go.Proofs.Ytfafkdpefdpnkaa
section
open Go.RowKit

/-- A text comes back; nothing old is turned. -/
def GivesTxt (l : List UInt8) (w : World) (e : Ending) (w' : World) : Prop := e = .returned (.string ⟨l.toArray⟩) ∧ Span 0 0 w w'

/-- The last digit. -/
def dgt (n : Nat) : UInt8 := UInt8.ofNat (48 + n % 10)

/-- One byte as a text. -/
theorem run_byte_str (w : World) (m : Nat) (hm : m < 256) :
    (convert 22 9 (.slice (some ⟨w.heap.size, 0, none⟩) 1 1)).run Try.prog (w.alloc (.cells #[.int .u8 (m : Int)] 5)) = .ok (.string ⟨#[UInt8.ofNat m]⟩) (w.alloc (.cells #[.int .u8 (m : Int)] 5)) := by
  have := run_convert_bytes_back (P := Try.prog) (w.alloc (.cells #[.int .u8 (m : Int)] 5)) 22 9 5 ⟨w.heap.size, 0, none⟩ 1 [UInt8.ofNat m] Try.underlying22 Try.underlying5 Try.underlying9
    (fun j hj => by
      have hj0 : j = 0 := by simp at hj; exact hj
      subst hj0
      show (w.alloc _).cell? ⟨w.heap.size, 0, none⟩ = _
      rw [World.cell?_alloc_new]
      simp [UInt8.toNat_ofNat', Nat.mod_eq_of_lt hm])
  exact this

/-- The digits of q, none for 0. -/
def digs (q : Nat) : List UInt8 := if q = 0 then [] else Lib.decDigits q
theorem digs_step {q : Nat} (h : 0 < q) : digs q = digs (q / 10) ++ [dgt q] := by
  unfold digs
  rw [if_neg (by omega)]
  by_cases h1 : q < 10
  · rw [if_pos (by omega), Lib.decDigits_one h1]; unfold dgt; rw [Nat.mod_eq_of_lt h1]; rfl
  · rw [if_neg (by omega), Lib.decDigits, dif_neg h1]; rfl
theorem dec_step (n : Nat) : Lib.decDigits n = digs (n / 10) ++ [dgt n] := by
  by_cases h : n = 0
  · subst h; rw [Lib.decDigits_one (by omega)]; rfl
  · have := digs_step (q := n) (by omega)
    unfold digs at this ⊢
    rwa [if_neg h] at this

theorem ba_app (a b : List UInt8) : (⟨a.toArray⟩ : ByteArray) ++ ⟨b.toArray⟩ = ⟨(a ++ b).toArray⟩ := by
  apply ByteArray.ext
  simp [ByteArray.data_append]

theorem ten_step {q n : Nat} {l : List UInt8} {c : UInt8} (h : q * 10 ^ l.length ≤ n) : q / 10 * 10 ^ ([c] ++ l).length ≤ n := by
  have e : ([c] ++ l).length = l.length + 1 := by simp
  rw [e, Nat.pow_succ, Nat.mul_comm (10 ^ l.length), ← Nat.mul_assoc]
  exact Nat.le_trans (Nat.mul_le_mul_right _ (Nat.div_mul_le_self q 10)) h

set_option maxRecDepth 100000 in
set_option maxHeartbeats 1000000 in
theorem l1Number_pos (n : Nat) (hn : n ≤ 4611686018427387904) (w : World) : Calls Try.prog 56 #[.int .i64 (n : Int)] w (GivesTxt (Lib.decDigits n) w) := by
  have i0 : (0 : Int) ≤ (n : Int) := by omega
  have i1 : (n : Int) ≤ 4611686018427387904 := by omega
  have b0 : decide ((n : Int) < 0) = false := by rw [decide_eq_false_iff_not]; omega
  have hcv : ∀ w : World, (convert 22 9 (.slice (some ⟨w.heap.size, 0, none⟩) 1 1)).run Try.prog (w.alloc (.cells #[.int .u8 (48 + (n : Int) % 10)] 5)) = .ok (.string ⟨#[dgt n]⟩) (w.alloc (.cells #[.int .u8 (48 + (n : Int) % 10)] 5)) := fun w => by
    have := run_byte_str w (48 + n % 10) (by omega)
    rw [show ((48 + n % 10 : Nat) : Int) = 48 + (n : Int) % 10 by omega] at this
    exact this
  have HN := Lib.hid (dec_step n)
  clear hn
  go_enter Try.func56, Try.ntmps56
  go_wp2_with fail
  clear hcv
  go_loopw [0, 3] (fun a s wr => ∃ (q : Nat) (l : List UInt8), a = .int .i64 q ∧ q ≤ n ∧ s = .string ⟨l.toArray⟩ ∧ Lib.decDigits n = digs q ++ l ∧ q * 10 ^ l.length ≤ n ∧ Span 0 0 w wr) (fun a _ _ => (intOf a).toNat)
  case atStart => exact ⟨n / 10, [dgt n], by go_num, by omega, rfl, HN.out, by have := Nat.div_mul_le_self n 10; simpa using this, (Span.refl _ _ _).alloc _⟩
  case round =>
    clear HN
    obtain ⟨q, l, rfl, hq, rfl, hl, hten, hs⟩ := hrel
    have HT := Lib.hid hten
    clear hten
    have HL := Lib.hid hl
    have HS := Lib.hid hs
    clear hl hs
    by_cases h0 : 0 < q
    · have i2 : (0 : Int) < (q : Int) := by omega
      have i3 : (q : Int) ≤ 4611686018427387904 := by omega
      have hcv : ∀ w : World, (convert 22 9 (.slice (some ⟨w.heap.size, 0, none⟩) 1 1)).run Try.prog (w.alloc (.cells #[.int .u8 (48 + (q : Int) % 10)] 5)) = .ok (.string ⟨#[dgt q]⟩) (w.alloc (.cells #[.int .u8 (48 + (q : Int) % 10)] 5)) := fun w => by
        have := run_byte_str w (48 + q % 10) (by omega)
        rw [show ((48 + q % 10 : Nat) : Int) = 48 + (q : Int) % 10 by omega] at this
        exact this
      have HQ := Lib.hid (digs_step h0)
      have hln : l.length ≤ 19 := by
        have h1 : 1 * 10 ^ l.length ≤ q * 10 ^ l.length := Nat.mul_le_mul_right _ h0
        have h2 : 10 ^ l.length < 10 ^ 19 := by have := HT.out; omega
        have := (Nat.pow_lt_pow_iff_right (by omega : 1 < 10)).1 h2
        omega
      go_wp2_with fail
      clear hcv
      go_roundw
      case rel => exact ⟨q / 10, [dgt q] ++ l, by go_num, by omega, congrArg Value.string (ba_app [dgt q] l), by rw [HL.out, HQ.out, List.append_assoc], ten_step HT.out, HS.out.alloc _⟩
      case measure => simp [intOf]; omega
    · have h00 : q = 0 := by omega
      subst h00
      go_wp2_with fail
      go_ret
      have e := HL.out
      simp only [digs, if_true, List.nil_append] at e
      rw [e]
      exact ⟨rfl, HS.out⟩

theorem decDigits_len {n : Nat} (h : n ≤ 4611686018427387904) : (Lib.decDigits n).length ≤ 20 := by
  rw [Lib.decDigits_length]
  have key : ∀ (k n : Nat), n < 10 ^ (k + 1) → Lib.nDigits n ≤ k + 1 := by
    intro k
    induction k with
    | zero => intro n hn; rw [Lib.nDigits, dif_pos (by omega)]; omega
    | succ k ih =>
      intro n hn
      rw [Lib.nDigits]
      split
      · omega
      · have := ih (n / 10) (by rw [Nat.pow_succ] at hn; omega)
        omega
  exact Nat.le_trans (key 18 n (by omega)) (by omega)

set_option maxRecDepth 100000 in
theorem l1Number_any (n : Int) (h1 : -4611686018427387904 ≤ n) (h2 : n ≤ 4611686018427387904) (w : World) : Calls Try.prog 56 #[.int .i64 n] w (GivesTxt (Lib.itoa n) w) := by
  by_cases h : n < 0
  · obtain ⟨m, hm⟩ : ∃ m : Nat, -n = (m : Int) := ⟨n.natAbs, by omega⟩
    have e : Lib.itoa n = 45 :: Lib.decDigits m := by unfold Lib.itoa; rw [if_pos h, show n.natAbs = m by omega]
    have hl := decDigits_len (n := m) (by omega)
    obtain ⟨d, hd⟩ : ∃ d, d = Lib.decDigits m := ⟨_, rfl⟩
    have HD := Lib.hid hd
    have HM := Lib.hid hm
    rw [← hd] at hl e
    rw [e]
    clear hd hm e
    have b0 : decide (n < 0) = true := by rw [decide_eq_true_iff]; exact h
    go_enter Try.func56, Try.ntmps56
    go_wp2_with fail
    have c := l1Number_pos m (by have := HM.out; omega) w
    rw [← HM.out, ← HD.out] at c
    refine c.mono ?_
    rintro _ w1 ⟨rfl, hs⟩
    go_wp2_with fail
    go_ret
    exact ⟨congrArg (fun b => Ending.returned (Value.string b)) (ba_app [45] d), hs⟩
  · obtain ⟨m, rfl⟩ := Int.eq_ofNat_of_zero_le (show 0 ≤ n by omega)
    rw [show Lib.itoa (m : Int) = Lib.decDigits m by unfold Lib.itoa; rw [if_neg (by omega)]; simp]
    exact l1Number_pos m (by omega) w
end
section
open Go.RowKit

def twos (u : Nat) : Nat := Lib.ctz 400 u
def oddOf (u : Nat) : Nat := u / 2 ^ twos u

theorem odd_uniq {a b m n : Nat} (h : 2 ^ a * (2 * m + 1) = 2 ^ b * (2 * n + 1)) : a = b ∧ m = n := by
  have key : ∀ (a b m n : Nat), a < b → 2 ^ a * (2 * m + 1) = 2 ^ b * (2 * n + 1) → False := by
    intro a b m n hab h
    obtain ⟨c, rfl⟩ : ∃ c, b = a + 1 + c := ⟨b - a - 1, by omega⟩
    have e : 2 ^ (a + 1 + c) * (2 * n + 1) = 2 ^ a * (2 * (2 ^ c * (2 * n + 1))) := by
      rw [Nat.pow_add, Nat.pow_succ]
      simp only [Nat.mul_assoc, Nat.mul_comm, Nat.mul_left_comm]
    rw [e] at h
    have := Nat.eq_of_mul_eq_mul_left (Nat.two_pow_pos a) h
    omega
  rcases Nat.lt_trichotomy a b with hab | rfl | hab
  · exact (key _ _ _ _ hab h).elim
  · have := Nat.eq_of_mul_eq_mul_left (Nat.two_pow_pos a) h
    exact ⟨rfl, by omega⟩
  · exact (key _ _ _ _ hab h.symm).elim

theorem odd_split {u : Nat} (h0 : 0 < u) (h : u < 2 ^ 400) : ∃ m, u = 2 ^ twos u * (2 * m + 1) ∧ oddOf u = 2 * m + 1 := by
  have e : twos u = Lib.ctzFrom 400 u := by unfold twos Lib.ctz; rw [if_neg (by omega)]
  obtain ⟨m, hm, _⟩ := Lib.ctzFrom_spec 400 u h0 h
  rw [← e] at hm
  refine ⟨m, hm, ?_⟩
  unfold oddOf
  conv => lhs; lhs; rw [hm]
  rw [Nat.mul_comm]
  exact Nat.mul_div_cancel _ (Nat.two_pow_pos _)

theorem odd_of {u a m : Nat} (hu : u < 2 ^ 400) (h : u = 2 ^ a * (2 * m + 1)) : twos u = a ∧ oddOf u = 2 * m + 1 := by
  have h0 : 0 < u := by rw [h]; exact Nat.mul_pos (Nat.two_pow_pos _) (by omega)
  obtain ⟨n, h1, h2⟩ := odd_split h0 hu
  rw [h1] at h
  obtain ⟨h3, rfl⟩ := odd_uniq h
  exact ⟨h3, h2⟩

/-- The units of a single number are few. -/
theorem units_lt {r : Nat} (h : r < 2139095040) : units Ieee.single r < 2 ^ 400 := by
  obtain ⟨kept, E, hu, _, hk, _, hE⟩ := split_rung h
  rw [hu]
  calc kept * 2 ^ E < 2 ^ 24 * 2 ^ E := Nat.mul_lt_mul_of_pos_right (by omega) (Nat.two_pow_pos _)
    _ = 2 ^ (24 + E) := by rw [Nat.pow_add]
    _ ≤ 2 ^ 400 := Nat.pow_le_pow_right (by omega) (by omega)

/-- A single number's odd part and its power of two. -/
def oddR (r : Nat) : Nat := oddOf (units Ieee.single r)
def powR (r : Nat) : Int := (twos (units Ieee.single r) : Int) - 149

theorem oddR_lt {r : Nat} (h0 : 0 < r) (h : r < 2139095040) : oddR r < 16777216 ∧ oddR r % 2 = 1 ∧ twos (units Ieee.single r) ≤ 277 ∧ units Ieee.single r = oddR r * 2 ^ twos (units Ieee.single r) := by
  obtain ⟨kept, E, hu, hr, hk, hk1, hE⟩ := split_rung h
  have hkp : 0 < kept := by
    by_cases h1 : 0 < E
    · have := hk1 h1; omega
    · have : E = 0 := by omega
      subst this; omega
  obtain ⟨m, hm1, hm2⟩ := odd_split (u := kept) hkp (by omega)
  have e : units Ieee.single r = 2 ^ (twos kept + E) * (2 * m + 1) := by
    rw [hu]
    conv => lhs; lhs; rw [hm1]
    rw [Nat.pow_add]
    simp only [Nat.mul_assoc, Nat.mul_comm, Nat.mul_left_comm]
  obtain ⟨h1, h2⟩ := odd_of (units_lt h) e
  have hle : 2 * m + 1 ≤ kept := by
    conv => rhs; rw [hm1]
    exact Nat.le_mul_of_pos_left _ (Nat.two_pow_pos _)
  have htw : twos kept < 24 := by
    have h3 : 2 ^ twos kept ≤ kept := by
      conv => rhs; rw [hm1]
      exact Nat.le_mul_of_pos_right _ (by omega)
    have : 2 ^ twos kept < 2 ^ 24 := by omega
    exact (Nat.pow_lt_pow_iff_right (by omega : 1 < 2)).1 this
  refine ⟨by unfold oddR; omega, by unfold oddR; omega, by omega, ?_⟩
  unfold oddR
  rw [h2, h1, Nat.mul_comm]; exact e

/-- The text of a single number. -/
def fmtL (x : Nat) : List UInt8 :=
  if rungOf Ieee.single x < 2139095040 then
    (if negOf Ieee.single x then [45] else []) ++ (if rungOf Ieee.single x = 0 then [48] else Lib.itoa (oddR (rungOf Ieee.single x) : Int) ++ [112] ++ Lib.itoa (powR (rungOf Ieee.single x)))
  else []
end
end Go.Proofs.Ytfafkdpefdpnkaa
