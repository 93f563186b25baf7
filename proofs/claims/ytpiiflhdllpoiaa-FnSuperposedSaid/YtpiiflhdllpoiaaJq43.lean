/- Lists are the same as themselves (the model's MakeSame); samples that are drawn. Samples that are drawn: MakeSamples. Floats that are whole numbers, of either zero. Samples whose parts are small whole numbers are drawn: MakeWhole. -/
import Derived.Test.YtpiiflhdllpoiaaJq10
import Derived.Test.YtpiiflhdllpoiaaJq9
import Derived.Deep.RegionWith
import Derived.Test.YtpiiflhdllpoiaaJq12
import Derived.Outline
import Derived.Test.YtpiiflhdllpoiaaJq4
import Derived.Test.YtpiiflhdllpoiaaJq11
namespace Go.Proofs.Ytpiiflhdllpoiaa
section
open Go.RowKit

theorem quo_one32 {a : Nat} (h : nanB .f32 a = false) : ∃ r, floatBits .quo .f32 1065353216 a = some r := by
  have h1 : Ieee.single.read 1065353216 = .number false 8388608 (-23) := by decide +kernel
  simp only [floatBits, Ieee.Format.div, FloatKind.format, h1]
  unfold nanB FloatKind.decode FloatKind.format at h
  simp only [] at h
  cases hd : Ieee.single.read a with
  | number t n j =>
    simp only [Ieee.Datum.quotient]
    by_cases hn : n = 0
    · subst hn; exact ⟨_, rfl⟩
    · rw [if_neg hn]; exact ⟨_, rfl⟩
  | infinity s => exact ⟨_, rfl⟩
  | nan s t => rw [hd] at h; simp [Ieee.Datum.isNaN] at h
end
section
open Go.RowKit

/-- A sample whose parts are words of 32 bits. -/
def smallS (z : Cx) : Prop := z.1 < 4294967296 ∧ z.2 < 4294967296

def DrawnS (B : Nat) (a : Addr) (w : World) (e : Ending) (w' : World) : Prop :=
  ∃ z : Cx, e = .returned (.complex .f32 z.1 z.2) ∧ smallS z ∧ Cur B w' a ∧ w.grownBy w' (some a.block)

theorem Cur.grownFar {B : Nat} {w w' : World} {a : Addr} {row : Option Nat} (h : Cur B w a) (hg : w.grownBy w' row) (hr : ∀ k, row = some k → B ≤ k ∧ k ≠ a.block) : Cur B w' a := by
  obtain ⟨g, A, n, c, i, x, rfl, hB, hh, hi, hn, hby⟩ := h
  have hlt : g < w.heap.size := by
    by_cases h : g < w.heap.size
    · exact h
    · rw [Array.getElem?_eq_none (by omega)] at hh; cases hh
  refine ⟨g, A, n, c, i, x, rfl, hB, ?_, hi, hn, ?_⟩
  · rw [hg.block g hlt (fun e => (hr g e.symm).2 rfl)]; exact hh
  · intro hn0
    obtain ⟨b, off, rfl, hb, hc⟩ := hby hn0
    refine ⟨b, off, rfl, hb, fun j hj => ?_⟩
    obtain ⟨u, u0, u1, hu⟩ := hc j hj
    exact ⟨u, u0, u1, hg.cell hu (fun e => by have := (hr b e.symm).1; omega)⟩

set_option maxHeartbeats 1000000 in
theorem l2Small_s (B : Nat) (a : Addr) (w : World) (h : Cur B w a) : Calls Try.prog 23 #[.pointer (some a)] w (DrawnS B a w) := by
  go_enter Try.func23, Try.ntmps23
  go_wp2_with fail
  refine (l01Below_any B a 7 w h (by omega) (by omega)).mono ?_
  rintro _ w1 ⟨r, rfl, r0, r1, hc, hb⟩
  go_wp2_with fail
  refine (l01Below_any B a 7 w1 hc (by omega) (by omega)).mono ?_
  rintro _ w2 ⟨s, rfl, s0, s1, hc2, hb2⟩
  go_wp2_with fail
  go_ret
  exact ⟨(floatOfInt .f32 (r - 3), floatOfInt .f32 (s - 3)), rfl, ⟨ofInt_lt _, ofInt_lt _⟩, hc2, grown_trans hb hb2⟩

/-- Samples are drawn. -/
def DrawnL (B : Nat) (a : Addr) (m : Nat) (w : World) (e : Ending) (w' : World) : Prop :=
  ∃ (v : Value) (xs : List Cx), e = .returned v ∧ xs.length ≤ m ∧ (∀ z ∈ xs, smallS z) ∧ w'.ownsRow w.heap.size 24 1 v xs.length (xs.map cxV) ∧ Cur B w' a ∧ w.grownBy w' (some a.block)

/-- A round of the drawing. -/
def Drawing (B : Nat) (a : Addr) (R : Nat) (w : World) (u : Value) (xs : List Cx) (wr : World) : Prop :=
  wr.ownsRow R 24 1 u xs.length (xs.map cxV) ∧ Cur B wr a ∧ w.grownBy wr (some a.block) ∧ (∀ z ∈ xs, smallS z) ∧ w.heap.size < wr.heap.size

theorem ownsRow_low {w : World} {B B' : Nat} {e : TypeId} {s : Nat} {v : Value} {n : Nat} {xs : List Value} (h : w.ownsRow B e s v n xs) (hB : B' ≤ B) : w.ownsRow B' e s v n xs := by
  obtain ⟨hl, h | ⟨g, cap, cur, rfl, hg, hr⟩⟩ := h
  · exact ⟨hl, .inl h⟩
  · exact ⟨hl, .inr ⟨g, cap, cur, rfl, Nat.le_trans hB hg, hr⟩⟩

theorem ownsRow_keep {w w' : World} {B : Nat} {e : TypeId} {s : Nat} {v : Value} {n : Nat} {xs : List Value} (h : w.ownsRow B e s v n xs) (sp : Span 0 0 w w') : w'.ownsRow B e s v n xs :=
  h.kept (row := none) ⟨sp.os, sp.tape, sp.output, sp.size, fun k hk _ => sp.block k hk (by omega)⟩ (by cases v.ownBlock <;> simp)

/-- Samples are made; old memory is as it was. -/
def MakesS (m : Nat) (w : World) (e : Ending) (w' : World) : Prop :=
  ∃ (v : Value) (xs : List Cx), e = .returned v ∧ xs.length ≤ m ∧ (∀ z ∈ xs, smallS z) ∧ w'.ownsRow w.heap.size 24 1 v xs.length (xs.map cxV) ∧ Below w.heap.size w w'
end
section
open Ieee Go.RowKit

/-- x is the whole number a (0 with any sign). -/
def Whole (x : Nat) (a : Int) : Prop := a.natAbs < 16777216 ∧ ∃ s, isU Ieee.single x s (a.natAbs * 2 ^ 149) ∧ sgn s (a.natAbs * 2 ^ 149) = a * ((2 ^ 149 : Nat) : Int)

theorem whole_fi {a : Int} (h : a.natAbs < 16777216) : Whole (fi a) a := ⟨h, _, isU_fi h, sgn_scaled a _⟩

theorem isU_negzero : isU Ieee.single 2147483648 true 0 := ⟨0, by decide +kernel, by rw [s_inf]; omega, by decide +kernel⟩
theorem whole_negzero : Whole 2147483648 0 := by
  refine ⟨by decide, true, ?_, ?_⟩
  · rw [Int.natAbs_zero, Nat.zero_mul]; exact isU_negzero
  · rw [Int.natAbs_zero, Nat.zero_mul, Int.zero_mul]; rfl

theorem whole_of {z : Nat} {neg : Bool} {c : Int} {K : Nat} (hK : K = 2 ^ 149) (hc : c.natAbs < 16777216) (h : isU Ieee.single z neg (c.natAbs * K)) (hs : sgn neg (c.natAbs * K) = c * (K : Int)) : Whole z c := by
  subst hK; exact ⟨hc, neg, h, hs⟩

theorem rep_whole {c : Int} (hc : c.natAbs < 16777216) : Rep Ieee.single (c.natAbs * 2 ^ 149) := rep_s (e := 149) hc (by omega)

theorem whole_add {x y : Nat} {a b : Int} (hx : Whole x a) (hy : Whole y b) (hc : (a + b).natAbs < 16777216) : ∃ z, floatBits .add .f32 x y = some z ∧ Whole z (a + b) := by
  obtain ⟨_, s, h1, h2⟩ := hx
  obtain ⟨_, t, h3, h4⟩ := hy
  have hr := rep_whole hc
  obtain ⟨K, hK⟩ : ∃ K, K = 2 ^ 149 := ⟨_, rfl⟩
  rw [← hK] at h1 h2 h3 h4 hr
  obtain ⟨z, neg, g1, g2, g3, _⟩ := add_isU h1 h3 hr (by rw [h2, h4]; exact abs_scaled_add a b K)
  rw [h2, h4, ← Int.add_mul] at g3
  exact ⟨z, g1, whole_of hK hc g2 g3⟩

theorem sgn_not (t : Bool) (U : Nat) : sgn (!t) U = -sgn t U := by cases t <;> simp [sgn]

theorem whole_sub {x y : Nat} {a b : Int} (hx : Whole x a) (hy : Whole y b) (hc : (a - b).natAbs < 16777216) : ∃ z, floatBits .sub .f32 x y = some z ∧ Whole z (a - b) := by
  obtain ⟨_, s, h1, h2⟩ := hx
  obtain ⟨_, t, h3, h4⟩ := hy
  have hr := rep_whole hc
  obtain ⟨K, hK⟩ : ∃ K, K = 2 ^ 149 := ⟨_, rfl⟩
  rw [← hK] at h1 h2 h3 h4 hr
  have h5 : sgn (!t) (b.natAbs * K) = (-b) * (K : Int) := by rw [sgn_not, h4, Int.neg_mul]
  obtain ⟨z, neg, g1, g2, g3, _⟩ := sub_isU h1 h3 hr (by rw [h2, h5, Int.sub_eq_add_neg]; exact abs_scaled_add a (-b) K)
  rw [h2, h5, ← Int.add_mul, ← Int.sub_eq_add_neg] at g3
  exact ⟨z, g1, whole_of hK hc g2 g3⟩

/-- A square is never -0. -/
theorem whole_square {x : Nat} {a : Int} (hx : Whole x a) (hc : (a * a).natAbs < 16777216) : floatBits .mul .f32 x x = some (fi (a * a)) := by
  obtain ⟨_, s, h1, h2⟩ := hx
  have hr := rep_whole hc
  have hz := isU_fi hc
  have hm : a.natAbs * 2 ^ 149 * (a.natAbs * 2 ^ 149) = (a * a).natAbs * 2 ^ 149 * 2 ^ 149 := by
    rw [Int.natAbs_mul]
    generalize 2 ^ 149 = K
    simp only [Nat.mul_assoc, Nat.mul_left_comm]
  obtain ⟨z, g1, g2⟩ := mul_isU (K := 149) s_lp h1 h1 hr hm
  have hn : (s ^^ s) = decide (a * a < 0) := by
    have : 0 ≤ a * a := by
      rcases Int.le_total 0 a with h | h
      · exact Int.mul_nonneg h h
      · exact Int.mul_nonneg_of_nonpos_of_nonpos h h
    cases s <;> simp <;> omega
  rw [hn] at g2
  rw [isU_word hz g2]
  exact g1

theorem order_whole {x y : Nat} {a b : Int} (hx : Whole x a) (hy : Whole y b) : FloatKind.f32.format.order x y = some (compare a b) := by
  obtain ⟨_, s, h1, h2⟩ := hx
  obtain ⟨_, t, h3, h4⟩ := hy
  have hp := big_pos
  generalize 2 ^ 149 = K at *
  have h : FloatKind.f32.format.order x y = _ := order_isU h1 h3
  rw [h, h2, h4, compare_mul a b K (by omega)]

theorem nan_whole {x : Nat} {a : Int} (h : Whole x a) : nanB .f32 x = false := by
  obtain ⟨_, s, h1, _⟩ := h
  obtain ⟨m, g, h, _⟩ := read_isU h1
  show (Ieee.single.read _).isNaN = false
  rw [h]; rfl

theorem isU_lt {x U : Nat} {s : Bool} (h : isU Ieee.single x s U) : x < 4294967296 ∧ rungOf Ieee.single x < 2139095040 := by
  obtain ⟨r, rfl, hr, _⟩ := h
  rw [s_inf] at hr
  unfold rungOf Ieee.Format.word
  rw [s_sw]
  cases s <;> simp <;> omega

theorem whole_lt {x : Nat} {a : Int} (h : Whole x a) : x < 4294967296 ∧ rungOf Ieee.single x < 2139095040 := by
  obtain ⟨_, s, h1, _⟩ := h
  exact isU_lt h1
end
section
open Go.RowKit

/-- A sample whose parts are whole numbers from -3 to 3. -/
def wholeS (z : Cx) : Prop := ∃ a b : Int, z = (fi a, fi b) ∧ -3 ≤ a ∧ a ≤ 3 ∧ -3 ≤ b ∧ b ≤ 3
def DrawnW (B : Nat) (a : Addr) (w : World) (e : Ending) (w' : World) : Prop :=
  ∃ z : Cx, e = .returned (.complex .f32 z.1 z.2) ∧ wholeS z ∧ Cur B w' a ∧ w.grownBy w' (some a.block)

set_option maxHeartbeats 1000000 in
theorem l2Small_w (B : Nat) (a : Addr) (w : World) (h : Cur B w a) : Calls Try.prog 23 #[.pointer (some a)] w (DrawnW B a w) := by
  go_enter Try.func23, Try.ntmps23
  go_wp2_with fail
  refine (l01Below_any B a 7 w h (by omega) (by omega)).mono ?_
  rintro _ w1 ⟨r, rfl, r0, r1, hc, hb⟩
  go_wp2_with fail
  refine (l01Below_any B a 7 w1 hc (by omega) (by omega)).mono ?_
  rintro _ w2 ⟨s, rfl, s0, s1, hc2, hb2⟩
  go_wp2_with fail
  go_ret
  exact ⟨(fi (r - 3), fi (s - 3)), rfl, ⟨r - 3, s - 3, rfl, by omega, by omega, by omega, by omega⟩, hc2, grown_trans hb hb2⟩

def MakesW (m : Nat) (w : World) (e : Ending) (w' : World) : Prop :=
  ∃ (v : Value) (xs : List Cx), e = .returned v ∧ xs.length ≤ m ∧ (∀ z ∈ xs, wholeS z) ∧ w'.ownsRow w.heap.size 24 1 v xs.length (xs.map cxV) ∧ Below w.heap.size w w'
def DrawingW (B : Nat) (a : Addr) (R : Nat) (w : World) (u : Value) (xs : List Cx) (wr : World) : Prop :=
  wr.ownsRow R 24 1 u xs.length (xs.map cxV) ∧ Cur B wr a ∧ w.grownBy wr (some a.block) ∧ (∀ z ∈ xs, wholeS z) ∧ w.heap.size < wr.heap.size

set_option maxRecDepth 100000 in
set_option maxHeartbeats 4000000 in
theorem makeWhole_any (m : Nat) (hm0 : 0 < m) (hm : m ≤ 100) (A : Option Addr) (n c : Nat) (w : World) (hn : n ≤ 1048576) (h : HasBy w.heap.size w A n) :
    Calls Try.prog 12 #[.slice A n c, .int .i64 (m : Int)] w (MakesW m w) := by
  obtain ⟨ip, hip, hzp, hsp, hbp⟩ := info_parts info_c64
  have Hn := Lib.hid hn
  have HM := Lib.hid hm
  have i0 : (0 : Int) < (m : Int) := by omega
  have i4 : ¬ ((m : Int) ≤ 0) := by omega
  have i5 : ¬ (m = 0) := by omega
  have i1 : (m : Int) ≤ 100 := by omega
  have i2 : min (m : Int) 100 = (m : Int) := by omega
  have i3 : max 0 (m : Int) = (m : Int) := by omega
  clear hn hm hm0
  go_enter Try.func12, Try.ntmps12
  go_wp2_with fail
  refine (l01New_any A n c w Hn.out h).mono ?_
  rintro _ w1 ⟨a, rfl, ha, hc, hb⟩
  have HL := Lib.hid (Cur.lt hc)
  have HA := Lib.hid ha
  have HB := Lib.hid hb
  have HO := Lib.hid (World.ownsRow_made (base := w1.heap.size) (e := 24) (size := 1) w1 #[] 0 (Nat.le_refl _) (Nat.zero_le _) rfl)
  have HC := Lib.hid (hc.alloc (.cells #[] 24))
  have HG := Lib.hid (World.grownBy_alloc w1 (.cells #[] 24) (some a.block))
  clear ha hb hc h
  go_wp2_with fail
  refine (l01Below_any w.heap.size a ((m : Int) + 1) _ HC.out (by omega) (by omega)).mono ?_
  rintro _ w2 ⟨k0, rfl, k1, k2, hc2, hg2⟩
  have HO2 := Lib.hid (HO.out.kept hg2 (.inr (by simp only [Value.ownBlock]; intro e; injection e with e; have := HL.out; omega)))
  have HC2 := Lib.hid hc2
  have HG2 := Lib.hid (grown_trans HG.out hg2)
  obtain ⟨k0', rfl⟩ := Int.eq_ofNat_of_zero_le k1
  have HK0 := Lib.hid (show k0' ≤ m by omega)
  have HZ2 := Lib.hid (show w1.heap.size < w2.heap.size by have := hg2.size; simp at this; omega)
  clear hc2 hg2 HO HC HG k1 k2
  go_wp2_with fail
  go_loopw [6, 7] (fun u q wr => ∃ (k : Nat) (xs : List Cx), xs.length + k ≤ m ∧ q = .int .i64 k ∧ DrawingW w.heap.size a w1.heap.size w1 u xs wr) (fun _ q _ => (intOf q).toNat)
  case atStart => exact ⟨k0', [], by simp; exact HK0.out, rfl, HO2.out, HC2.out, HG2.out, (fun _ h => by cases h), HZ2.out⟩
  case round =>
    clear HO2 HC2 HG2 HK0 HZ2
    obtain ⟨k, xs, hk, rfl, ho, hc, hg, hq, hz0⟩ := hrel
    have HZ0 := Lib.hid hz0
    have HK := Lib.hid hk
    have HQ := Lib.hid hq
    have HO := Lib.hid ho
    have HC := Lib.hid hc
    have HG := Lib.hid hg
    have ik : (k : Int) ≤ 100 := by have := HM.out; omega
    clear hk hq ho hc hg hz0
    by_cases hlt2 : 0 < k
    · go_wp2_with fail
      refine (l2Small_w w.heap.size a _ HC.out).mono ?_
      rintro _ w4 ⟨⟨z1, z2⟩, rfl, hz, hc3, hg3⟩
      have HZ := Lib.hid hz
      have HO4 := Lib.hid (HO.out.kept hg3 (.inr (fun e => by have := (HO.out.lt _ e).1; have := HL.out; omega)))
      have HG4 := Lib.hid (grown_trans HG.out hg3)
      have HC4 := Lib.hid hc3
      have HZZ4 := Lib.hid (show w1.heap.size < w4.heap.size by have := HZ0.out; have := hg3.size; omega)
      clear hc3 hg3 hz HO HC HG
      go_wp2_with (at_builtin; go_loud ((refine wpList_append_own _ rfl _ _ 26 rfl w1.heap.size 24 ip (.complex .f32 0 0) 1 8 Try.underlying26 hip hzp hsp hbp rfl (by decide) _ _ _ rfl (HO4.out.alloc _) ⟨w4.heap.size, 0, none⟩ 1 1 [.complex .f32 z1 z2] rfl rfl ?c1 ?c2 ?c3 ?c4 ?c5 ?_); (case c1 => exact one_new _ _ _); (case c2 => exact one_cell (by rfl)); (case c3 => have := HK.out; have := HM.out; unfold maxLen; omega); (case c4 => have := HK.out; have := HM.out; omega); (case c5 => have := HZZ4.out; simp; omega); intro v2 w6 ho6 hg6 _; have HO6 := Lib.hid ho6; have HG6 := Lib.hid hg6; clear ho6 hg6))
      go_roundw
      case rel =>
        have ow := HO4.out
        have hrow : ∀ k', _ = some k' → w1.heap.size ≤ k' := fun k' hk' => (ow.lt k' hk').1
        have hlt := HL.out
        have hB := HB.out.size
        have hz6 := HG6.out.size
        have hzz := HZZ4.out
        refine ⟨k - 1, xs ++ [(z1, z2)], by rw [List.length_append, List.length_singleton]; have := HK.out; omega, congrArg (Value.int .i64) (by omega), ?_, (HC4.out.alloc _).grownFar HG6.out (fun k' hk' => by have := hrow k' hk'; exact ⟨by omega, by omega⟩), ?_, ?_, by simp at hz6; omega⟩
        · have := HO6.out
          simpa [cxV] using this
        · have g0 := grown_alloc_other HG4.out (.cells #[.complex .f32 z1 z2] 24)
          exact ⟨HG6.out.os.trans g0.os, HG6.out.tape.trans g0.tape, HG6.out.output.trans g0.output, Nat.le_trans g0.size HG6.out.size, fun k' hk' hne => (HG6.out.block k' (Nat.lt_of_lt_of_le hk' g0.size) (fun e => by have := hrow k' e.symm; omega)).trans (g0.block k' hk' hne)⟩
        · intro q hq
          rcases List.mem_append.1 hq with h | h
          · exact HQ.out q h
          · rw [List.mem_singleton.1 h]; exact HZ.out
      case measure => simp [intOf]; omega
    · have hk0 : k = 0 := by omega
      subst hk0
      have HF := Lib.hid (HB.out.grown HG.out HB.out.size (fun k hk => by injection hk with hk; have := HA.out; omega))
      clear hlt2
      go_wp2_with fail
      go_ret
      exact ⟨_, xs, rfl, by have := HK.out; omega, HQ.out, ownsRow_low HO.out HB.out.size, HF.out⟩
end
end Go.Proofs.Ytpiiflhdllpoiaa
