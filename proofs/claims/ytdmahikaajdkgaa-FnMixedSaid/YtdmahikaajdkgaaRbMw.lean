/- Samples whose parts are small whole numbers are drawn: MakeWhole. -/
import Derived.Test.YtdmahikaajdkgaaJb28
import Derived.Test.YtdmahikaajdkgaaJb20
import Derived.Outline
namespace Go.Proofs.Ytdmahikaajdkgaa
open Go.RowKit

/-- A sample whose parts are whole numbers from -3 to 3. -/
def wholeS (z : Cx) : Prop := ∃ a b : Int, z = (fi a, fi b) ∧ -3 ≤ a ∧ a ≤ 3 ∧ -3 ≤ b ∧ b ≤ 3
def DrawnW (B : Nat) (a : Addr) (w : World) (e : Ending) (w' : World) : Prop :=
  ∃ z : Cx, e = .returned (.complex .f32 z.1 z.2) ∧ wholeS z ∧ Cur B w' a ∧ w.grownBy w' (some a.block)

set_option maxHeartbeats 1000000 in
theorem l2Small_w (B : Nat) (a : Addr) (w : World) (h : Cur B w a) : Calls Try.prog 48 #[.pointer (some a)] w (DrawnW B a w) := by
  go_enter Try.func48, Try.ntmps48
  go_wp2_with fail
  refine (l01Below_any B a 7 w h (by omega) (by omega)).mono ?_
  rintro _ w1 ⟨r, rfl, r0, r1, hc, hb⟩
  go_wp2_with fail
  refine (l01Below_any B a 7 w1 hc (by omega) (by omega)).mono ?_
  rintro _ w2 ⟨s, rfl, s0, s1, hc2, hb2⟩
  go_wp2_with fail
  go_ret
  exact ⟨(fi (r - 3), fi (s - 3)), rfl, ⟨r - 3, s - 3, rfl, by omega, by omega, by omega, by omega⟩, hc2, grown_trans hb hb2⟩

def MakesW (m : Nat) (w : World) (e : Ending) (w' : World) : Prop :=
  ∃ (v : Value) (xs : List Cx), e = .returned v ∧ xs.length ≤ m ∧ (∀ z ∈ xs, wholeS z) ∧ w'.ownsRow w.heap.size 27 1 v xs.length (xs.map cxV) ∧ Below w.heap.size w w'
def DrawingW (B : Nat) (a : Addr) (R : Nat) (w : World) (u : Value) (xs : List Cx) (wr : World) : Prop :=
  wr.ownsRow R 27 1 u xs.length (xs.map cxV) ∧ Cur B wr a ∧ w.grownBy wr (some a.block) ∧ (∀ z ∈ xs, wholeS z) ∧ w.heap.size < wr.heap.size

set_option maxRecDepth 100000 in
set_option maxHeartbeats 4000000 in
theorem makeWhole_any (m : Nat) (hm0 : 0 < m) (hm : m ≤ 100) (A : Option Addr) (n c : Nat) (w : World) (hn : n ≤ 1048576) (h : HasBy w.heap.size w A n) :
    Calls Try.prog 18 #[.slice A n c, .int .i64 (m : Int)] w (MakesW m w) := by
  obtain ⟨ip, hip, hzp, hsp, hbp⟩ := info_parts info_c64
  have Hn := Lib.hid hn
  have HM := Lib.hid hm
  have i0 : (0 : Int) < (m : Int) := by omega
  have i4 : ¬ ((m : Int) ≤ 0) := by omega
  have i5 : ¬ (m = 0) := by omega
  have i1 : (m : Int) ≤ 100 := by omega
  have i2 : min (m : Int) 100 = (m : Int) := by omega
  have i3 : max 0 (m : Int) = (m : Int) := by omega
  clear hn hm hm0
  go_enter Try.func18, Try.ntmps18
  go_wp2_with fail
  refine (l01New_any A n c w Hn.out h).mono ?_
  rintro _ w1 ⟨a, rfl, ha, hc, hb⟩
  have HL := Lib.hid (Cur.lt hc)
  have HA := Lib.hid ha
  have HB := Lib.hid hb
  have HO := Lib.hid (World.ownsRow_made (base := w1.heap.size) (e := 27) (size := 1) w1 #[] 0 (Nat.le_refl _) (Nat.zero_le _) rfl)
  have HC := Lib.hid (hc.alloc (.cells #[] 27))
  have HG := Lib.hid (World.grownBy_alloc w1 (.cells #[] 27) (some a.block))
  clear ha hb hc h
  go_wp2_with fail
  refine (l01Below_any w.heap.size a ((m : Int) + 1) _ HC.out (by omega) (by omega)).mono ?_
  rintro _ w2 ⟨k0, rfl, k1, k2, hc2, hg2⟩
  have HO2 := Lib.hid (HO.out.kept hg2 (.inr (by simp only [Value.ownBlock]; intro e; injection e with e; have := HL.out; omega)))
  have HC2 := Lib.hid hc2
  have HG2 := Lib.hid (grown_trans HG.out hg2)
  obtain ⟨k0', rfl⟩ := Int.eq_ofNat_of_zero_le k1
  have HK0 := Lib.hid (show k0' ≤ m by omega)
  have HZ2 := Lib.hid (show w1.heap.size < w2.heap.size by have := hg2.size; simp at this; omega)
  clear hc2 hg2 HO HC HG k1 k2
  go_wp2_with fail
  go_loopw [6, 7] (fun u q wr => ∃ (k : Nat) (xs : List Cx), xs.length + k ≤ m ∧ q = .int .i64 k ∧ DrawingW w.heap.size a w1.heap.size w1 u xs wr) (fun _ q _ => (intOf q).toNat)
  case atStart => exact ⟨k0', [], by simp; exact HK0.out, rfl, HO2.out, HC2.out, HG2.out, (fun _ h => by cases h), HZ2.out⟩
  case round =>
    clear HO2 HC2 HG2 HK0 HZ2
    obtain ⟨k, xs, hk, rfl, ho, hc, hg, hq, hz0⟩ := hrel
    have HZ0 := Lib.hid hz0
    have HK := Lib.hid hk
    have HQ := Lib.hid hq
    have HO := Lib.hid ho
    have HC := Lib.hid hc
    have HG := Lib.hid hg
    have ik : (k : Int) ≤ 100 := by have := HM.out; omega
    clear hk hq ho hc hg hz0
    by_cases hlt2 : 0 < k
    · go_wp2_with fail
      refine (l2Small_w w.heap.size a _ HC.out).mono ?_
      rintro _ w4 ⟨⟨z1, z2⟩, rfl, hz, hc3, hg3⟩
      have HZ := Lib.hid hz
      have HO4 := Lib.hid (HO.out.kept hg3 (.inr (fun e => by have := (HO.out.lt _ e).1; have := HL.out; omega)))
      have HG4 := Lib.hid (grown_trans HG.out hg3)
      have HC4 := Lib.hid hc3
      have HZZ4 := Lib.hid (show w1.heap.size < w4.heap.size by have := HZ0.out; have := hg3.size; omega)
      clear hc3 hg3 hz HO HC HG
      go_wp2_with (at_builtin; go_loud ((refine wpList_append_own _ rfl _ _ 28 rfl w1.heap.size 27 ip (.complex .f32 0 0) 1 8 Try.underlying28 hip hzp hsp hbp rfl (by decide) _ _ _ rfl (HO4.out.alloc _) ⟨w4.heap.size, 0, none⟩ 1 1 [.complex .f32 z1 z2] rfl rfl ?c1 ?c2 ?c3 ?c4 ?c5 ?_); (case c1 => exact one_new _ _ _); (case c2 => exact one_cell (by rfl)); (case c3 => have := HK.out; have := HM.out; unfold maxLen; omega); (case c4 => have := HK.out; have := HM.out; omega); (case c5 => have := HZZ4.out; simp; omega); intro v2 w6 ho6 hg6 _; have HO6 := Lib.hid ho6; have HG6 := Lib.hid hg6; clear ho6 hg6))
      go_roundw
      case rel =>
        have ow := HO4.out
        have hrow : ∀ k', _ = some k' → w1.heap.size ≤ k' := fun k' hk' => (ow.lt k' hk').1
        have hlt := HL.out
        have hB := HB.out.size
        have hz6 := HG6.out.size
        have hzz := HZZ4.out
        refine ⟨k - 1, xs ++ [(z1, z2)], by rw [List.length_append, List.length_singleton]; have := HK.out; omega, congrArg (Value.int .i64) (by omega), ?_, (HC4.out.alloc _).grownFar HG6.out (fun k' hk' => by have := hrow k' hk'; exact ⟨by omega, by omega⟩), ?_, ?_, by simp at hz6; omega⟩
        · have := HO6.out
          simpa [cxV] using this
        · have g0 := grown_alloc_other HG4.out (.cells #[.complex .f32 z1 z2] 27)
          exact ⟨HG6.out.os.trans g0.os, HG6.out.tape.trans g0.tape, HG6.out.output.trans g0.output, Nat.le_trans g0.size HG6.out.size, fun k' hk' hne => (HG6.out.block k' (Nat.lt_of_lt_of_le hk' g0.size) (fun e => by have := hrow k' e.symm; omega)).trans (g0.block k' hk' hne)⟩
        · intro q hq
          rcases List.mem_append.1 hq with h | h
          · exact HQ.out q h
          · rw [List.mem_singleton.1 h]; exact HZ.out
      case measure => simp [intOf]; omega
    · have hk0 : k = 0 := by omega
      subst hk0
      have HF := Lib.hid (HB.out.grown HG.out HB.out.size (fun k hk => by injection hk with hk; have := HA.out; omega))
      clear hlt2
      go_wp2_with fail
      go_ret
      exact ⟨_, xs, rfl, by have := HK.out; omega, HQ.out, ownsRow_low HO.out HB.out.size, HF.out⟩

end Go.Proofs.Ytdmahikaajdkgaa
