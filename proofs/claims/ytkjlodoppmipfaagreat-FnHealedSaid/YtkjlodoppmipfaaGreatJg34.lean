/- Lists are the same as themselves (the model's MakeSame); samples that are drawn. Samples that are drawn: MakeSamples. -/
import Derived.Test.YtkjlodoppmipfaaGreatJg9
import Derived.Test.YtkjlodoppmipfaaGreatJg8
import Derived.Deep.RegionWith
import Derived.Test.YtkjlodoppmipfaaGreatJg11
import Derived.Outline
import Derived.Test.YtkjlodoppmipfaaGreatJg3
namespace Go.Proofs.YtkjlodoppmipfaaGreat
section
open Go.RowKit

theorem quo_one32 {a : Nat} (h : nanB .f32 a = false) : ∃ r, floatBits .quo .f32 1065353216 a = some r := by
  have h1 : Ieee.single.read 1065353216 = .number false 8388608 (-23) := by decide +kernel
  simp only [floatBits, Ieee.Format.div, FloatKind.format, h1]
  unfold nanB FloatKind.decode FloatKind.format at h
  simp only [] at h
  cases hd : Ieee.single.read a with
  | number t n j =>
    simp only [Ieee.Datum.quotient]
    by_cases hn : n = 0
    · subst hn; exact ⟨_, rfl⟩
    · rw [if_neg hn]; exact ⟨_, rfl⟩
  | infinity s => exact ⟨_, rfl⟩
  | nan s t => rw [hd] at h; simp [Ieee.Datum.isNaN] at h

theorem l5Same_self (a : Nat) (w : World) : Calls Tryz.prog 48 #[.float .f32 a, .float .f32 a] w (SaysTrue w) := by
  cases hn : nanB .f32 a with
  | true =>
    have ha1 := order_nan_left (k := .f32) (y := a) hn
    clear hn
    go_enter Tryz.func48, Tryz.ntmps48
    go_wp2
    go_ret
    exact ⟨0, rfl, rfl⟩
  | false =>
    have ha1 : FloatKind.f32.format.order a a = some .eq := by rw [order_self, hn]; rfl
    obtain ⟨r, hr⟩ := quo_one32 hn
    have hq : ∀ w, fAr .quo .f32 1065353216 a w = r := by intro w; simp [fAr, hr]
    clear hn hr
    by_cases hz : FloatKind.f32.format.order a 0 = some .eq
    · go_enter Tryz.func48, Tryz.ntmps48
      go_wp2
      go_ret
      exact ⟨_, rfl, rfl⟩
    · have hz2 : (FloatKind.f32.format.order a 0 == some .eq) = false := by simpa using hz
      go_enter Tryz.func48, Tryz.ntmps48
      go_wp2
      go_ret
      exact ⟨0, rfl, rfl⟩

theorem l5SamePoint_self (x y : Nat) (w : World) : Calls Tryz.prog 47 #[.complex .f32 x y, .complex .f32 x y] w (SaysTrue w) := by
  go_enter Tryz.func47, Tryz.ntmps47
  go_wp2_with fail
  refine (l5Same_self _ _).mono ?_
  rintro _ _ ⟨n, rfl, rfl⟩
  go_wp2_with fail
  refine (l5Same_self _ _).mono ?_
  rintro _ _ ⟨m, rfl, rfl⟩
  go_wp2_with fail
  go_ret
  exact ⟨_, rfl, rfl⟩

set_option maxHeartbeats 1000000 in
theorem l5SameList_self (xs : List Cx) (o o' : Bool) (b b' lo lo' hi hi' : Nat) (v v' : Value) (w : World) (hx : HasS cxV o b lo hi w v xs) (hx' : HasS cxV o' b' lo' hi' w v' xs) (hlen : xs.length ≤ 4194304) :
    Calls Tryz.prog 30 #[v, v'] w (SaysTrue w) := by
  obtain ⟨A, cap, rfl, hcap, hc⟩ := hx
  obtain ⟨A', cap', rfl, hcap', hc'⟩ := hx'
  obtain ⟨len, hl⟩ : ∃ len, len = xs.length := ⟨_, rfl⟩
  have HL := Lib.hid hl
  rw [← hl] at hlen hcap hcap' ⊢
  clear hl
  have HC := Lib.hid hc; clear hc
  have HC' := Lib.hid hc'; clear hc'
  go_enter Tryz.func30, Tryz.ntmps30
  go_wp2
  go_loopw [5, 13] (fun _ i wr => ∃ (k m : Nat), k ≤ len ∧ i = .int .i64 k ∧ wr = w.drewN m) (fun _ i _ => len - (intOf i).toNat)
  case atStart => exact ⟨0, 0, Nat.zero_le _, rfl, rfl⟩
  case round =>
    obtain ⟨k, m, hk, rfl, rfl⟩ := hrel
    by_cases hlt : k < len
    · have hkx : k < xs.length := by rw [← HL.out]; exact hlt
      obtain ⟨off, rfl, _, _, _, hcell, _⟩ := HC.out (by omega)
      obtain ⟨off', rfl, _, _, _, hcell', _⟩ := HC'.out (by omega)
      obtain ⟨⟨x, y⟩, hx⟩ := getElem?_some hkx
      have hck : w.cell? ⟨b, off + k, none⟩ = some (.complex .f32 x y) := hcell k _ hx
      have hck' : w.cell? ⟨b', off' + k, none⟩ = some (.complex .f32 x y) := hcell' k _ hx
      have i0 : (0 : Int) ≤ (k : Int) := by omega
      have i1 : (k : Int) < (len : Int) := by omega
      clear hcell hcell' hkx hx
      go_wp2_with fail
      go_region_with (go_at_call 47; refine (l5SamePoint_self x y _).mono ?_; rintro _ _ ⟨n2, rfl, rfl⟩)
      all_goals
        go_wp2
        go_roundw
        case rel => exact ⟨k + 1, _, by omega, by go_num, rfl⟩
        case measure => simp [intOf]; omega
    · have hke : k = len := by omega
      have Hk := Lib.hid hke; clear hke
      go_wp2
      go_ret
      exact ⟨_, rfl, rfl⟩

theorem makeSame_self (xs : List Cx) (o o' : Bool) (b b' lo lo' hi hi' : Nat) (v v' : Value) (w : World) (hx : HasS cxV o b lo hi w v xs) (hx' : HasS cxV o' b' lo' hi' w v' xs) (hlen : xs.length ≤ 4194304) :
    Calls Tryz.prog 13 #[v, v'] w (SaysTrue w) := by
  go_enter Tryz.func13, Tryz.ntmps13
  go_wp2_with fail
  refine (l5SameList_self xs o o' b b' lo lo' hi hi' _ _ _ hx hx' hlen).mono ?_
  rintro _ _ ⟨n, rfl, rfl⟩
  go_wp2_with fail
  go_ret
  exact ⟨_, rfl, rfl⟩
end
section
open Go.RowKit

/-- A sample whose parts are words of 32 bits. -/
def smallS (z : Cx) : Prop := z.1 < 4294967296 ∧ z.2 < 4294967296

def DrawnS (B : Nat) (a : Addr) (w : World) (e : Ending) (w' : World) : Prop :=
  ∃ z : Cx, e = .returned (.complex .f32 z.1 z.2) ∧ smallS z ∧ Cur B w' a ∧ w.grownBy w' (some a.block)

theorem Cur.grownFar {B : Nat} {w w' : World} {a : Addr} {row : Option Nat} (h : Cur B w a) (hg : w.grownBy w' row) (hr : ∀ k, row = some k → B ≤ k ∧ k ≠ a.block) : Cur B w' a := by
  obtain ⟨g, A, n, c, i, x, rfl, hB, hh, hi, hn, hby⟩ := h
  have hlt : g < w.heap.size := by
    by_cases h : g < w.heap.size
    · exact h
    · rw [Array.getElem?_eq_none (by omega)] at hh; cases hh
  refine ⟨g, A, n, c, i, x, rfl, hB, ?_, hi, hn, ?_⟩
  · rw [hg.block g hlt (fun e => (hr g e.symm).2 rfl)]; exact hh
  · intro hn0
    obtain ⟨b, off, rfl, hb, hc⟩ := hby hn0
    refine ⟨b, off, rfl, hb, fun j hj => ?_⟩
    obtain ⟨u, u0, u1, hu⟩ := hc j hj
    exact ⟨u, u0, u1, hg.cell hu (fun e => by have := (hr b e.symm).1; omega)⟩

set_option maxHeartbeats 1000000 in
theorem l2Small_s (B : Nat) (a : Addr) (w : World) (h : Cur B w a) : Calls Tryz.prog 50 #[.pointer (some a)] w (DrawnS B a w) := by
  go_enter Tryz.func50, Tryz.ntmps50
  go_wp2_with fail
  refine (l01Below_any B a 7 w h (by omega) (by omega)).mono ?_
  rintro _ w1 ⟨r, rfl, r0, r1, hc, hb⟩
  go_wp2_with fail
  refine (l01Below_any B a 7 w1 hc (by omega) (by omega)).mono ?_
  rintro _ w2 ⟨s, rfl, s0, s1, hc2, hb2⟩
  go_wp2_with fail
  go_ret
  exact ⟨(floatOfInt .f32 (r - 3), floatOfInt .f32 (s - 3)), rfl, ⟨ofInt_lt _, ofInt_lt _⟩, hc2, grown_trans hb hb2⟩

set_option maxHeartbeats 1000000 in
theorem l2Any_s (B : Nat) (a : Addr) (w : World) (h : Cur B w a) : Calls Tryz.prog 52 #[.pointer (some a)] w (DrawnS B a w) := by
  go_enter Tryz.func52, Tryz.ntmps52
  go_wp2_with fail
  refine (l1Any_any B a w h).mono ?_
  rintro _ w1 ⟨r, rfl, hr, hc, hb⟩
  go_wp2_with fail
  refine (l1Any_any B a w1 hc).mono ?_
  rintro _ w2 ⟨s, rfl, hs, hc2, hb2⟩
  go_wp2_with fail
  go_ret
  exact ⟨(r, s), rfl, ⟨hr, hs⟩, hc2, grown_trans hb hb2⟩

/-- Samples are drawn. -/
def DrawnL (B : Nat) (a : Addr) (m : Nat) (w : World) (e : Ending) (w' : World) : Prop :=
  ∃ (v : Value) (xs : List Cx), e = .returned v ∧ xs.length ≤ m ∧ (∀ z ∈ xs, smallS z) ∧ w'.ownsRow w.heap.size 23 1 v xs.length (xs.map cxV) ∧ Cur B w' a ∧ w.grownBy w' (some a.block)

/-- A round of the drawing. -/
def Drawing (B : Nat) (a : Addr) (R : Nat) (w : World) (u : Value) (xs : List Cx) (wr : World) : Prop :=
  wr.ownsRow R 23 1 u xs.length (xs.map cxV) ∧ Cur B wr a ∧ w.grownBy wr (some a.block) ∧ (∀ z ∈ xs, smallS z) ∧ w.heap.size < wr.heap.size

set_option maxRecDepth 100000 in
set_option maxHeartbeats 4000000 in
theorem l4Samples_any (B : Nat) (a : Addr) (m : Nat) (hm : m ≤ 100) (w : World) (h : Cur B w a) (hBw : B ≤ w.heap.size) :
    Calls Tryz.prog 31 #[.pointer (some a), .int .i64 (m : Int)] w (DrawnL B a m w) := by
  have hlt := Cur.lt h
  obtain ⟨ip, hip, hzp, hsp, hbp⟩ := info_parts info_c64
  have HO : Hid ((w.alloc (.cells #[] 23)).ownsRow w.heap.size 23 1 (.slice (some ⟨w.heap.size, 0, none⟩) 0 0) 0 (([] : List Cx).map cxV)) :=
    World.ownsRow_made (base := w.heap.size) (e := 23) (size := 1) w #[] 0 (Nat.le_refl _) (Nat.zero_le _) rfl
  have HC := Lib.hid (h.alloc (.cells #[] 23))
  have HG := Lib.hid (World.grownBy_alloc w (.cells #[] 23) (some a.block))
  have HL := Lib.hid hlt
  have HM := Lib.hid hm
  have HBW := Lib.hid hBw
  have i1 : (m : Int) ≤ 100 := by omega
  clear h hlt hm hBw
  go_enter Tryz.func31, Tryz.ntmps31
  go_wp2_with fail
  refine (l01Below_any B a ((m : Int) + 1) _ HC.out (by omega) (by omega)).mono ?_
  rintro _ w2 ⟨k0, rfl, k1, k2, hc2, hg2⟩
  have HO2 := Lib.hid (HO.out.kept hg2 (.inr (by simp only [Value.ownBlock]; intro e; injection e with e; have := HL.out; omega)))
  have HC2 := Lib.hid hc2
  have HG2 := Lib.hid (grown_trans HG.out hg2)
  obtain ⟨k0', rfl⟩ := Int.eq_ofNat_of_zero_le k1
  have HK0 := Lib.hid (show k0' ≤ m by omega)
  have HZ2 := Lib.hid (show w.heap.size < w2.heap.size by have := hg2.size; simp at this; omega)
  clear hc2 hg2 HO HC HG k1 k2
  go_wp2_with fail
  go_loopw [5, 6, 7] (fun u q _ wr => ∃ (k : Nat) (xs : List Cx), xs.length + k ≤ m ∧ q = .int .i64 k ∧ Drawing B a w.heap.size w u xs wr) (fun _ q _ _ => (intOf q).toNat)
  case atStart => exact ⟨k0', [], by simp; exact HK0.out, rfl, HO2.out, HC2.out, HG2.out, (fun _ h => by cases h), HZ2.out⟩
  case round =>
    clear HO2 HC2 HG2 HK0 HZ2
    obtain ⟨k, xs, hk, rfl, ho, hc, hg, hq, hz0⟩ := hrel
    have HZ0 := Lib.hid hz0
    have HK := Lib.hid hk
    have HQ := Lib.hid hq
    have HO := Lib.hid ho
    have HC := Lib.hid hc
    have HG := Lib.hid hg
    have i0 : (k : Int) ≤ 100 := by have := HM.out; omega
    clear hk hq ho hc hg hz0
    by_cases hlt2 : 0 < k
    · go_wp2_with fail
      refine (l2Small_s B a _ HC.out).mono ?_
      rintro _ w3 ⟨⟨z1, z2⟩, rfl, hz, hc3, hg3⟩
      have HZ := Lib.hid hz
      have HO3 := Lib.hid (HO.out.kept hg3 (.inr (fun e => by have := (HO.out.lt _ e).1; have := HL.out; omega)))
      have HG3 := Lib.hid (grown_trans HG.out hg3)
      have HC3 := Lib.hid hc3
      have HS3 := Lib.hid hg3.size
      clear hc3 hg3 hz HO HC HG
      go_wp2_with fail
      refine (l01Once_any B a 15 _ HC3.out (by omega) (by omega)).mono ?_
      rintro _ w4 ⟨once, rfl, hc4, hg4⟩
      have HO4 := Lib.hid (HO3.out.kept hg4 (.inr (fun e => by have := (HO3.out.lt _ e).1; have := HL.out; omega)))
      have HG4 := Lib.hid (grown_trans HG3.out hg4)
      have HC4 := Lib.hid hc4
      have HS4 := Lib.hid (Nat.le_trans HS3.out hg4.size)
      clear hc4 hg4 HO3 HC3 HG3
      cases once with
      | false =>
        have HZZ4 := Lib.hid (show w.heap.size < w4.heap.size by have := HZ0.out; have := HS4.out; omega)
        go_wp2_with (at_builtin; go_loud ((refine wpList_append_own _ rfl _ _ 25 rfl w.heap.size 23 ip (.complex .f32 0 0) 1 8 Tryz.underlying25 hip hzp hsp hbp rfl (by decide) _ _ _ rfl (HO4.out.alloc _) ⟨w4.heap.size, 0, none⟩ 1 1 [.complex .f32 z1 z2] rfl rfl ?c1 ?c2 ?c3 ?c4 ?c5 ?_); (case c1 => exact one_new _ _ _); (case c2 => exact one_cell (by rfl)); (case c3 => have := HK.out; have := HM.out; unfold maxLen; omega); (case c4 => have := HK.out; have := HM.out; omega); (case c5 => have := HZZ4.out; simp; omega); intro v2 w6 ho6 hg6 _; have HO6 := Lib.hid ho6; have HG6 := Lib.hid hg6; clear ho6 hg6))
        go_roundw
        case rel =>
          have ow := HO4.out
          have hrow : ∀ k', _ = some k' → w.heap.size ≤ k' := fun k' hk' => (ow.lt k' hk').1
          have hlt := HL.out
          have hB := HBW.out
          have hz6 := HG6.out.size
          have hzz := HZZ4.out
          refine ⟨k - 1, xs ++ [(z1, z2)], by rw [List.length_append, List.length_singleton]; have := HK.out; omega, congrArg (Value.int .i64) (by omega), ?_, (HC4.out.alloc _).grownFar HG6.out (fun k' hk' => by have := hrow k' hk'; exact ⟨by omega, by omega⟩), ?_, ?_, by simp at hz6; omega⟩
          · have := HO6.out
            simpa [cxV] using this
          · have g0 := grown_alloc_other HG4.out (.cells #[.complex .f32 z1 z2] 23)
            exact ⟨HG6.out.os.trans g0.os, HG6.out.tape.trans g0.tape, HG6.out.output.trans g0.output, Nat.le_trans g0.size HG6.out.size, fun k' hk' hne => (HG6.out.block k' (Nat.lt_of_lt_of_le hk' g0.size) (fun e => by have := hrow k' e.symm; omega)).trans (g0.block k' hk' hne)⟩
          · intro q hq
            rcases List.mem_append.1 hq with h | h
            · exact HQ.out q h
            · rw [List.mem_singleton.1 h]; exact HZ.out
        case measure => simp [intOf]; omega
      | true =>
        go_wp2_with fail
        refine (l2Any_s B a _ HC4.out).mono ?_
        rintro _ w5 ⟨⟨y1, y2⟩, rfl, hy, hc5, hg5⟩
        have HY := Lib.hid hy
        have HO5 := Lib.hid (HO4.out.kept hg5 (.inr (fun e => by have := (HO4.out.lt _ e).1; have := HL.out; omega)))
        have HZZ5 := Lib.hid (show w.heap.size < w5.heap.size by have := HZ0.out; have := HS4.out; have := hg5.size; omega)
        have HG5 := Lib.hid (grown_trans HG4.out hg5)
        have HC5 := Lib.hid hc5
        clear hc5 hg5 hy HO4 HC4 HG4
        go_wp2_with (at_builtin; go_loud ((refine wpList_append_own _ rfl _ _ 25 rfl w.heap.size 23 ip (.complex .f32 0 0) 1 8 Tryz.underlying25 hip hzp hsp hbp rfl (by decide) _ _ _ rfl (HO5.out.alloc _) ⟨w5.heap.size, 0, none⟩ 1 1 [.complex .f32 y1 y2] rfl rfl ?c1 ?c2 ?c3 ?c4 ?c5 ?_); (case c1 => exact one_new _ _ _); (case c2 => exact one_cell (by rfl)); (case c3 => have := HK.out; have := HM.out; unfold maxLen; omega); (case c4 => have := HK.out; have := HM.out; omega); (case c5 => have := HZZ5.out; simp; omega); intro v2 w6 ho6 hg6 _; have HO6 := Lib.hid ho6; have HG6 := Lib.hid hg6; clear ho6 hg6))
        go_roundw
        case rel =>
          have ow := HO5.out
          have hrow : ∀ k', _ = some k' → w.heap.size ≤ k' := fun k' hk' => (ow.lt k' hk').1
          have hlt := HL.out
          have hB := HBW.out
          have hz6 := HG6.out.size
          have hzz := HZZ5.out
          refine ⟨k - 1, xs ++ [(y1, y2)], by rw [List.length_append, List.length_singleton]; have := HK.out; omega, congrArg (Value.int .i64) (by omega), ?_, (HC5.out.alloc _).grownFar HG6.out (fun k' hk' => by have := hrow k' hk'; exact ⟨by omega, by omega⟩), ?_, ?_, by simp at hz6; omega⟩
          · have := HO6.out
            simpa [cxV] using this
          · have g0 := grown_alloc_other HG5.out (.cells #[.complex .f32 y1 y2] 23)
            exact ⟨HG6.out.os.trans g0.os, HG6.out.tape.trans g0.tape, HG6.out.output.trans g0.output, Nat.le_trans g0.size HG6.out.size, fun k' hk' hne => (HG6.out.block k' (Nat.lt_of_lt_of_le hk' g0.size) (fun e => by have := hrow k' e.symm; omega)).trans (g0.block k' hk' hne)⟩
          · intro q hq
            rcases List.mem_append.1 hq with h | h
            · exact HQ.out q h
            · rw [List.mem_singleton.1 h]; exact HY.out
        case measure => simp [intOf]; omega
    · have hk0 : k = 0 := by omega
      subst hk0
      obtain ⟨A1, q1, rfl⟩ := ownsRow_slice HO.out
      go_wp2_with fail
      go_ret
      exact ⟨_, xs, rfl, by have := HK.out; omega, HQ.out, HO.out, HC.out, HG.out⟩

theorem ownsRow_low {w : World} {B B' : Nat} {e : TypeId} {s : Nat} {v : Value} {n : Nat} {xs : List Value} (h : w.ownsRow B e s v n xs) (hB : B' ≤ B) : w.ownsRow B' e s v n xs := by
  obtain ⟨hl, h | ⟨g, cap, cur, rfl, hg, hr⟩⟩ := h
  · exact ⟨hl, .inl h⟩
  · exact ⟨hl, .inr ⟨g, cap, cur, rfl, Nat.le_trans hB hg, hr⟩⟩

theorem ownsRow_keep {w w' : World} {B : Nat} {e : TypeId} {s : Nat} {v : Value} {n : Nat} {xs : List Value} (h : w.ownsRow B e s v n xs) (sp : Span 0 0 w w') : w'.ownsRow B e s v n xs :=
  h.kept (row := none) ⟨sp.os, sp.tape, sp.output, sp.size, fun k hk _ => sp.block k hk (by omega)⟩ (by cases v.ownBlock <;> simp)

/-- Samples are made; old memory is as it was. -/
def MakesS (m : Nat) (w : World) (e : Ending) (w' : World) : Prop :=
  ∃ (v : Value) (xs : List Cx), e = .returned v ∧ xs.length ≤ m ∧ (∀ z ∈ xs, smallS z) ∧ w'.ownsRow w.heap.size 23 1 v xs.length (xs.map cxV) ∧ Below w.heap.size w w'

set_option maxRecDepth 100000 in
theorem makeSamples_any (m : Nat) (hm0 : 0 < m) (hm : m ≤ 100) (A : Option Addr) (n c : Nat) (w : World) (hn : n ≤ 1048576) (h : HasBy w.heap.size w A n) :
    Calls Tryz.prog 14 #[.slice A n c, .int .i64 (m : Int)] w (MakesS m w) := by
  have Hn := Lib.hid hn
  have HM := Lib.hid hm
  have i0 : (0 : Int) < (m : Int) := by omega
  have i4 : ¬ ((m : Int) ≤ 0) := by omega
  have i5 : ¬ (m = 0) := by omega
  have i1 : (m : Int) ≤ 100 := by omega
  have i2 : min (m : Int) 100 = (m : Int) := by omega
  have i3 : max 0 (m : Int) = (m : Int) := by omega
  clear hn hm hm0
  go_enter Tryz.func14, Tryz.ntmps14
  go_wp2_with fail
  refine (l01New_any A n c w Hn.out h).mono ?_
  rintro _ w1 ⟨a, rfl, ha, hc, hb⟩
  have HA := Lib.hid ha
  have HB := Lib.hid hb
  have HC := Lib.hid hc
  clear ha hb hc h
  go_wp2_with fail
  refine (l4Samples_any w.heap.size a m HM.out w1 HC.out HB.out.size).mono ?_
  rintro _ w2 ⟨v, xs, rfl, hl, hs, hx, hc2, hg2⟩
  have HX := Lib.hid hx
  have HL := Lib.hid hl
  have HS := Lib.hid hs
  have HB2 := Lib.hid (HB.out.grown hg2 HB.out.size (fun k hk => by injection hk with hk; have := HA.out; omega))
  clear hx hl hs hc2 hg2
  go_wp2_with fail
  go_ret
  exact ⟨v, xs, rfl, HL.out, HS.out, ownsRow_low HX.out HB.out.size, HB2.out⟩
end
end Go.Proofs.YtkjlodoppmipfaaGreat
