/- The model's rings are drawn. -/
import Derived.Test.YtfafkdpefdpnkaaJq21
import Derived.Test.YtfafkdpefdpnkaaJq22
import Derived.Test.YtfafkdpefdpnkaaJq20
import Derived.Deep.RegionWith
import Derived.Outline
namespace Go.Proofs.Ytfafkdpefdpnkaa
open Go.RowKit

theorem Bx.grow {b g : Nat} {us : Array Value} {w w' : World} (h : Bx b us w) (hg : w.grownBy w' (some g)) (hne : b ≠ g) : Bx b us w' := by
  have e := hg.block b h.1 (fun e => hne (by injection e))
  exact ⟨Nat.lt_of_lt_of_le h.1 hg.size, fun i => (World.cell?_of_block (w := w) (a := ⟨b, i, none⟩) e).trans (h.2.1 i), fun i => (World.frozen?_of_block (w := w) (a := ⟨b, i, none⟩) e).trans (h.2.2 i)⟩
theorem HasS.grow {α : Type} {val : α → Value} {own : Bool} {b lo hi g : Nat} {w w' : World} {v : Value} {xs : List α} (h : HasS val own b lo hi w v xs) (hg : w.grownBy w' (some g)) (hne : b ≠ g) : HasS val own b lo hi w' v xs :=
  h.same (fun hb => ⟨Nat.lt_of_lt_of_le hb hg.size, hg.block b hb (fun e => hne (by injection e))⟩)
theorem grown_of_span {w w' : World} (s : Span 0 0 w w') (row : Option Nat) : w.grownBy w' row := ⟨s.os, s.tape, s.output, s.size, fun k hk _ => s.block k hk (by omega)⟩
theorem Cur.kept {B : Nat} {w w' : World} {a : Addr} (h : Cur B w a) (s : Span 0 0 w w') : Cur B w' a := h.grownFar (grown_of_span s none) (fun k hk => by cases hk)
theorem Cur.setFar {B lo hi : Nat} {w w' : World} {a : Addr} (h : Cur B w a) (s : Span lo hi w w') (hlo : hi = lo + 1) (hB : B ≤ lo) (hne : lo ≠ a.block) : Cur B w' a :=
  h.grownFar (row := some lo) ⟨s.os, s.tape, s.output, s.size, fun k hk hne => s.block k hk (by intro hc; apply hne; congr 1; omega)⟩ (fun k hk => by injection hk with hk; subst hk; exact ⟨hB, hne⟩)

theorem vr_zeros {m : Nat} (h1 : 1 ≤ m) (h2 : m ≤ 16) : VR (List.replicate m (0, 0), 0, 0) :=
  ⟨by simpa using h1, by simpa using h2, by simp; omega, by simp, fun j _ hj => by
    simp only [List.length_replicate] at hj ⊢
    rw [List.getElem?_replicate, if_pos (Nat.mod_lt _ (by omega))]⟩

/-- A ring that was drawn. -/
def DrawnR (B : Nat) (a : Addr) (w : World) (e : Ending) (w' : World) : Prop :=
  ∃ (A : Option Addr) (n p i j b : Nat) (xs : List Cx), e = .returned (.agg #[.slice A n p, .int .i64 (i : Int), .int .i64 (j : Int)]) ∧ n = xs.length ∧ VR (xs, i, j) ∧ HasS cxV true b w.heap.size w'.heap.size w' (.slice A n p) xs ∧ Cur B w' a ∧ w.grownBy w' (some a.block)

/-- A round of the drawing: the ring in the box rb. -/
def Ringing (B : Nat) (a : Addr) (rb : Nat) (w : World) (wr : World) : Prop :=
  ∃ (A : Option Addr) (n p i j b : Nat) (xs : List Cx), Bx rb #[.slice A n p, .int .i64 (i : Int), .int .i64 (j : Int)] wr ∧ n = xs.length ∧ VR (xs, i, j) ∧ HasS cxV true b w.heap.size wr.heap.size wr (.slice A n p) xs ∧ b ≠ rb ∧ Cur B wr a ∧ w.grownBy wr (some a.block)

/-- The ring in the box is replaced by one in new memory. -/
theorem Ringing.next {B rb : Nat} {a : Addr} {w wr w1 : World} {A' : Option Addr} {n' p' i' j' b' : Nat} {ys : List Cx} (hw : w.heap.size ≤ rb) (hne : rb ≠ a.block) (hB : B ≤ rb)
    (hc : Cur B wr a) (hg : w.grownBy wr (some a.block)) (hb : ∃ us, Bx rb us wr ∧ us.size = 3) (s : Span 0 0 wr w1) (hn : n' = ys.length) (hv : VR (ys, i', j')) (hs : HasS cxV true b' wr.heap.size w1.heap.size w1 (.slice A' n' p') ys) :
    Ringing B a rb w (((w1.setCell ⟨rb, 0, none⟩ (.slice A' n' p')).setCell ⟨rb, 1, none⟩ (.int .i64 (i' : Int))).setCell ⟨rb, 2, none⟩ (.int .i64 (j' : Int))) := by
  obtain ⟨us, hx, h3⟩ := hb
  obtain ⟨x0, x1, x2, rfl⟩ : ∃ x0 x1 x2, us = #[x0, x1, x2] := by
    obtain ⟨l⟩ := us
    match l, h3 with
    | [x0, x1, x2], _ => exact ⟨x0, x1, x2, rfl⟩
  have T := (Span.refl rb (rb + 1) w1).put3 (b := rb) ⟨Nat.le_refl _, Nat.lt_succ_self _⟩ (.slice A' n' p') (.int .i64 (i' : Int)) (.int .i64 (j' : Int))
  have hrb := hx.1
  have hz := s.size
  obtain ⟨off, e1, g1, g2, g3⟩ := hs.addrT (by have := hv.pos; exact this)
  refine ⟨A', n', p', i', j', b', ys, (hx.keep s).set3 _ _ _, hn, hv, ?_, by omega, ?_, ?_⟩
  · exact (hs.span T (by omega)).weak (by have := hg.size; omega) (.inr (Nat.le_refl _))
  · exact (hc.kept s).setFar T rfl hB hne
  · have g0 := grown_trans hg (grown_of_span s (some a.block))
    have g4 : w.grownBy (((w1.setCell ⟨rb, 0, none⟩ (.slice A' n' p')).setCell ⟨rb, 1, none⟩ (.int .i64 (i' : Int))).setCell ⟨rb, 2, none⟩ (.int .i64 (j' : Int))) (some a.block) :=
      ⟨T.os.trans g0.os, T.tape.trans g0.tape, T.output.trans g0.output, Nat.le_trans g0.size T.size, fun k hk hn => (T.block k (Nat.lt_of_lt_of_le hk g0.size) (by omega)).trans (g0.block k hk hn)⟩
    exact g4

theorem Ringing.drawn {B rb : Nat} {a : Addr} {w wr w1 : World} (h : Ringing B a rb w wr) (hl : a.block < w.heap.size) (hr : w.heap.size ≤ rb) (hc : Cur B w1 a) (hg : wr.grownBy w1 (some a.block)) : Ringing B a rb w w1 := by
  obtain ⟨A, n, p, i, j, b, xs, hx, hn, hv, hs, hbr, _, hg0⟩ := h
  obtain ⟨A', c, e, _, hcell⟩ := id hs
  obtain ⟨off, _, g1, _⟩ := hcell hv.pos
  exact ⟨A, n, p, i, j, b, xs, hx.grow hg (by omega), hn, hv, (hs.grow hg (by omega)).weak (Nat.le_refl _) (.inl hg.size), hbr, hc, grown_trans hg0 hg⟩
theorem Bx.after {b g : Nat} {us : Array Value} {w w' : World} (h : Bx b us w) (s : Span 0 0 w w') (hne : g ≠ b) (u0 u1 u2 : Value) : Bx b us (((w'.setCell ⟨g, 0, none⟩ u0).setCell ⟨g, 1, none⟩ u1).setCell ⟨g, 2, none⟩ u2) :=
  (((h.keep s).other (a := ⟨g, 0, none⟩) hne u0).other (a := ⟨g, 1, none⟩) hne u1).other (a := ⟨g, 2, none⟩) hne u2

set_option maxRecDepth 100000 in
set_option maxHeartbeats 8000000 in
theorem l4Ring_any (B : Nat) (a : Addr) (w : World) (h : Cur B w a) (hBw : B ≤ w.heap.size) :
    Calls Try.prog 40 #[.pointer (some a), .int .i64 9] w (DrawnR B a w) := by
  have hlt := Cur.lt h
  have HC := Lib.hid (h.alloc (.cells #[.slice none 0 0, .int .i64 0, .int .i64 0] 52))
  have HG := Lib.hid (World.grownBy_alloc w (.cells #[.slice none 0 0, .int .i64 0, .int .i64 0] 52) (some a.block))
  have YA := Lib.hid (Bx.new w #[.slice none 0 0, .int .i64 0, .int .i64 0] 52)
  have HL := Lib.hid hlt
  have HBW := Lib.hid hBw
  clear h hlt hBw
  go_enter Try.func40, Try.ntmps40
  go_wp2_with fail
  refine (l01Below_any B a 9 _ HC.out (by omega) (by omega)).mono ?_
  rintro _ w1 ⟨m, rfl, m0, m1, hc1, hg1⟩
  have HL' := HL.out
  have Y1 := Lib.hid (YA.out.grow hg1 (by omega))
  have C1 := Lib.hid hc1
  have G1 := Lib.hid (grown_trans HG.out hg1)
  have Z1 : Hid (w.heap.size < w1.heap.size) := by unfold Hid; have := hg1.size; simp at this; omega
  obtain ⟨m, rfl⟩ := Int.eq_ofNat_of_zero_le m0
  have HM := Lib.hid (show m < 9 by omega)
  clear hc1 hg1 HC HG YA HL' m0
  go_wp2_with fail
  have NRX : Hid (∀ w, Calls Try.prog 62 #[.int .i64 (1 + (m : Int))] w fun e w' => ∃ v, e = .returned (.tuple #[v, .bool true]) ∧ HasR true w.heap.size w'.heap.size w' v ⟨List.replicate (m + 1) (0, 0), 0, 0⟩ ∧ Span 0 0 w w') := by
    intro w
    have h := spec_newRing (1 + (m : Int)) w
    have he : ringO (1 + (m : Int)) = some ⟨List.replicate (m + 1) (0, 0), 0, 0⟩ := by
      unfold ringO
      have := HM.out
      rw [if_pos (by omega), show (1 + (m : Int)).toNat = m + 1 by omega]
    rw [he] at h
    exact h
  refine (NRX.out _).mono ?_
  rintro _ w2 ⟨v2, rfl, ⟨b2, vS, rfl, h2⟩, s2⟩
  obtain ⟨A2, p2, rfl, -, -⟩ := id h2
  simp only [List.length_replicate] at h2 ⊢
  obtain ⟨off2, rfl, g1, g2, g3⟩ := h2.addrT (by simp)
  have LC2 := HL.out
  have RG : Hid (Ringing B a w2.heap.size w (w2.alloc (.cells #[.slice (some ⟨b2, off2, none⟩) (m + 1) p2, .int .i64 0, .int .i64 0] 52))) := by
    have z1 := Z1.out
    have hz := s2.size
    refine ⟨_, m + 1, p2, 0, 0, b2, List.replicate (m + 1) (0, 0), Bx.new w2 _ _, by simp, vr_zeros (by omega) (by have := HM.out; omega), ((h2.alloc _).weak (by omega) (.inr (Nat.le_refl _))), by omega, (C1.out.kept s2).alloc _, ?_⟩
    exact grown_trans (grown_trans G1.out (grown_of_span s2 _)) (World.grownBy_alloc w2 _ _)
  have YR := Lib.hid ((Y1.out.keep s2).alloc (.cells #[.slice (some ⟨b2, off2, none⟩) (m + 1) p2, .int .i64 0, .int .i64 0] 52))
  have SW := Lib.hid (show w.heap.size < w2.heap.size from Nat.lt_of_lt_of_le Z1.out s2.size)
  have CW := Lib.hid ((C1.out.kept s2).alloc (.cells #[.slice (some ⟨b2, off2, none⟩) (m + 1) p2, .int .i64 0, .int .i64 0] 52))
  have GW := Lib.hid (grown_trans (grown_trans G1.out (grown_of_span s2 _)) (World.grownBy_alloc w2 (.cells #[.slice (some ⟨b2, off2, none⟩) (m + 1) p2, .int .i64 0, .int .i64 0] 52) (some a.block)))
  clear h2 s2 g1 g2 g3 C1 G1 Y1 Z1 NRX LC2
  obtain ⟨rb, hrb⟩ : ∃ rb, rb = w2.heap.size := ⟨_, rfl⟩
  go_wp2_with fail
  rw [← hrb] at RG SW ⊢
  clear hrb
  generalize w2.alloc (.cells #[.slice (some ⟨b2, off2, none⟩) (m + 1) p2, .int .i64 0, .int .i64 0] 52) = w3 at *
  refine (l01Below_any B a 20 _ CW.out (by omega) (by omega)).mono ?_
  rintro _ w4 ⟨k0, rfl, k1, k2, hc4, hg4⟩
  have HLL := HL
  have HRA : Hid (rb ≠ a.block) := by unfold Hid; have := SW.out; have := HL.out; omega
  have HWA : Hid (w.heap.size ≠ a.block) := by unfold Hid; have := HL.out; omega
  have RG4 := Lib.hid (RG.out.drawn HL.out (Nat.le_of_lt SW.out) hc4 hg4)
  have Y4 := Lib.hid (YR.out.grow hg4 HWA.out)
  obtain ⟨k0, rfl⟩ := Int.eq_ofNat_of_zero_le k1
  have HK0 := Lib.hid (show k0 ≤ 20 by omega)
  clear hc4 hg4 k1 k2 CW GW RG YR
  go_wp2_with fail
  go_loopw [7] (fun q wr => ∃ k : Nat, k ≤ 20 ∧ q = .int .i64 k ∧ Ringing B a rb w wr ∧ Bx w.heap.size #[.slice none 0 0, .int .i64 0, .int .i64 0] wr) (fun q _ => (intOf q).toNat)
  case atStart => exact ⟨k0, HK0.out, rfl, RG4.out, Y4.out⟩
  case round =>
    clear RG4 Y4 HK0
    obtain ⟨k, hk, rfl, hr, hy⟩ := hrel
    obtain ⟨A, n, p, i, j, b, xs, hx, hn, hv, hs, hbr, hc, hg⟩ := id hr
    have hpos := hv.pos
    have hba : b ≠ a.block := by
      obtain ⟨A', c', e, _, hcell⟩ := id hs
      obtain ⟨off, _, g1, _⟩ := hcell hpos
      have := HL.out; omega
    have HBA := Lib.hid hba
    have HK := Lib.hid hk
    have HV := Lib.hid hv
    have HN := Lib.hid hn
    have HX3 := Lib.hid hx
    have HS3 := Lib.hid hs
    have HBR := Lib.hid hbr
    have HC3 := Lib.hid hc
    have HG3 := Lib.hid hg
    have HY3 := Lib.hid hy
    have HR3 := Lib.hid hr
    have ik : (k : Int) ≤ 20 := by omega
    have hj16 := hv.cnt
    have hj17 := hv.most
    have ij : (j : Int) ≤ 16 := by simp only at hj16 hj17; omega
    clear hr hx hn hv hs hbr hc hg hy hba hpos hj16 hj17
    by_cases hkp : 0 < k
    · have HKP := Lib.hid hkp
      have ikp : (0 : Int) < (k : Int) := by omega
      clear hkp
      go_wp2_with fail
      refine (l01Once_any B a 3 _ HC3.out (by omega) (by omega)).mono ?_
      rintro _ w5 ⟨once, rfl, hc5, hg5⟩
      have GR5 := Lib.hid hg5
      have HC5 := Lib.hid hc5
      have HR5 := Lib.hid (HR3.out.drawn HLL.out (Nat.le_of_lt SW.out) hc5 hg5)
      have HX5 := Lib.hid (HX3.out.grow hg5 HRA.out)
      have HS5 := Lib.hid (HS3.out.grow hg5 HBA.out)
      have HY5 := Lib.hid (HY3.out.grow hg5 HWA.out)
      have c5 := HX5.out.cells
      clear hc5 hg5
      cases once with
      | false =>
        go_wp2_with fail
        clear HX3 HS3 HY3 HR3
        go_region_with (first
          | (go_at_call 44; go_loud ((refine (l2Small_s B a _ (by first | exact HC5.out | exact HC5.out.drewN _ | exact HC5.out.drew)).mono ?_; rintro _ w6 ⟨⟨z1, z2⟩, rfl, hz, hc6, hg6⟩; have GR6 : Hid (w5.grownBy w6 (some a.block)) := (by first | exact hg6 | exact ⟨hg6.os, hg6.tape, hg6.output, hg6.size, hg6.block⟩); have HR6 := Lib.hid (HR5.out.drawn HLL.out (Nat.le_of_lt SW.out) hc6 GR6.out); have HX6 := Lib.hid (HX5.out.grow GR6.out HRA.out); have HS6 := Lib.hid (HS5.out.grow GR6.out HBA.out); have HY6 := Lib.hid (HY5.out.grow GR6.out HWA.out); have c6 := HX6.out.cells; have HC6 := Lib.hid hc6; clear hc6 hg6 hz)))
          | (go_at_call 64; go_loud ((refine (l4Push_any (xs, i, j) HV.out (z1, z2) true b _ _ _ w6 HS6.out).mono ?_; rintro _ w7 ⟨v7, b7, rfl, h7, s7⟩; obtain ⟨A7, p7, rfl, -, -⟩ := id h7; have x7 := HX6.out.keep s7; have c7 := x7.cells; have f7 := x7.thaw; have S7 := Lib.hid s7; have H7 := Lib.hid h7; clear h7 s7 x7))))
        all_goals
          go_wp2_with fail
          have hgw := grown_trans HG3.out (grown_trans GR5.out GR6.out)
          have hlt9 := SW.out
          have RN := Lib.hid (Ringing.next (Nat.le_of_lt SW.out) HRA.out (by have := HBW.out; omega) HC6.out hgw ⟨_, HX6.out, rfl⟩ S7.out rfl (HV.out.push (z1, z2)) H7.out)
          have YN := HY6.out.after S7.out (g := rb) (by omega) (.slice A7 (pushR (xs, i, j) (z1, z2)).1.length p7) (.int .i64 ((pushR (xs, i, j) (z1, z2)).2.1 : Int)) (.int .i64 ((pushR (xs, i, j) (z1, z2)).2.2 : Int))
          have YN := Lib.hid YN
          clear hgw hlt9
          go_roundw
          case rel => exact ⟨k - 1, by have := HK.out; omega, congrArg (Value.int .i64) (by have := HKP.out; omega), RN.out, YN.out⟩
          case measure => have := HKP.out; simp [intOf]; omega
      | true =>
        by_cases hj : 0 < j
        · have ij0 : (0 : Int) < (j : Int) := by omega
          have HJ := Lib.hid hj
          clear hj
          go_wp2_with fail
          refine (l4Take_any (xs, i, j) HV.out HJ.out true b _ _ _ w5 HS5.out).mono ?_
          rintro _ w7 ⟨v7, b7, rfl, h7, s7⟩
          obtain ⟨A7, p7, rfl, -, -⟩ := id h7
          have x7 := HX5.out.keep s7
          have c7 := x7.cells
          have f7 := x7.thaw
          have S7 := Lib.hid s7
          have H7 := Lib.hid h7
          clear h7 s7 x7 c5
          go_wp2_with fail
          have hgw := grown_trans HG3.out GR5.out
          have hlt9 := SW.out
          have RN := Lib.hid (Ringing.next (Nat.le_of_lt SW.out) HRA.out (by have := HBW.out; omega) HC5.out hgw ⟨_, HX5.out, rfl⟩ S7.out rfl (HV.out.take HJ.out) H7.out)
          have YN := HY5.out.after S7.out (g := rb) (by omega) (.slice A7 (takeR (xs, i, j)).1.length p7) (.int .i64 ((takeR (xs, i, j)).2.1 : Int)) (.int .i64 ((takeR (xs, i, j)).2.2 : Int))
          have YN := Lib.hid YN
          clear hgw hlt9
          go_roundw
          case rel => exact ⟨k - 1, by have := HK.out; omega, congrArg (Value.int .i64) (by have := HKP.out; omega), RN.out, YN.out⟩
          case measure => have := HKP.out; simp [intOf]; omega
        · have ij0 : ¬ ((0 : Int) < (j : Int)) := by omega
          have ij1 : j = 0 := by omega
          clear hj
          have ij2 : ¬ (0 < j) := by omega
          clear ij1
          go_wp2_with fail
          clear HX3 HS3 HY3 HR3
          go_region_with (first
            | (go_at_call 44; go_loud ((refine (l2Small_s B a _ (by first | exact HC5.out | exact HC5.out.drewN _ | exact HC5.out.drew)).mono ?_; rintro _ w6 ⟨⟨z1, z2⟩, rfl, hz, hc6, hg6⟩; have GR6 : Hid (w5.grownBy w6 (some a.block)) := (by first | exact hg6 | exact ⟨hg6.os, hg6.tape, hg6.output, hg6.size, hg6.block⟩); have HR6 := Lib.hid (HR5.out.drawn HLL.out (Nat.le_of_lt SW.out) hc6 GR6.out); have HX6 := Lib.hid (HX5.out.grow GR6.out HRA.out); have HS6 := Lib.hid (HS5.out.grow GR6.out HBA.out); have HY6 := Lib.hid (HY5.out.grow GR6.out HWA.out); have c6 := HX6.out.cells; have HC6 := Lib.hid hc6; clear hc6 hg6 hz)))
            | (go_at_call 64; go_loud ((refine (l4Push_any (xs, i, j) HV.out (z1, z2) true b _ _ _ w6 HS6.out).mono ?_; rintro _ w7 ⟨v7, b7, rfl, h7, s7⟩; obtain ⟨A7, p7, rfl, -, -⟩ := id h7; have x7 := HX6.out.keep s7; have c7 := x7.cells; have f7 := x7.thaw; have S7 := Lib.hid s7; have H7 := Lib.hid h7; clear h7 s7 x7))))
          all_goals
            go_wp2_with fail
            have hgw := grown_trans HG3.out (grown_trans GR5.out GR6.out)
            have hlt9 := SW.out
            have RN := Lib.hid (Ringing.next (Nat.le_of_lt SW.out) HRA.out (by have := HBW.out; omega) HC6.out hgw ⟨_, HX6.out, rfl⟩ S7.out rfl (HV.out.push (z1, z2)) H7.out)
            have YN := HY6.out.after S7.out (g := rb) (by omega) (.slice A7 (pushR (xs, i, j) (z1, z2)).1.length p7) (.int .i64 ((pushR (xs, i, j) (z1, z2)).2.1 : Int)) (.int .i64 ((pushR (xs, i, j) (z1, z2)).2.2 : Int))
            have YN := Lib.hid YN
            clear hgw hlt9
            go_roundw
            case rel => exact ⟨k - 1, by have := HK.out; omega, congrArg (Value.int .i64) (by have := HKP.out; omega), RN.out, YN.out⟩
            case measure => have := HKP.out; simp [intOf]; omega
    · have hk0 : k = 0 := by omega
      subst hk0
      have c3 := HX3.out.cells
      have y3 := HY3.out.cells
      have yf := HY3.out.thaw
      have YS := Lib.hid (HY3.out.set3 (.slice A n p) (.int .i64 (i : Int)) (.int .i64 (j : Int)))
      clear hkp
      go_wp2_with fail
      have d1 := YS.out.cells
      have T := (Span.refl w.heap.size (w.heap.size + 1) wr).put3 (b := w.heap.size) ⟨Nat.le_refl _, Nat.lt_succ_self _⟩ (.slice A n p) (.int .i64 (i : Int)) (.int .i64 (j : Int))
      have hg := HG3.out
      have hbw := HBW.out
      have hlen := HV.out.pos
      have hbne : b ≠ w.heap.size := by
        intro he
        subst he
        obtain ⟨⟨x1, x2⟩, hx0⟩ := getElem?_some (xs := xs) (show 0 < xs.length from hlen)
        obtain ⟨off, e1, -⟩ := HS3.out.addrT hlen
        subst e1
        have hcc := HS3.out.at_ hx0
        rw [y3] at hcc
        rcases off with _ | _ | _ | off
        · simp [cxV] at hcc
        · simp [cxV] at hcc
        · simp [cxV] at hcc
        · simp at hcc
      refine bodyPost_ret (v := .agg #[.slice A n p, .int .i64 (i : Int), .int .i64 (j : Int)]) (by simp [results, Try.results40, go_sem, d1]) rfl ⟨A, n, p, i, j, b, xs, rfl, HN.out, HV.out, ?_, HC3.out.setFar T rfl hbw HWA.out, ?_⟩
      · exact (HS3.out.span T (by omega)).weak (Nat.le_refl _) (.inr (Nat.le_refl _))
      · exact ⟨T.os.trans hg.os, T.tape.trans hg.tape, T.output.trans hg.output, Nat.le_trans hg.size T.size, fun k hk hn => (T.block k (Nat.lt_of_lt_of_le hk hg.size) (by omega)).trans (hg.block k hk hn)⟩

/-- A ring that was made. -/
def MakesR (w : World) (e : Ending) (w' : World) : Prop :=
  ∃ (A : Option Addr) (n p i j b : Nat) (xs : List Cx), e = .returned (.agg #[.slice A n p, .int .i64 (i : Int), .int .i64 (j : Int)]) ∧ n = xs.length ∧ VR (xs, i, j) ∧ HasS cxV true b w.heap.size w'.heap.size w' (.slice A n p) xs ∧ Below w.heap.size w w'

set_option maxRecDepth 100000 in
set_option maxHeartbeats 4000000 in
theorem makeRing_any (A : Option Addr) (n c : Nat) (w : World) (hn : n ≤ 1048576) (h : HasBy w.heap.size w A n) :
    Calls Try.prog 21 #[.slice A n c] w (MakesR w) := by
  have Hn := Lib.hid hn
  have YA := Lib.hid (Bx.new w #[.slice none 0 0, .int .i64 0, .int .i64 0] 52)
  have BA := Lib.hid ((Below.refl w.heap.size w).alloc (Nat.le_refl _) (.cells #[.slice none 0 0, .int .i64 0, .int .i64 0] 52))
  have Hby : Hid (HasBy (w.alloc (.cells #[.slice none 0 0, .int .i64 0, .int .i64 0] 52)).heap.size (w.alloc (.cells #[.slice none 0 0, .int .i64 0, .int .i64 0] 52)) A n) := by
    unfold Hid
    intro hp
    obtain ⟨b, off, rfl, hb, hc⟩ := (h.below BA.out) hp
    exact ⟨b, off, rfl, by simp; omega, hc⟩
  clear hn h
  go_enter Try.func21, Try.ntmps21
  go_wp2_with fail
  refine (l01New_any A n c _ Hn.out Hby.out).mono ?_
  rintro _ w1 ⟨a, rfl, ha, hc, hb⟩
  have HA := Lib.hid ha
  have HB := Lib.hid hb
  have HC := Lib.hid hc
  have sz : (w.alloc (.cells #[.slice none 0 0, .int .i64 0, .int .i64 0] 52)).heap.size = w.heap.size + 1 := by simp
  have hbs := hb.size
  rw [sz] at hbs
  have Y1 := Lib.hid (YA.out.keep (show Span 0 0 _ w1 from ⟨hb.os, hb.tape, hb.output, hb.size, fun k hk _ => hb.block k hk⟩))
  have HBS := Lib.hid hbs
  have HAB := Lib.hid (show a.block = w.heap.size + 1 by rw [ha, sz])
  clear ha hc hb hbs sz
  go_wp2_with fail
  refine (l4Ring_any _ a w1 HC.out HB.out.size).mono ?_
  rintro _ w2 ⟨A2, n2, p2, i2, j2, b2, xs, rfl, hn2, hv2, hs2, hc2, hg2⟩
  have hab := HAB.out
  have hbs := HBS.out
  have Y2 := Y1.out.grow hg2 (by omega)
  have cy := Y2.cells
  have fy := Y2.thaw
  have YS := Lib.hid (Y2.set3 (.slice A2 n2 p2) (.int .i64 (i2 : Int)) (.int .i64 (j2 : Int)))
  have HS2 := Lib.hid hs2
  have HN2 := Lib.hid hn2
  have HV2 := Lib.hid hv2
  have T := Lib.hid ((Span.refl w.heap.size (w.heap.size + 1) w2).put3 (b := w.heap.size) ⟨Nat.le_refl _, Nat.lt_succ_self _⟩ (.slice A2 n2 p2) (.int .i64 (i2 : Int)) (.int .i64 (j2 : Int)))
  have BF : Hid (Below w.heap.size w w2) := by
    have b1 := HB.out
    have b0 := BA.out
    have e0 : (w.alloc (.cells #[.slice none 0 0, .int .i64 0, .int .i64 0] 52)).heap.size = w.heap.size + 1 := by simp
    exact Lib.hid ((b0.trans ⟨b1.os, b1.tape, b1.output, b1.size, fun k hk => b1.block k (by omega)⟩).grown hg2 (by omega) (fun k hk => by injection hk with hk; omega))
  clear hn2 hv2 hs2 hc2 hg2 hab hbs Y2
  go_wp2_with fail
  have d1 := YS.out.cells
  have hbs := HBS.out
  refine bodyPost_ret (v := .agg #[.slice A2 n2 p2, .int .i64 (i2 : Int), .int .i64 (j2 : Int)]) (by simp [results, Try.results21, go_sem, d1]) rfl ⟨A2, n2, p2, i2, j2, b2, xs, rfl, HN2.out, HV2.out, ?_, T.out.below BF.out (.inr (Nat.le_refl _)) BF.out.size⟩
  have hlen := HV2.out.pos
  obtain ⟨off, e1, g1, -⟩ := HS2.out.addrT hlen
  exact (HS2.out.span T.out (by omega)).weak (by omega) (.inr (Nat.le_refl _))
end Go.Proofs.Ytfafkdpefdpnkaa
