/- Frames that are drawn: MakeFrames. -/
import Derived.Test.YtfafkdpefdpnkaaJq27
import Derived.Outline
namespace Go.Proofs.Ytfafkdpefdpnkaa
open Go.RowKit

@[go_sem] theorem build_fr0 (w : World) : (Instr.build 37 #[]).run Try.prog w = .ok (.agg #[.complex .f32 0 0, .complex .f32 0 0, .complex .f32 0 0, .complex .f32 0 0, .complex .f32 0 0, .complex .f32 0 0, .complex .f32 0 0, .complex .f32 0 0]) w := run_build w 37 _ _ (by kernel_rfl)
@[go_sem] theorem build_fr3 (a b c d e f : Nat) (w : World) : (Instr.build 37 #[(0, .complex .f32 a b), (1, .complex .f32 c d), (2, .complex .f32 e f)]).run Try.prog w = .ok (.agg #[.complex .f32 a b, .complex .f32 c d, .complex .f32 e f, .complex .f32 0 0, .complex .f32 0 0, .complex .f32 0 0, .complex .f32 0 0, .complex .f32 0 0]) w := run_build w 37 _ _ (by kernel_rfl)

def arrC (L : List Cx) : Array Value := (L.map cxV).toArray
theorem arrC_size (L : List Cx) : (arrC L).size = L.length := by simp [arrC]
theorem arrC_get {L : List Cx} {k : Nat} {z : Cx} (h : L[k]? = some z) : (arrC L)[k]? = some (.complex .f32 z.1 z.2) := by
  unfold arrC
  rw [List.getElem?_toArray, List.getElem?_map, h]
  rfl
theorem arrC_set (L : List Cx) (k : Nat) (z : Cx) : arrC (L.set k z) = (arrC L).setIfInBounds k (cxV z) := by
  unfold arrC
  rw [List.map_set, List.setIfInBounds_toArray]

/-- A frame in the course of being drawn. -/
structure Fill (B : Nat) (a : Addr) (w : World) (L : List Cx) (wr : World) : Prop where
  len : L.length = 8
  box : Bx (w.heap.size + 1) (arrC L) wr
  res : Bx w.heap.size #[.complex .f32 0 0, .complex .f32 0 0, .complex .f32 0 0, .complex .f32 0 0, .complex .f32 0 0, .complex .f32 0 0, .complex .f32 0 0, .complex .f32 0 0] wr
  cur : Cur B wr a
  grown : w.grownBy wr (some a.block)

theorem Fill.next {B : Nat} {a : Addr} {w wr w1 : World} {L : List Cx} (h : Fill B a w L wr) (ha : a.block < w.heap.size) (hc : Cur B w1 a) (hg : wr.grownBy w1 (some a.block)) : Fill B a w L w1 :=
  ⟨h.len, h.box.grow hg (by omega), h.res.grow hg (by omega), hc, grown_trans h.grown hg⟩
theorem Fill.put {B : Nat} {a : Addr} {w wr : World} {L : List Cx} (h : Fill B a w L wr) (ha : a.block < w.heap.size) (hB : B ≤ w.heap.size) (k : Nat) (hk : k < 8) (z : Cx) : Fill B a w (L.set k z) (wr.setCell ⟨w.heap.size + 1, k, none⟩ (cxV z)) := by
  have g := grown_setCell wr (w.heap.size + 1) k (cxV z)
  refine ⟨by rw [List.length_set]; exact h.len, ?_, h.res.other (by simp only; omega) _, h.cur.grownFar g (fun j hj => by injection hj with hj; omega), ?_⟩
  · rw [arrC_set]
    exact h.box.set k _ (by rw [arrC_size, h.len]; exact hk)
  · exact ⟨h.grown.os, h.grown.tape, h.grown.output, by simpa [World.setCell] using h.grown.size, fun j hj hne => (Below.heap_setCell wr ⟨w.heap.size + 1, k, none⟩ (cxV z) j (by simp only; omega)).trans (h.grown.block j hj hne)⟩

/-- A frame is drawn. -/
def DrawnFr (B : Nat) (a : Addr) (w : World) (e : Ending) (w' : World) : Prop := ∃ F, e = .returned (frV F) ∧ Cur B w' a ∧ w.grownBy w' (some a.block)

theorem fill_end {B : Nat} {a : Addr} {w wr : World} (hc : Cur B wr a) (hg : w.grownBy wr (some a.block)) (ha : a.block < w.heap.size) (hB : B ≤ w.heap.size) (u0 u1 u2 u3 u4 u5 u6 u7 : Value) (b : Nat) (hb : w.heap.size ≤ b) :
    Cur B ((((((((wr.setCell ⟨b, 0, none⟩ u0).setCell ⟨b, 1, none⟩ u1).setCell ⟨b, 2, none⟩ u2).setCell ⟨b, 3, none⟩ u3).setCell ⟨b, 4, none⟩ u4).setCell ⟨b, 5, none⟩ u5).setCell ⟨b, 6, none⟩ u6).setCell ⟨b, 7, none⟩ u7) a ∧
    w.grownBy ((((((((wr.setCell ⟨b, 0, none⟩ u0).setCell ⟨b, 1, none⟩ u1).setCell ⟨b, 2, none⟩ u2).setCell ⟨b, 3, none⟩ u3).setCell ⟨b, 4, none⟩ u4).setCell ⟨b, 5, none⟩ u5).setCell ⟨b, 6, none⟩ u6).setCell ⟨b, 7, none⟩ u7) (some a.block) := by
  have s := (Span.refl b (b + 1) wr).put8 (b := b) ⟨Nat.le_refl _, Nat.lt_succ_self _⟩ u0 u1 u2 u3 u4 u5 u6 u7
  refine ⟨hc.setFar s rfl (by omega) (by omega), ⟨s.os.trans hg.os, s.tape.trans hg.tape, s.output.trans hg.output, Nat.le_trans hg.size s.size, fun j hj hne => (s.block j (Nat.lt_of_lt_of_le hj hg.size) (by omega)).trans (hg.block j hj hne)⟩⟩

set_option maxRecDepth 100000 in
set_option maxHeartbeats 8000000 in
theorem l4Frame_any (B : Nat) (a : Addr) (w : World) (h : Cur B w a) (hBw : B ≤ w.heap.size) : Calls Try.prog 48 #[.pointer (some a)] w (DrawnFr B a w) := by
  have HL := Lib.hid (Cur.lt h)
  have HBW := Lib.hid hBw
  have HF0 : Hid (Fill B a w [(0, 0), (0, 0), (0, 0), (0, 0), (0, 0), (0, 0), (0, 0), (0, 0)] ((w.alloc (.cells #[.complex .f32 0 0, .complex .f32 0 0, .complex .f32 0 0, .complex .f32 0 0, .complex .f32 0 0, .complex .f32 0 0, .complex .f32 0 0, .complex .f32 0 0] 37)).alloc (.cells #[.complex .f32 0 0, .complex .f32 0 0, .complex .f32 0 0, .complex .f32 0 0, .complex .f32 0 0, .complex .f32 0 0, .complex .f32 0 0, .complex .f32 0 0] 37))) := by
    refine ⟨rfl, ?_, (Bx.new w #[.complex .f32 0 0, .complex .f32 0 0, .complex .f32 0 0, .complex .f32 0 0, .complex .f32 0 0, .complex .f32 0 0, .complex .f32 0 0, .complex .f32 0 0] 37).alloc _, (h.alloc _).alloc _, grown_alloc_other (grown_alloc_other (World.grownBy.refl _ _) _) _⟩
    have := Bx.new (w.alloc (.cells #[.complex .f32 0 0, .complex .f32 0 0, .complex .f32 0 0, .complex .f32 0 0, .complex .f32 0 0, .complex .f32 0 0, .complex .f32 0 0, .complex .f32 0 0] 37)) #[.complex .f32 0 0, .complex .f32 0 0, .complex .f32 0 0, .complex .f32 0 0, .complex .f32 0 0, .complex .f32 0 0, .complex .f32 0 0, .complex .f32 0 0] 37
    rw [show (w.alloc (.cells #[.complex .f32 0 0, .complex .f32 0 0, .complex .f32 0 0, .complex .f32 0 0, .complex .f32 0 0, .complex .f32 0 0, .complex .f32 0 0, .complex .f32 0 0] 37)).heap.size = w.heap.size + 1 by simp] at this
    exact this
  clear h hBw
  go_enter Try.func48, Try.ntmps48
  go_wp2_with fail
  generalize (w.alloc (.cells #[.complex .f32 0 0, .complex .f32 0 0, .complex .f32 0 0, .complex .f32 0 0, .complex .f32 0 0, .complex .f32 0 0, .complex .f32 0 0, .complex .f32 0 0] 37)).alloc (.cells #[.complex .f32 0 0, .complex .f32 0 0, .complex .f32 0 0, .complex .f32 0 0, .complex .f32 0 0, .complex .f32 0 0, .complex .f32 0 0, .complex .f32 0 0] 37) = w0 at *
  go_loopw [4] (fun c wr => ∃ (k : Nat) (L : List Cx), k ≤ 8 ∧ c = .int .i64 k ∧ Fill B a w L wr) (fun c _ => 8 - (intOf c).toNat)
  case atStart => exact ⟨0, _, Nat.zero_le _, rfl, HF0.out⟩
  case round =>
    clear HF0
    obtain ⟨k, L, hk, rfl, hf⟩ := hrel
    have HF := Lib.hid hf
    clear hf
    by_cases hlt : k < 8
    · have HLT := Lib.hid hlt
      go_wp2_with fail
      refine (l01Below_any B a 2 _ HF.out.cur (by omega) (by omega)).mono ?_
      rintro _ w2 ⟨r, rfl, r0, r1, hc2, hg2⟩
      have HF2 := Lib.hid (HF.out.next HL.out hc2 hg2)
      obtain ⟨z, hz⟩ := getElem?_some (xs := L) (j := k) (by rw [HF.out.len]; exact hlt)
      have hck : w2.cell? ⟨w.heap.size + 1, k, none⟩ = some (.complex .f32 z.1 z.2) := by rw [HF2.out.box.2.1]; exact arrC_get hz
      have hfz : w2.frozen? ⟨w.heap.size + 1, k, none⟩ = false := HF2.out.box.2.2 k
      have HF3 : Hid (Fill B a w (L.set k (floatOfInt .f32 r, 0)) (w2.setCell ⟨w.heap.size + 1, k, none⟩ (.complex .f32 (floatOfInt .f32 r) 0))) := Lib.hid (HF2.out.put HL.out HBW.out k hlt (floatOfInt .f32 r, 0))
      clear hc2 hg2 hz HF HF2
      go_wp2_with fail
      refine (l01Once_any B a 20 _ HF3.out.cur (by omega) (by omega)).mono ?_
      rintro _ w4 ⟨once, rfl, hc4, hg4⟩
      have HF4 := Lib.hid (HF3.out.next HL.out hc4 hg4)
      clear hc4 hg4 HF3 hck hfz
      cases once with
      | false =>
        go_wp2_with fail
        go_roundw
        case rel => exact ⟨k + 1, _, by have := HLT.out; omega, by go_num, HF4.out⟩
        case measure => have := HLT.out; simp [intOf]; omega
      | true =>
        go_wp2_with fail
        refine (l2Any_s B a _ HF4.out.cur).mono ?_
        rintro _ w5 ⟨⟨y1, y2⟩, rfl, hy, hc5, hg5⟩
        have HF5 := Lib.hid (HF4.out.next HL.out hc5 hg5)
        obtain ⟨z', hz'⟩ := getElem?_some (xs := L.set k (floatOfInt .f32 r, 0)) (j := k) (by rw [HF4.out.len]; exact HLT.out)
        have hck : w5.cell? ⟨w.heap.size + 1, k, none⟩ = some (.complex .f32 z'.1 z'.2) := by rw [HF5.out.box.2.1]; exact arrC_get hz'
        have hfz : w5.frozen? ⟨w.heap.size + 1, k, none⟩ = false := HF5.out.box.2.2 k
        have HF6 : Hid (Fill B a w ((L.set k (floatOfInt .f32 r, 0)).set k (y1, y2)) (w5.setCell ⟨w.heap.size + 1, k, none⟩ (.complex .f32 y1 y2))) := Lib.hid (HF5.out.put HL.out HBW.out k HLT.out (y1, y2))
        clear hc5 hg5 hz' hy HF4 HF5
        go_wp2_with fail
        go_roundw
        case rel => exact ⟨k + 1, _, by have := HLT.out; omega, by go_num, HF6.out⟩
        case measure => have := HLT.out; simp [intOf]; omega
    · have hk8 : k = 8 := by omega
      subst hk8
      go_wp2_with fail
      refine (l01Once_any B a 2 _ HF.out.cur (by omega) (by omega)).mono ?_
      rintro _ w4 ⟨once, rfl, hc4, hg4⟩
      have HF4 := Lib.hid (HF.out.next HL.out hc4 hg4)
      clear hc4 hg4 HF
      obtain ⟨F, R', hR⟩ := fr_split (R := L) (by rw [HF4.out.len]; exact Nat.le_refl _)
      have hR' : R' = [] := by
        have h1 := HF4.out.len
        rw [hR, List.length_append, Fr.len] at h1
        exact List.eq_nil_of_length_eq_zero (by omega)
      subst hR'
      rw [List.append_nil] at hR
      subst hR
      obtain ⟨⟨x0, x1⟩, ⟨x2, x3⟩, ⟨x4, x5⟩, ⟨x6, x7⟩, ⟨x8, x9⟩, ⟨x10, x11⟩, ⟨x12, x13⟩, ⟨x14, x15⟩⟩ := F
      have HX4 : Hid (Bx (w.heap.size + 1) #[.complex .f32 x0 x1, .complex .f32 x2 x3, .complex .f32 x4 x5, .complex .f32 x6 x7, .complex .f32 x8 x9, .complex .f32 x10 x11, .complex .f32 x12 x13, .complex .f32 x14 x15] w4) := Lib.hid HF4.out.box
      have HC4 := Lib.hid HF4.out.cur
      have HG4 := Lib.hid HF4.out.grown
      have HR4 := Lib.hid HF4.out.res
      clear HF4
      have c4 := HX4.out.cells
      have f4 := HX4.out.thaw
      have d4 := HR4.out.cells
      have e4 := HR4.out.thaw
      cases once with
      | false =>
        have YS := Lib.hid (HR4.out.set8 (.complex .f32 x0 x1) (.complex .f32 x2 x3) (.complex .f32 x4 x5) (.complex .f32 x6 x7) (.complex .f32 x8 x9) (.complex .f32 x10 x11) (.complex .f32 x12 x13) (.complex .f32 x14 x15))
        have EE := Lib.hid (fill_end HC4.out HG4.out HL.out HBW.out (.complex .f32 x0 x1) (.complex .f32 x2 x3) (.complex .f32 x4 x5) (.complex .f32 x6 x7) (.complex .f32 x8 x9) (.complex .f32 x10 x11) (.complex .f32 x12 x13) (.complex .f32 x14 x15) w.heap.size (Nat.le_refl _))
        go_wp2_with fail
        have d1 := YS.out.cells
        exact bodyPost_ret (v := .agg #[.complex .f32 x0 x1, .complex .f32 x2 x3, .complex .f32 x4 x5, .complex .f32 x6 x7, .complex .f32 x8 x9, .complex .f32 x10 x11, .complex .f32 x12 x13, .complex .f32 x14 x15]) (by simp [results, Try.results48, go_sem, d1]) rfl ⟨⟨(x0, x1), (x2, x3), (x4, x5), (x6, x7), (x8, x9), (x10, x11), (x12, x13), (x14, x15)⟩, rfl, EE.out.1, EE.out.2⟩
      | true =>
        have EE := Lib.hid (fill_end HC4.out HG4.out HL.out HBW.out (.complex .f32 x0 x1) (.complex .f32 x0 x1) (.complex .f32 x2 x3) (.complex .f32 0 0) (.complex .f32 0 0) (.complex .f32 0 0) (.complex .f32 0 0) (.complex .f32 0 0) (w.heap.size + 1) (by omega))
        have XS := HX4.out.set8 (.complex .f32 x0 x1) (.complex .f32 x0 x1) (.complex .f32 x2 x3) (.complex .f32 0 0) (.complex .f32 0 0) (.complex .f32 0 0) (.complex .f32 0 0) (.complex .f32 0 0)
        have sp := (Span.refl (w.heap.size + 1) (w.heap.size + 1 + 1) w4).put8 (b := w.heap.size + 1) ⟨Nat.le_refl _, Nat.lt_succ_self _⟩ (.complex .f32 x0 x1) (.complex .f32 x0 x1) (.complex .f32 x2 x3) (.complex .f32 0 0) (.complex .f32 0 0) (.complex .f32 0 0) (.complex .f32 0 0) (.complex .f32 0 0)
        have RS := HR4.out.span sp (.inr (.inl (by omega)))
        go_upto_region 10 with fail
        generalize hW : ((((((((w4.setCell ⟨w.heap.size + 1, 0, none⟩ (.complex .f32 x0 x1)).setCell ⟨w.heap.size + 1, 1, none⟩ (.complex .f32 x0 x1)).setCell ⟨w.heap.size + 1, 2, none⟩ (.complex .f32 x2 x3)).setCell ⟨w.heap.size + 1, 3, none⟩ (.complex .f32 0 0)).setCell ⟨w.heap.size + 1, 4, none⟩ (.complex .f32 0 0)).setCell ⟨w.heap.size + 1, 5, none⟩ (.complex .f32 0 0)).setCell ⟨w.heap.size + 1, 6, none⟩ (.complex .f32 0 0)).setCell ⟨w.heap.size + 1, 7, none⟩ (.complex .f32 0 0)) = w5 at *
        clear hW c4 f4 d4 e4
        have c5 := XS.cells
        have d5 := RS.cells
        have e5 := RS.thaw
        have YS := Lib.hid (RS.set8 (.complex .f32 x0 x1) (.complex .f32 x0 x1) (.complex .f32 x2 x3) (.complex .f32 0 0) (.complex .f32 0 0) (.complex .f32 0 0) (.complex .f32 0 0) (.complex .f32 0 0))
        have EF := Lib.hid (fill_end EE.out.1 EE.out.2 HL.out HBW.out (.complex .f32 x0 x1) (.complex .f32 x0 x1) (.complex .f32 x2 x3) (.complex .f32 0 0) (.complex .f32 0 0) (.complex .f32 0 0) (.complex .f32 0 0) (.complex .f32 0 0) w.heap.size (Nat.le_refl _))
        clear XS RS sp EE
        go_wp2_with fail
        have d1 := YS.out.cells
        exact bodyPost_ret (v := .agg #[.complex .f32 x0 x1, .complex .f32 x0 x1, .complex .f32 x2 x3, .complex .f32 0 0, .complex .f32 0 0, .complex .f32 0 0, .complex .f32 0 0, .complex .f32 0 0]) (by simp [results, Try.results48, go_sem, d1]) rfl ⟨⟨(x0, x1), (x0, x1), (x2, x3), (0, 0), (0, 0), (0, 0), (0, 0), (0, 0)⟩, rfl, EF.out.1, EF.out.2⟩

/-- Frames are drawn. -/
def DrawnFs (B : Nat) (a : Addr) (w : World) (e : Ending) (w' : World) : Prop :=
  ∃ (A : Option Addr) (q : Nat) (Fs : List Fr), e = .returned (.slice A Fs.length q) ∧ Fs.length ≤ 7 ∧ w'.ownsRow w.heap.size 37 8 (.slice A Fs.length q) Fs.length (flatF Fs) ∧ Cur B w' a ∧ w.grownBy w' (some a.block)

set_option maxRecDepth 100000 in
set_option maxHeartbeats 8000000 in
theorem l4Frames_any (B : Nat) (a : Addr) (w : World) (h : Cur B w a) (hBw : B ≤ w.heap.size) : Calls Try.prog 27 #[.pointer (some a)] w (DrawnFs B a w) := by
  have hlt := Cur.lt h
  obtain ⟨ip, hip, hzp, hsp, hbp⟩ := info_parts info_frame
  have HO : Hid ((w.alloc (.cells #[] 37)).ownsRow w.heap.size 37 8 (.slice (some ⟨w.heap.size, 0, none⟩) 0 0) 0 (flatF [])) :=
    World.ownsRow_made (base := w.heap.size) (e := 37) (size := 8) w #[] 0 (Nat.le_refl _) (Nat.zero_le _) rfl
  have HC := Lib.hid (h.alloc (.cells #[] 37))
  have HG := Lib.hid (World.grownBy_alloc w (.cells #[] 37) (some a.block))
  have HL := Lib.hid hlt
  have HBW := Lib.hid hBw
  clear h hlt hBw
  go_enter Try.func27, Try.ntmps27
  go_wp2_with fail
  refine (l01Below_any B a 8 _ HC.out (by omega) (by omega)).mono ?_
  rintro _ w2 ⟨k0, rfl, k1, k2, hc2, hg2⟩
  have HO2 := Lib.hid (HO.out.kept hg2 (.inr (by simp only [Value.ownBlock]; intro e; injection e with e; have := HL.out; omega)))
  have HC2 := Lib.hid hc2
  have HG2 := Lib.hid (grown_trans HG.out hg2)
  obtain ⟨k0', rfl⟩ := Int.eq_ofNat_of_zero_le k1
  have HK0 := Lib.hid (show k0' ≤ 7 by omega)
  have HZ2 := Lib.hid (show w.heap.size < w2.heap.size by have := hg2.size; simp at this; omega)
  clear hc2 hg2 HO HC HG k1 k2
  go_wp2_with fail
  go_loopw [3, 4] (fun u q wr => ∃ (k : Nat) (Fs : List Fr), Fs.length + k ≤ 7 ∧ q = .int .i64 k ∧ wr.ownsRow w.heap.size 37 8 u Fs.length (flatF Fs) ∧ Cur B wr a ∧ w.grownBy wr (some a.block) ∧ w.heap.size < wr.heap.size) (fun _ q _ => (intOf q).toNat)
  case atStart => exact ⟨k0', [], by simp; exact HK0.out, rfl, HO2.out, HC2.out, HG2.out, HZ2.out⟩
  case round =>
    clear HO2 HC2 HG2 HK0 HZ2
    obtain ⟨k, xs, hk, rfl, ho, hc, hg, hz0⟩ := hrel
    have HZ0 := Lib.hid hz0
    have HK := Lib.hid hk
    have HO := Lib.hid ho
    have HC := Lib.hid hc
    have HG := Lib.hid hg
    have i0 : (k : Int) ≤ 7 := by omega
    clear hk ho hc hg hz0
    by_cases hlt2 : 0 < k
    · go_wp2_with fail
      refine (l4Frame_any B a _ HC.out (by have := HBW.out; have := HZ0.out; omega)).mono ?_
      rintro _ w3 ⟨F, rfl, hc3, hg3⟩
      obtain ⟨⟨x0, x1⟩, ⟨x2, x3⟩, ⟨x4, x5⟩, ⟨x6, x7⟩, ⟨x8, x9⟩, ⟨x10, x11⟩, ⟨x12, x13⟩, ⟨x14, x15⟩⟩ := F
      have HO3 := Lib.hid (HO.out.kept hg3 (.inr (fun e => by have := (HO.out.lt _ e).1; have := HL.out; omega)))
      have HG3 := Lib.hid (grown_trans HG.out hg3)
      have HC3 := Lib.hid hc3
      have HS3 := Lib.hid hg3.size
      clear hc3 hg3 HO HC HG
      unfold frV cxV
      simp only
      go_wp2_with (at_builtin; go_loud (refine wpList_append_own_at _ rfl _ _ 25 rfl w.heap.size 37 ip (.agg #[.complex .f32 0 0, .complex .f32 0 0, .complex .f32 0 0, .complex .f32 0 0, .complex .f32 0 0, .complex .f32 0 0, .complex .f32 0 0, .complex .f32 0 0]) 8 64 Try.underlying25 hip hzp hsp hbp rfl (by decide) _ _ _ rfl (HO3.out.alloc (.cells #[.complex .f32 x0 x1, .complex .f32 x2 x3, .complex .f32 x4 x5, .complex .f32 x6 x7, .complex .f32 x8 x9, .complex .f32 x10 x11, .complex .f32 x12 x13, .complex .f32 x14 x15] 37)) ⟨w3.heap.size, 0, none⟩ 1 1 (frC ⟨(x0, x1), (x2, x3), (x4, x5), (x6, x7), (x8, x9), (x10, x11), (x12, x13), (x14, x15)⟩) rfl rfl ?c1 ?c2 ?c3 ?c4 ?c5 ?_; (case c1 => exact World.news_of_block (heap_alloc_new _ _)); (case c2 => exact fun u hu => flatF_one' (L := [⟨(x0, x1), (x2, x3), (x4, x5), (x6, x7), (x8, x9), (x10, x11), (x12, x13), (x14, x15)⟩]) u (by rw [flatF_one]; exact hu)); (case c3 => have := HK.out; unfold maxLen; omega); (case c4 => have := HK.out; omega); (case c5 => have := HZ0.out; have := HS3.out; simp; omega); intro v1 w5 ho hgr _ _; have HO5 := Lib.hid ho; have HG5 := Lib.hid hgr; clear ho hgr))
      go_roundw
      case rel =>
        have ow := HO3.out
        have hrow : ∀ k', _ = some k' → w.heap.size ≤ k' := fun k' hk' => (ow.lt k' hk').1
        have hlt := HL.out
        have hB := HBW.out
        have hz6 := HG5.out.size
        have hzz := HZ0.out
        have hs3 := HS3.out
        refine ⟨k - 1, xs ++ [⟨(x0, x1), (x2, x3), (x4, x5), (x6, x7), (x8, x9), (x10, x11), (x12, x13), (x14, x15)⟩], by rw [List.length_append, List.length_singleton]; have := HK.out; omega, congrArg (Value.int .i64) (by omega), ?_, (HC3.out.alloc _).grownFar HG5.out (fun k' hk' => by have := hrow k' hk'; exact ⟨by omega, by omega⟩), ?_, by simp at hz6; omega⟩
        · have h := HO5.out
          rw [List.length_append, List.length_singleton, flatF_append, flatF_one]
          exact h
        · have g0 := grown_alloc_other HG3.out (.cells #[.complex .f32 x0 x1, .complex .f32 x2 x3, .complex .f32 x4 x5, .complex .f32 x6 x7, .complex .f32 x8 x9, .complex .f32 x10 x11, .complex .f32 x12 x13, .complex .f32 x14 x15] 37)
          exact ⟨HG5.out.os.trans g0.os, HG5.out.tape.trans g0.tape, HG5.out.output.trans g0.output, Nat.le_trans g0.size HG5.out.size, fun k' hk' hne => (HG5.out.block k' (Nat.lt_of_lt_of_le hk' g0.size) (fun e => by have := hrow k' e.symm; omega)).trans (g0.block k' hk' hne)⟩
      case measure => simp [intOf]; omega
    · have hk0 : k = 0 := by omega
      subst hk0
      obtain ⟨A1, q1, rfl⟩ := ownsRow_slice HO.out
      go_wp2_with fail
      go_ret
      exact ⟨_, _, xs, rfl, by have := HK.out; omega, HO.out, HC.out, HG.out⟩

/-- Frames are made; old memory is as it was. -/
def MakesFr (w : World) (e : Ending) (w' : World) : Prop :=
  ∃ (A : Option Addr) (q : Nat) (Fs : List Fr), e = .returned (.slice A Fs.length q) ∧ Fs.length ≤ 7 ∧ w'.ownsRow w.heap.size 37 8 (.slice A Fs.length q) Fs.length (flatF Fs) ∧ Below w.heap.size w w'

set_option maxRecDepth 100000 in
theorem makeFrames_any (A : Option Addr) (n c : Nat) (w : World) (hn : n ≤ 1048576) (h : HasBy w.heap.size w A n) : Calls Try.prog 9 #[.slice A n c] w (MakesFr w) := by
  have Hn := Lib.hid hn
  clear hn
  go_enter Try.func9, Try.ntmps9
  go_wp2_with fail
  refine (l01New_any A n c w Hn.out h).mono ?_
  rintro _ w1 ⟨a, rfl, ha, hc, hb⟩
  have HA := Lib.hid ha
  have HB := Lib.hid hb
  have HC := Lib.hid hc
  clear ha hb hc h
  go_wp2_with fail
  refine (l4Frames_any w.heap.size a w1 HC.out HB.out.size).mono ?_
  rintro _ w2 ⟨A2, q2, xs, rfl, hl, hx, hc2, hg2⟩
  have HX := Lib.hid hx
  have HL := Lib.hid hl
  have HB2 := Lib.hid (HB.out.grown hg2 HB.out.size (fun k hk => by injection hk with hk; have := HA.out; omega))
  clear hx hl hc2 hg2
  go_wp2_with fail
  go_ret
  exact ⟨_, _, xs, rfl, HL.out, ownsRow_low HX.out HB.out.size, HB2.out⟩
end Go.Proofs.Ytfafkdpefdpnkaa
