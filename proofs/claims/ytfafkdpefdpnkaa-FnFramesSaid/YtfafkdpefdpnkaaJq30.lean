/- Frames turned back. -/
import Derived.Test.YtfafkdpefdpnkaaJq26
import Derived.Outline
namespace Go.Proofs.Ytfafkdpefdpnkaa
open Go.RowKit

/-- Eight samples, of which k at each end have changed places. -/
def revs (x0 x1 x2 x3 x4 x5 x6 x7 x8 x9 x10 x11 x12 x13 x14 x15 : Nat) : Nat → Array Value
  | 0 => #[.complex .f32 x0 x1, .complex .f32 x2 x3, .complex .f32 x4 x5, .complex .f32 x6 x7, .complex .f32 x8 x9, .complex .f32 x10 x11, .complex .f32 x12 x13, .complex .f32 x14 x15]
  | 1 => #[.complex .f32 x14 x15, .complex .f32 x2 x3, .complex .f32 x4 x5, .complex .f32 x6 x7, .complex .f32 x8 x9, .complex .f32 x10 x11, .complex .f32 x12 x13, .complex .f32 x0 x1]
  | 2 => #[.complex .f32 x14 x15, .complex .f32 x12 x13, .complex .f32 x4 x5, .complex .f32 x6 x7, .complex .f32 x8 x9, .complex .f32 x10 x11, .complex .f32 x2 x3, .complex .f32 x0 x1]
  | 3 => #[.complex .f32 x14 x15, .complex .f32 x12 x13, .complex .f32 x10 x11, .complex .f32 x6 x7, .complex .f32 x8 x9, .complex .f32 x4 x5, .complex .f32 x2 x3, .complex .f32 x0 x1]
  | _ => #[.complex .f32 x14 x15, .complex .f32 x12 x13, .complex .f32 x10 x11, .complex .f32 x8 x9, .complex .f32 x6 x7, .complex .f32 x4 x5, .complex .f32 x2 x3, .complex .f32 x0 x1]
theorem revs_size (x0 x1 x2 x3 x4 x5 x6 x7 x8 x9 x10 x11 x12 x13 x14 x15 k : Nat) : (revs x0 x1 x2 x3 x4 x5 x6 x7 x8 x9 x10 x11 x12 x13 x14 x15 k).size = 8 := by match k with | 0 | 1 | 2 | 3 | _ + 4 => rfl
set_option maxRecDepth 100000 in
set_option maxHeartbeats 4000000 in
theorem reverse8 (x0 x1 x2 x3 x4 x5 x6 x7 x8 x9 x10 x11 x12 x13 x14 x15 b : Nat) (w : World) (hb : Bx b #[.complex .f32 x0 x1, .complex .f32 x2 x3, .complex .f32 x4 x5, .complex .f32 x6 x7, .complex .f32 x8 x9, .complex .f32 x10 x11, .complex .f32 x12 x13, .complex .f32 x14 x15] w) : Calls Try.prog 29 #[.slice (some ⟨b, 0, none⟩) 8 8] w fun e w' => e = .returned (.tuple #[]) ∧ Bx b #[.complex .f32 x14 x15, .complex .f32 x12 x13, .complex .f32 x10 x11, .complex .f32 x8 x9, .complex .f32 x6 x7, .complex .f32 x4 x5, .complex .f32 x2 x3, .complex .f32 x0 x1] w' ∧ Span b (b + 1) w w' := by
  have HB : Hid (Bx b (revs x0 x1 x2 x3 x4 x5 x6 x7 x8 x9 x10 x11 x12 x13 x14 x15 0) w) := hb
  clear hb
  go_enter Try.func29, Try.ntmps29
  go_wp2_with fail
  go_loopw [2, 3] (fun i j wr => ∃ k : Nat, k ≤ 4 ∧ i = .int .i64 k ∧ j = .int .i64 (7 - (k : Int)) ∧ Bx b (revs x0 x1 x2 x3 x4 x5 x6 x7 x8 x9 x10 x11 x12 x13 x14 x15 k) wr ∧ Span b (b + 1) w wr) (fun i _ _ => 4 - (intOf i).toNat)
  case atStart => exact ⟨0, Nat.zero_le _, rfl, rfl, HB.out, Span.refl _ _ _⟩
  case round =>
    obtain ⟨k, hk, rfl, rfl, hb, hs⟩ := hrel
    have HS := Lib.hid hs
    clear hs
    match k, hk with
    | 0, _ =>
      have HX : Hid (Bx b #[.complex .f32 x0 x1, .complex .f32 x2 x3, .complex .f32 x4 x5, .complex .f32 x6 x7, .complex .f32 x8 x9, .complex .f32 x10 x11, .complex .f32 x12 x13, .complex .f32 x14 x15] wr) := hb
      have c1 := HX.out.cells
      have f1 := HX.out.thaw
      have HY : Hid (Bx b (revs x0 x1 x2 x3 x4 x5 x6 x7 x8 x9 x10 x11 x12 x13 x14 x15 1) ((wr.setCell ⟨b, 0, none⟩ (.complex .f32 x14 x15)).setCell ⟨b, 7, none⟩ (.complex .f32 x0 x1))) := Lib.hid ((HX.out.set 0 _ (by simp)).set 7 _ (by simp))
      have HZ := Lib.hid ((HS.out.setCell (p := ⟨b, 0, none⟩) (.inl ⟨Nat.le_refl _, Nat.lt_succ_self _⟩) (.complex .f32 x14 x15)).setCell (p := ⟨b, 7, none⟩) (.inl ⟨Nat.le_refl _, Nat.lt_succ_self _⟩) (.complex .f32 x0 x1))
      clear hb
      go_wp2_with fail
      go_region
      all_goals
        go_wp2_with fail
        go_roundw
        case rel => exact ⟨1, by omega, rfl, rfl, HY.out.drewN _, HZ.out.drewN _⟩
        case measure => simp [intOf]
    | 1, _ =>
      have HX : Hid (Bx b #[.complex .f32 x14 x15, .complex .f32 x2 x3, .complex .f32 x4 x5, .complex .f32 x6 x7, .complex .f32 x8 x9, .complex .f32 x10 x11, .complex .f32 x12 x13, .complex .f32 x0 x1] wr) := hb
      have c1 := HX.out.cells
      have f1 := HX.out.thaw
      have HY : Hid (Bx b (revs x0 x1 x2 x3 x4 x5 x6 x7 x8 x9 x10 x11 x12 x13 x14 x15 2) ((wr.setCell ⟨b, 1, none⟩ (.complex .f32 x12 x13)).setCell ⟨b, 6, none⟩ (.complex .f32 x2 x3))) := Lib.hid ((HX.out.set 1 _ (by simp)).set 6 _ (by simp))
      have HZ := Lib.hid ((HS.out.setCell (p := ⟨b, 1, none⟩) (.inl ⟨Nat.le_refl _, Nat.lt_succ_self _⟩) (.complex .f32 x12 x13)).setCell (p := ⟨b, 6, none⟩) (.inl ⟨Nat.le_refl _, Nat.lt_succ_self _⟩) (.complex .f32 x2 x3))
      clear hb
      go_wp2_with fail
      go_region
      all_goals
        go_wp2_with fail
        go_roundw
        case rel => exact ⟨2, by omega, rfl, rfl, HY.out.drewN _, HZ.out.drewN _⟩
        case measure => simp [intOf]
    | 2, _ =>
      have HX : Hid (Bx b #[.complex .f32 x14 x15, .complex .f32 x12 x13, .complex .f32 x4 x5, .complex .f32 x6 x7, .complex .f32 x8 x9, .complex .f32 x10 x11, .complex .f32 x2 x3, .complex .f32 x0 x1] wr) := hb
      have c1 := HX.out.cells
      have f1 := HX.out.thaw
      have HY : Hid (Bx b (revs x0 x1 x2 x3 x4 x5 x6 x7 x8 x9 x10 x11 x12 x13 x14 x15 3) ((wr.setCell ⟨b, 2, none⟩ (.complex .f32 x10 x11)).setCell ⟨b, 5, none⟩ (.complex .f32 x4 x5))) := Lib.hid ((HX.out.set 2 _ (by simp)).set 5 _ (by simp))
      have HZ := Lib.hid ((HS.out.setCell (p := ⟨b, 2, none⟩) (.inl ⟨Nat.le_refl _, Nat.lt_succ_self _⟩) (.complex .f32 x10 x11)).setCell (p := ⟨b, 5, none⟩) (.inl ⟨Nat.le_refl _, Nat.lt_succ_self _⟩) (.complex .f32 x4 x5))
      clear hb
      go_wp2_with fail
      go_region
      all_goals
        go_wp2_with fail
        go_roundw
        case rel => exact ⟨3, by omega, rfl, rfl, HY.out.drewN _, HZ.out.drewN _⟩
        case measure => simp [intOf]
    | 3, _ =>
      have HX : Hid (Bx b #[.complex .f32 x14 x15, .complex .f32 x12 x13, .complex .f32 x10 x11, .complex .f32 x6 x7, .complex .f32 x8 x9, .complex .f32 x4 x5, .complex .f32 x2 x3, .complex .f32 x0 x1] wr) := hb
      have c1 := HX.out.cells
      have f1 := HX.out.thaw
      have HY : Hid (Bx b (revs x0 x1 x2 x3 x4 x5 x6 x7 x8 x9 x10 x11 x12 x13 x14 x15 4) ((wr.setCell ⟨b, 3, none⟩ (.complex .f32 x8 x9)).setCell ⟨b, 4, none⟩ (.complex .f32 x6 x7))) := Lib.hid ((HX.out.set 3 _ (by simp)).set 4 _ (by simp))
      have HZ := Lib.hid ((HS.out.setCell (p := ⟨b, 3, none⟩) (.inl ⟨Nat.le_refl _, Nat.lt_succ_self _⟩) (.complex .f32 x8 x9)).setCell (p := ⟨b, 4, none⟩) (.inl ⟨Nat.le_refl _, Nat.lt_succ_self _⟩) (.complex .f32 x6 x7))
      clear hb
      go_wp2_with fail
      go_region
      all_goals
        go_wp2_with fail
        go_roundw
        case rel => exact ⟨4, by omega, rfl, rfl, HY.out.drewN _, HZ.out.drewN _⟩
        case measure => simp [intOf]
    | 4, _ =>
      have HX : Hid (Bx b #[.complex .f32 x14 x15, .complex .f32 x12 x13, .complex .f32 x10 x11, .complex .f32 x8 x9, .complex .f32 x6 x7, .complex .f32 x4 x5, .complex .f32 x2 x3, .complex .f32 x0 x1] wr) := hb
      clear hb
      go_wp2_with fail
      exact bodyPost_end (v := .tuple #[]) (by simp [results, Try.results29, go_sem]) rfl ⟨rfl, HX.out, HS.out⟩
    | k + 5, h => exact absurd h (by omega)

def Fr.rev (F : Fr) : Fr := ⟨F.h, F.g, F.f, F.e, F.d, F.c, F.b, F.a⟩
theorem Fr.rev_rev (F : Fr) : F.rev.rev = F := rfl

set_option maxRecDepth 100000 in
set_option maxHeartbeats 2000000 in
theorem turnBack_any (F : Fr) (w : World) : Calls Try.prog 14 #[frV F] w fun e w' => e = .returned (frV F.rev) ∧ Span 0 0 w w' := by
  obtain ⟨⟨x0, x1⟩, ⟨x2, x3⟩, ⟨x4, x5⟩, ⟨x6, x7⟩, ⟨x8, x9⟩, ⟨x10, x11⟩, ⟨x12, x13⟩, ⟨x14, x15⟩⟩ := F
  show Calls Try.prog 14 #[.agg #[.complex .f32 x0 x1, .complex .f32 x2 x3, .complex .f32 x4 x5, .complex .f32 x6 x7, .complex .f32 x8 x9, .complex .f32 x10 x11, .complex .f32 x12 x13, .complex .f32 x14 x15]] w fun e w' => e = .returned (.agg #[.complex .f32 x14 x15, .complex .f32 x12 x13, .complex .f32 x10 x11, .complex .f32 x8 x9, .complex .f32 x6 x7, .complex .f32 x4 x5, .complex .f32 x2 x3, .complex .f32 x0 x1]) ∧ Span 0 0 w w'
  have X1 := Lib.hid ((Bx.new w #[.complex .f32 x0 x1, .complex .f32 x2 x3, .complex .f32 x4 x5, .complex .f32 x6 x7, .complex .f32 x8 x9, .complex .f32 x10 x11, .complex .f32 x12 x13, .complex .f32 x14 x15] 37).alloc (.cells #[.complex .f32 0 0, .complex .f32 0 0, .complex .f32 0 0, .complex .f32 0 0, .complex .f32 0 0, .complex .f32 0 0, .complex .f32 0 0, .complex .f32 0 0] 37))
  have Y1 := Bx.new (w.alloc (.cells #[.complex .f32 x0 x1, .complex .f32 x2 x3, .complex .f32 x4 x5, .complex .f32 x6 x7, .complex .f32 x8 x9, .complex .f32 x10 x11, .complex .f32 x12 x13, .complex .f32 x14 x15] 37)) #[.complex .f32 0 0, .complex .f32 0 0, .complex .f32 0 0, .complex .f32 0 0, .complex .f32 0 0, .complex .f32 0 0, .complex .f32 0 0, .complex .f32 0 0] 37
  rw [show (w.alloc (.cells #[.complex .f32 x0 x1, .complex .f32 x2 x3, .complex .f32 x4 x5, .complex .f32 x6 x7, .complex .f32 x8 x9, .complex .f32 x10 x11, .complex .f32 x12 x13, .complex .f32 x14 x15] 37)).heap.size = w.heap.size + 1 by simp] at Y1
  have Y1 := Lib.hid Y1
  have HSP := Lib.hid (((Span.refl 0 0 w).alloc (.cells #[.complex .f32 x0 x1, .complex .f32 x2 x3, .complex .f32 x4 x5, .complex .f32 x6 x7, .complex .f32 x8 x9, .complex .f32 x10 x11, .complex .f32 x12 x13, .complex .f32 x14 x15] 37)).alloc (.cells #[.complex .f32 0 0, .complex .f32 0 0, .complex .f32 0 0, .complex .f32 0 0, .complex .f32 0 0, .complex .f32 0 0, .complex .f32 0 0, .complex .f32 0 0] 37))
  go_enter Try.func14, Try.ntmps14
  go_wp2_with fail
  refine (reverse8 x0 x1 x2 x3 x4 x5 x6 x7 x8 x9 x10 x11 x12 x13 x14 x15 w.heap.size _ X1.out).mono ?_
  rintro _ w2 ⟨rfl, b2, s2⟩
  have X2 := Lib.hid b2
  have Y2 := Y1.out.span s2 (.inr (.inr (Nat.le_refl _)))
  have S2 : Hid (Span 0 0 w w2) := Lib.hid ⟨s2.os.trans HSP.out.os, s2.tape.trans HSP.out.tape, s2.output.trans HSP.out.output, Nat.le_trans HSP.out.size s2.size, fun k hk hn => (s2.block k (Nat.lt_of_lt_of_le hk HSP.out.size) (by omega)).trans (HSP.out.block k hk hn)⟩
  have c2 := X2.out.cells
  have d2 := Y2.cells
  have h2 := Y2.thaw
  have Y4 := Lib.hid (Y2.set8 (.complex .f32 x14 x15) (.complex .f32 x12 x13) (.complex .f32 x10 x11) (.complex .f32 x8 x9) (.complex .f32 x6 x7) (.complex .f32 x4 x5) (.complex .f32 x2 x3) (.complex .f32 x0 x1))
  have S3 := Lib.hid (S2.out.set8 (b := w.heap.size + 1) (by omega) (.complex .f32 x14 x15) (.complex .f32 x12 x13) (.complex .f32 x10 x11) (.complex .f32 x8 x9) (.complex .f32 x6 x7) (.complex .f32 x4 x5) (.complex .f32 x2 x3) (.complex .f32 x0 x1))
  clear b2 s2 Y2
  go_wp2_with fail
  have d1 := Y4.out.cells
  exact bodyPost_ret (v := .agg #[.complex .f32 x14 x15, .complex .f32 x12 x13, .complex .f32 x10 x11, .complex .f32 x8 x9, .complex .f32 x6 x7, .complex .f32 x4 x5, .complex .f32 x2 x3, .complex .f32 x0 x1]) (by simp [results, Try.results14, go_sem, d1]) rfl ⟨rfl, S3.out⟩
end Go.Proofs.Ytfafkdpefdpnkaa
