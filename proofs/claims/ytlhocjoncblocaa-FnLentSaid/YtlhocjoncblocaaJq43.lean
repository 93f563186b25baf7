/- The program's pools: GiveBack. -/
import Derived.Test.YtlhocjoncblocaaJq42
namespace Go.Proofs.Ytlhocjoncblocaa
open Go.RowKit

set_option maxRecDepth 100000 in
set_option maxHeartbeats 4000000 in
theorem impl_giveBack (p : Pl) (id : Nat) (lo hi : Nat) (v : Value) (w : World) (hx : HasP lo hi w v p) (hp : VP p) (hid : id ≤ 4194304) :
    Calls Try.prog 23 #[v, .int .i64 (id : Int)] w (GivesQ (giveP p id) w) := by
  have HX := Lib.hid hx
  have HV := Lib.hid hp
  obtain ⟨AS, cS, AL, cL, rfl⟩ := hx.form
  have X0 := Lib.hid ((Box.new w (.slice AS p.1.length cS) (.slice AL p.2.length cL) 26).alloc (.cells #[.slice none 0 0, .slice none 0 0] 26))
  have X1 := Lib.hid (Box.new (w.alloc (.cells #[.slice AS p.1.length cS, .slice AL p.2.length cL] 26)) (.slice none 0 0) (.slice none 0 0) 26)
  rw [show (w.alloc (.cells #[.slice AS p.1.length cS, .slice AL p.2.length cL] 26)).heap.size = w.heap.size + 1 by simp] at X1
  have HS := Lib.hid (((Span.refl 0 0 w).alloc (.cells #[.slice AS p.1.length cS, .slice AL p.2.length cL] 26)).alloc (.cells #[.slice none 0 0, .slice none 0 0] 26))
  clear hx hp
  go_enter Try.func23, Try.ntmps23
  go_wp2_with fail
  refine (isLent_any p id lo hi _ _ (HX.out.span HS.out (.inl (Nat.le_refl _))) HV.out hid).mono ?_
  rintro _ w1 ⟨rfl, s1⟩
  have Y0 := Lib.hid (X0.out.span s1 (.inl (Nat.le_refl _)))
  have Y1 := Lib.hid (X1.out.span s1 (.inl (Nat.le_refl _)))
  have S1 := Lib.hid (s1.after HS.out)
  clear s1 X0 X1 HS
  cases hl : lentAt p id with
  | none =>
    have HG : Hid (giveP p id = none) := by unfold Hid giveP; rw [hl]; rfl
    obtain ⟨_, y0, y1, y2, y3⟩ := Y1.out
    have HB := Lib.hid (box_stored (u' := .slice none 0 0) (v' := .slice none 0 0) Y1.out)
    have HSF := Lib.hid ((S1.out.setCell (p := ⟨w.heap.size + 1, 0, none⟩) (.inr (by simp only; omega)) (.slice none 0 0)).setCell (p := ⟨w.heap.size + 1, 1, none⟩) (.inr (by simp only; omega)) (.slice none 0 0))
    simp only [Option.isSome_none]
    clear hl
    go_wp2_with fail
    refine bodyPost_ret (v := .tuple #[.agg #[.slice none 0 0, .slice none 0 0], .bool false]) (by simp [results, Try.results23, go_sem, HB.out.1, HB.out.2]) rfl ?_
    rw [HG.out]
    exact ⟨rfl, HSF.out⟩
  | some x =>
    have HG : Hid (giveP p id = some (p.1, p.2.set id freeL)) := by unfold Hid giveP; rw [hl]; rfl
    have HL := Lib.hid (lentAt_some hl)
    have HIL : Hid (id < p.2.length) := (List.getElem?_eq_some_iff.1 HL.out.1).1
    simp only [Option.isSome_some]
    clear hl
    obtain ⟨_, x0, x1, _, _⟩ := Y0.out
    go_wp2_with fail
    refine (copyPool_own p lo hi _ _ (HX.out.span S1.out (.inl (Nat.le_refl _))) (by have := HV.out.size; omega) (by have := HV.out.most; omega)).mono ?_
    rintro _ w3 ⟨A1, q1, A2, q2, rfl, ho1, ho2, s3⟩
    have HRB : Hid (w.heap.size + 1 < w1.heap.size) := Y1.out.1
    have HO := Lib.hid (Own.new (Y1.out.span s3 (.inl (Nat.le_refl _))) ho1 ho2 (s3.after S1.out))
    clear ho1 ho2 s3 Y0 Y1 S1 x0 x1
    obtain ⟨g, rfl, ⟨l0, l1, l2, l3⟩, hfz⟩ := HO.out.lease HL.out.1
    have f0 := hfz (id * 4)
    have f1 := hfz (id * 4 + 1)
    have f2 := hfz (id * 4 + 2)
    have f3 := hfz (id * 4 + 3)
    obtain ⟨_, t0, t1, _, _⟩ := HO.out.t
    have i0 : (0 : Int) ≤ (id : Int) := by omega
    have i1 : (id : Int) < (p.2.length : Int) := by have := HIL.out; omega
    clear hfz
    go_upto_region 5 with fail
    obtain ⟨wS, hwS⟩ : ∃ wS, wS = ((((w3.alloc (.cells #[.slice A1 p.1.length q1, .slice (some ⟨g, 0, none⟩) p.2.length q2] 26)).setCell ⟨g, id * 4, none⟩ (.int .i64 0)).setCell ⟨g, id * 4 + 1, none⟩ (.int .i64 0)).setCell ⟨g, id * 4 + 2, none⟩ (.int .i64 0)).setCell ⟨g, id * 4 + 3, none⟩ (.bool true) := ⟨_, rfl⟩
    rw [← hwS]
    have HOS := Lib.hid (HO.out.setL HRB.out (by have := HRB.out; omega) freeL HIL.out hwS)
    have HLS : Hid ((p.2.set id freeL).length = p.2.length) := List.length_set ..
    clear hwS l0 l1 l2 l3 f0 f1 f2 f3 t0 t1
    obtain ⟨_, t0, t1, _, _⟩ := HOS.out.t
    obtain ⟨_, y0, y1, y2, y3⟩ := HOS.out.r
    have HB := Lib.hid (box_stored (u' := .slice A1 p.1.length q1) (v' := .slice (some ⟨g, 0, none⟩) (p.2.set id freeL).length q2) HOS.out.r)
    have HR := Lib.hid (HOS.out.result HRB.out (by omega))
    rw [HLS.out] at HR HB t1
    go_wp2_with fail
    refine bodyPost_ret (v := .tuple #[.agg #[.slice A1 p.1.length q1, .slice (some ⟨g, 0, none⟩) p.2.length q2], .bool true]) (by simp [results, Try.results23, go_sem, HB.out.1, HB.out.2]) rfl ?_
    rw [HG.out]
    exact ⟨⟨_, rfl, HR.out.1⟩, HR.out.2⟩
end Go.Proofs.Ytlhocjoncblocaa
