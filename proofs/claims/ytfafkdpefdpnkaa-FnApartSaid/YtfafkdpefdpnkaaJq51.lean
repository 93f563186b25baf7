/- The program's pools: CompactPool, whose store the call owns. -/
import Derived.Test.YtfafkdpefdpnkaaJq50
import Derived.Test.YtfafkdpefdpnkaaJq44
import Derived.Deep.RegionHeld3
namespace Go.Proofs.Ytfafkdpefdpnkaa
open Go.RowKit

/-- A compact pool is given. -/
def CompSo (p : Pl) (w : World) (e : Ending) (w' : World) : Prop :=
  ∃ (o : List Nat) (A : Option Addr) (q : Nat) (A2 : Option Addr) (q2 : Nat) (b : Nat), e = .returned (.agg #[.slice A (compP p o).1.length q, .slice A2 (compP p o).2.length q2]) ∧ HasS cxV true b w.heap.size w'.heap.size w' (.slice A (compP p o).1.length q) (compP p o).1 ∧ (compP p o).1.length ≤ 256 ∧ Span 0 0 w w'

set_option maxRecDepth 100000 in
set_option maxHeartbeats 4000000 in
theorem impl_compactPoolO (p : Pl) (lo hi : Nat) (v : Value) (w : World) (hx : HasP lo hi w v p) (hp : VP p) :
    Calls Try.prog 20 #[v] w (CompSo p w) := by
  have HX := Lib.hid hx
  have HV := Lib.hid hp
  obtain ⟨b1, b2, vS, vL, rfl, g1, g2⟩ := hx
  have G1 := Lib.hid g1
  obtain ⟨AS, cS, rfl, hcap, _⟩ := g1
  have G2 := Lib.hid g2
  obtain ⟨AL, cL, rfl, _, _⟩ := g2
  obtain ⟨n, hn⟩ : ∃ n, n = p.1.length := ⟨_, rfl⟩
  obtain ⟨ll, hll⟩ : ∃ n, n = p.2.length := ⟨_, rfl⟩
  have HNN := Lib.hid hn
  have HLL := Lib.hid hll
  have HCAP : Hid (n ≤ cS ∧ n ≤ 256 ∧ ll ≤ 16) := ⟨by omega, by rw [hn]; exact hp.size, by rw [hll]; exact hp.most⟩
  have hn256 := HCAP.out.2.1
  rw [← hn, ← hll] at HX
  rw [← hll] at G2
  rw [← hn] at G1
  rw [← hn, ← hll]
  have X0 := Lib.hid ((Bx.new w #[.slice AS n cS, .slice AL ll cL] 45).alloc (.cells #[.slice none 0 0, .slice none 0 0] 45))
  have X1 := Lib.hid (Box.new (w.alloc (.cells #[.slice AS n cS, .slice AL ll cL] 45)) (.slice none 0 0) (.slice none 0 0) 45)
  rw [show (w.alloc (.cells #[.slice AS n cS, .slice AL ll cL] 45)).heap.size = w.heap.size + 1 by simp] at X1
  have HS := Lib.hid (((Span.refl 0 0 w).alloc (.cells #[.slice AS n cS, .slice AL ll cL] 45)).alloc (.cells #[.slice none 0 0, .slice none 0 0] 45))
  have cx := X0.out.cells
  clear hp hn hll hcap
  go_enter Try.func20, Try.ntmps20
  go_wp2_with fail
  refine (isPool_true p lo hi _ _ (HX.out.span HS.out (.inl (Nat.le_refl _))) HV.out).mono ?_
  rintro _ w1 ⟨rfl, s1⟩
  have Y0 := Lib.hid (X0.out.keep s1)
  have Y1 := Lib.hid (X1.out.span s1 (.inl (Nat.le_refl _)))
  have S1 := Lib.hid (s1.after HS.out)
  clear s1 cx X0 X1 HS
  have cx := Y0.out.cells
  have cxA := Y0.out.cellsA
  have hmk := fun W => run_make_zeros (P := Try.prog) W 23 35 (.complex .f32 0 0) 8 Try.underlying23 info_c64 rfl n (by omega) (by omega)
  have HMK := Lib.hid hmk
  clear cx cxA hmk
  go_upto_region 3 with fail
  go_cut [3] (fun s3 wx => CompRel w w1 AS cS AL cL n ll p s3 wx)
  case first =>
    have k0 := Y0.out.two
    have k1 := fun o => (Y0.out.alloc o).two
    have k2 := fun o1 o2 => ((Y0.out.alloc o1).alloc o2).two
    have d0 := Y0.out.twoD
    have d1 := fun o => (Y0.out.alloc o).twoD
    have d2 := fun o1 o2 => ((Y0.out.alloc o1).alloc o2).twoD
    have hmk := HMK.out
    have HWW : Hid (w.heap.size < w1.heap.size) := Y0.out.1
    have HIN : Hid (CompIn w w1 AS cS AL cL n ll p) := ⟨Y1.out, S1.out, Y0.out, HLL.out, by have := HCAP.out; omega⟩
    have BZ : Hid (Bx (w1.heap.size + 1) #[.slice none 0 0, .slice none 0 0] ((w1.alloc (.cells (zerosV (.complex .f32 0 0) n) 35)).alloc (.cells #[.slice none 0 0, .slice none 0 0] 45))) := by
      have := Bx.new (w1.alloc (.cells (zerosV (.complex .f32 0 0) n) 35)) #[.slice none 0 0, .slice none 0 0] 45
      rw [show (w1.alloc (.cells (zerosV (.complex .f32 0 0) n) 35)).heap.size = w1.heap.size + 1 by simp] at this
      exact this
    go_region_held3 (fun w' => w'.cell? ⟨w.heap.size, 0, none⟩ = some (.slice AS n cS) ∧ w'.cell? ⟨w.heap.size, 1, none⟩ = some (.slice AL ll cL))
      (first
        | with_reducible exact d0
        | with_reducible exact d1 _
        | with_reducible exact d2 _ _
        | with_reducible exact d3
        | with_reducible exact d4 _
        | with_reducible exact d5 _ _
        | ((with_reducible refine d6 _ ?_ _ _); omega)
        | ((with_reducible refine d7 _ _ ?_ _ _); omega)
        | with_reducible exact k0
        | with_reducible exact k1 _
        | with_reducible exact k2 _ _
        | with_reducible exact k3
        | with_reducible exact k4 _
        | with_reducible exact k5 _ _
        | ((with_reducible refine k6 _ ?_ _ _); omega)
        | ((with_reducible refine k7 _ _ ?_ _ _); omega))
      ((first
      | (go_at_call 38; refine (cloneL_own p.2 b2 lo hi _ (w1.drew) (G2.out.span (S1.out.drew) (.inl (Nat.le_refl _))) (by rw [← HLL.out]; have := HCAP.out; omega)).mono ?_; rintro _ w2 ⟨A2, q2, rfl, h2, s2⟩; rw [← HLL.out] at h2 ⊢; have S2a := Lib.hid (show Span 0 0 w1 w2 from s2.undrawn' (n := 1)); have H2a := Lib.hid (show w2.ownsRow w1.heap.size 68 4 (.slice A2 ll q2) ll (flat p.2) from h2); have Y2 := Lib.hid (Y0.out.keep S2a.out); have k3 := Y2.out.two; have k4 := fun o => (Y2.out.alloc o).two; have k5 := fun o1 o2 => ((Y2.out.alloc o1).alloc o2).two; have k6 := fun (T : Nat) (hT : w1.heap.size ≤ T) (x y : Value) => (((Y2.out.other (a := ⟨T, 0, none⟩) (Nat.ne_of_gt (Nat.lt_of_lt_of_le HWW.out hT)) x).other (a := ⟨T, 1, none⟩) (Nat.ne_of_gt (Nat.lt_of_lt_of_le HWW.out hT)) y)).two; have k7 := fun (o : Obj) (T : Nat) (hT : w1.heap.size ≤ T) (x y : Value) => ((((Y2.out.alloc o).other (a := ⟨T, 0, none⟩) (Nat.ne_of_gt (Nat.lt_of_lt_of_le HWW.out hT)) x).other (a := ⟨T, 1, none⟩) (Nat.ne_of_gt (Nat.lt_of_lt_of_le HWW.out hT)) y)).two; have d3 := Y2.out.twoD; have d4 := fun o => (Y2.out.alloc o).twoD; have d5 := fun o1 o2 => ((Y2.out.alloc o1).alloc o2).twoD; have d6 := fun (T : Nat) (hT : w1.heap.size ≤ T) (x y : Value) => (((Y2.out.other (a := ⟨T, 0, none⟩) (Nat.ne_of_gt (Nat.lt_of_lt_of_le HWW.out hT)) x).other (a := ⟨T, 1, none⟩) (Nat.ne_of_gt (Nat.lt_of_lt_of_le HWW.out hT)) y)).twoD; have d7 := fun (o : Obj) (T : Nat) (hT : w1.heap.size ≤ T) (x y : Value) => ((((Y2.out.alloc o).other (a := ⟨T, 0, none⟩) (Nat.ne_of_gt (Nat.lt_of_lt_of_le HWW.out hT)) x).other (a := ⟨T, 1, none⟩) (Nat.ne_of_gt (Nat.lt_of_lt_of_le HWW.out hT)) y)).twoD; clear h2 s2)
      | (go_at_call 38; refine (cloneL_own p.2 b2 lo hi _ ((w1.alloc (.cells (zerosV (.complex .f32 0 0) n) 35)).drew) (G2.out.span ((S1.out.alloc (.cells (zerosV (.complex .f32 0 0) n) 35)).drew) (.inl (Nat.le_refl _))) (by rw [← HLL.out]; have := HCAP.out; omega)).mono ?_; rintro _ w2 ⟨A2, q2, rfl, h2, s2⟩; rw [← HLL.out] at h2 ⊢; have S2b := Lib.hid (show Span 0 0 (w1.alloc (.cells (zerosV (.complex .f32 0 0) n) 35)) w2 from s2.undrawn' (n := 1)); have H2b := Lib.hid (show w2.ownsRow (w1.alloc (.cells (zerosV (.complex .f32 0 0) n) 35)).heap.size 68 4 (.slice A2 ll q2) ll (flat p.2) from h2); have Y2 := Lib.hid ((Y0.out.alloc (.cells (zerosV (.complex .f32 0 0) n) 35)).keep S2b.out); have k3 := Y2.out.two; have k4 := fun o => (Y2.out.alloc o).two; have k5 := fun o1 o2 => ((Y2.out.alloc o1).alloc o2).two; have k6 := fun (T : Nat) (hT : w1.heap.size ≤ T) (x y : Value) => (((Y2.out.other (a := ⟨T, 0, none⟩) (Nat.ne_of_gt (Nat.lt_of_lt_of_le HWW.out hT)) x).other (a := ⟨T, 1, none⟩) (Nat.ne_of_gt (Nat.lt_of_lt_of_le HWW.out hT)) y)).two; have k7 := fun (o : Obj) (T : Nat) (hT : w1.heap.size ≤ T) (x y : Value) => ((((Y2.out.alloc o).other (a := ⟨T, 0, none⟩) (Nat.ne_of_gt (Nat.lt_of_lt_of_le HWW.out hT)) x).other (a := ⟨T, 1, none⟩) (Nat.ne_of_gt (Nat.lt_of_lt_of_le HWW.out hT)) y)).two; have d3 := Y2.out.twoD; have d4 := fun o => (Y2.out.alloc o).twoD; have d5 := fun o1 o2 => ((Y2.out.alloc o1).alloc o2).twoD; have d6 := fun (T : Nat) (hT : w1.heap.size ≤ T) (x y : Value) => (((Y2.out.other (a := ⟨T, 0, none⟩) (Nat.ne_of_gt (Nat.lt_of_lt_of_le HWW.out hT)) x).other (a := ⟨T, 1, none⟩) (Nat.ne_of_gt (Nat.lt_of_lt_of_le HWW.out hT)) y)).twoD; have d7 := fun (o : Obj) (T : Nat) (hT : w1.heap.size ≤ T) (x y : Value) => ((((Y2.out.alloc o).other (a := ⟨T, 0, none⟩) (Nat.ne_of_gt (Nat.lt_of_lt_of_le HWW.out hT)) x).other (a := ⟨T, 1, none⟩) (Nat.ne_of_gt (Nat.lt_of_lt_of_le HWW.out hT)) y)).twoD; clear h2 s2)
      | (go_at_call 38; refine (cloneL_own p.2 b2 lo hi _ ((w1.alloc (.cells #[.slice none 0 0, .slice none 0 0] 45)).drew) (G2.out.span ((S1.out.alloc (.cells #[.slice none 0 0, .slice none 0 0] 45)).drew) (.inl (Nat.le_refl _))) (by rw [← HLL.out]; have := HCAP.out; omega)).mono ?_; rintro _ w2 ⟨A2, q2, rfl, h2, s2⟩; rw [← HLL.out] at h2 ⊢; have S2c := Lib.hid (show Span 0 0 (w1.alloc (.cells #[.slice none 0 0, .slice none 0 0] 45)) w2 from s2.undrawn' (n := 1)); have H2c := Lib.hid (show w2.ownsRow (w1.alloc (.cells #[.slice none 0 0, .slice none 0 0] 45)).heap.size 68 4 (.slice A2 ll q2) ll (flat p.2) from h2); have Y2 := Lib.hid ((Y0.out.alloc (.cells #[.slice none 0 0, .slice none 0 0] 45)).keep S2c.out); have k3 := Y2.out.two; have k4 := fun o => (Y2.out.alloc o).two; have k5 := fun o1 o2 => ((Y2.out.alloc o1).alloc o2).two; have k6 := fun (T : Nat) (hT : w1.heap.size ≤ T) (x y : Value) => (((Y2.out.other (a := ⟨T, 0, none⟩) (Nat.ne_of_gt (Nat.lt_of_lt_of_le HWW.out hT)) x).other (a := ⟨T, 1, none⟩) (Nat.ne_of_gt (Nat.lt_of_lt_of_le HWW.out hT)) y)).two; have k7 := fun (o : Obj) (T : Nat) (hT : w1.heap.size ≤ T) (x y : Value) => ((((Y2.out.alloc o).other (a := ⟨T, 0, none⟩) (Nat.ne_of_gt (Nat.lt_of_lt_of_le HWW.out hT)) x).other (a := ⟨T, 1, none⟩) (Nat.ne_of_gt (Nat.lt_of_lt_of_le HWW.out hT)) y)).two; have d3 := Y2.out.twoD; have d4 := fun o => (Y2.out.alloc o).twoD; have d5 := fun o1 o2 => ((Y2.out.alloc o1).alloc o2).twoD; have d6 := fun (T : Nat) (hT : w1.heap.size ≤ T) (x y : Value) => (((Y2.out.other (a := ⟨T, 0, none⟩) (Nat.ne_of_gt (Nat.lt_of_lt_of_le HWW.out hT)) x).other (a := ⟨T, 1, none⟩) (Nat.ne_of_gt (Nat.lt_of_lt_of_le HWW.out hT)) y)).twoD; have d7 := fun (o : Obj) (T : Nat) (hT : w1.heap.size ≤ T) (x y : Value) => ((((Y2.out.alloc o).other (a := ⟨T, 0, none⟩) (Nat.ne_of_gt (Nat.lt_of_lt_of_le HWW.out hT)) x).other (a := ⟨T, 1, none⟩) (Nat.ne_of_gt (Nat.lt_of_lt_of_le HWW.out hT)) y)).twoD; have XT := Lib.hid (show Bx w1.heap.size #[.slice none 0 0, .slice none 0 0] w2 from ((Bx.new w1 #[.slice none 0 0, .slice none 0 0] 45)).keep S2c.out); have xc := XT.out.cells; have xf := XT.out.thaw; have xc1 := XT.out.cellsA; have xf1 := XT.out.thawA; clear h2 s2)
      | (go_at_call 38; refine (cloneL_own p.2 b2 lo hi _ (((w1.alloc (.cells (zerosV (.complex .f32 0 0) n) 35)).alloc (.cells #[.slice none 0 0, .slice none 0 0] 45)).drew) (G2.out.span (((S1.out.alloc (.cells (zerosV (.complex .f32 0 0) n) 35)).alloc (.cells #[.slice none 0 0, .slice none 0 0] 45)).drew) (.inl (Nat.le_refl _))) (by rw [← HLL.out]; have := HCAP.out; omega)).mono ?_; rintro _ w2 ⟨A2, q2, rfl, h2, s2⟩; rw [← HLL.out] at h2 ⊢; have S2d := Lib.hid (show Span 0 0 ((w1.alloc (.cells (zerosV (.complex .f32 0 0) n) 35)).alloc (.cells #[.slice none 0 0, .slice none 0 0] 45)) w2 from s2.undrawn' (n := 1)); have H2d := Lib.hid (show w2.ownsRow ((w1.alloc (.cells (zerosV (.complex .f32 0 0) n) 35)).alloc (.cells #[.slice none 0 0, .slice none 0 0] 45)).heap.size 68 4 (.slice A2 ll q2) ll (flat p.2) from h2); have Y2 := Lib.hid (((Y0.out.alloc (.cells (zerosV (.complex .f32 0 0) n) 35)).alloc (.cells #[.slice none 0 0, .slice none 0 0] 45)).keep S2d.out); have k3 := Y2.out.two; have k4 := fun o => (Y2.out.alloc o).two; have k5 := fun o1 o2 => ((Y2.out.alloc o1).alloc o2).two; have k6 := fun (T : Nat) (hT : w1.heap.size ≤ T) (x y : Value) => (((Y2.out.other (a := ⟨T, 0, none⟩) (Nat.ne_of_gt (Nat.lt_of_lt_of_le HWW.out hT)) x).other (a := ⟨T, 1, none⟩) (Nat.ne_of_gt (Nat.lt_of_lt_of_le HWW.out hT)) y)).two; have k7 := fun (o : Obj) (T : Nat) (hT : w1.heap.size ≤ T) (x y : Value) => ((((Y2.out.alloc o).other (a := ⟨T, 0, none⟩) (Nat.ne_of_gt (Nat.lt_of_lt_of_le HWW.out hT)) x).other (a := ⟨T, 1, none⟩) (Nat.ne_of_gt (Nat.lt_of_lt_of_le HWW.out hT)) y)).two; have d3 := Y2.out.twoD; have d4 := fun o => (Y2.out.alloc o).twoD; have d5 := fun o1 o2 => ((Y2.out.alloc o1).alloc o2).twoD; have d6 := fun (T : Nat) (hT : w1.heap.size ≤ T) (x y : Value) => (((Y2.out.other (a := ⟨T, 0, none⟩) (Nat.ne_of_gt (Nat.lt_of_lt_of_le HWW.out hT)) x).other (a := ⟨T, 1, none⟩) (Nat.ne_of_gt (Nat.lt_of_lt_of_le HWW.out hT)) y)).twoD; have d7 := fun (o : Obj) (T : Nat) (hT : w1.heap.size ≤ T) (x y : Value) => ((((Y2.out.alloc o).other (a := ⟨T, 0, none⟩) (Nat.ne_of_gt (Nat.lt_of_lt_of_le HWW.out hT)) x).other (a := ⟨T, 1, none⟩) (Nat.ne_of_gt (Nat.lt_of_lt_of_le HWW.out hT)) y)).twoD; have XT := Lib.hid (show Bx (w1.heap.size + 1) #[.slice none 0 0, .slice none 0 0] w2 from ((BZ.out)).keep S2d.out); have xc := XT.out.cells; have xf := XT.out.thaw; have xc1 := XT.out.cellsA; have xf1 := XT.out.thawA; clear h2 s2)
      | (go_at_call 38; refine (cloneL_own p.2 b2 lo hi _ (((w1.alloc (.cells #[.slice none 0 0, .slice none 0 0] 45)).alloc (.cells (zerosV (.complex .f32 0 0) n) 35)).drew) (G2.out.span (((S1.out.alloc (.cells #[.slice none 0 0, .slice none 0 0] 45)).alloc (.cells (zerosV (.complex .f32 0 0) n) 35)).drew) (.inl (Nat.le_refl _))) (by rw [← HLL.out]; have := HCAP.out; omega)).mono ?_; rintro _ w2 ⟨A2, q2, rfl, h2, s2⟩; rw [← HLL.out] at h2 ⊢; have S2e := Lib.hid (show Span 0 0 ((w1.alloc (.cells #[.slice none 0 0, .slice none 0 0] 45)).alloc (.cells (zerosV (.complex .f32 0 0) n) 35)) w2 from s2.undrawn' (n := 1)); have H2e := Lib.hid (show w2.ownsRow ((w1.alloc (.cells #[.slice none 0 0, .slice none 0 0] 45)).alloc (.cells (zerosV (.complex .f32 0 0) n) 35)).heap.size 68 4 (.slice A2 ll q2) ll (flat p.2) from h2); have Y2 := Lib.hid (((Y0.out.alloc (.cells #[.slice none 0 0, .slice none 0 0] 45)).alloc (.cells (zerosV (.complex .f32 0 0) n) 35)).keep S2e.out); have k3 := Y2.out.two; have k4 := fun o => (Y2.out.alloc o).two; have k5 := fun o1 o2 => ((Y2.out.alloc o1).alloc o2).two; have k6 := fun (T : Nat) (hT : w1.heap.size ≤ T) (x y : Value) => (((Y2.out.other (a := ⟨T, 0, none⟩) (Nat.ne_of_gt (Nat.lt_of_lt_of_le HWW.out hT)) x).other (a := ⟨T, 1, none⟩) (Nat.ne_of_gt (Nat.lt_of_lt_of_le HWW.out hT)) y)).two; have k7 := fun (o : Obj) (T : Nat) (hT : w1.heap.size ≤ T) (x y : Value) => ((((Y2.out.alloc o).other (a := ⟨T, 0, none⟩) (Nat.ne_of_gt (Nat.lt_of_lt_of_le HWW.out hT)) x).other (a := ⟨T, 1, none⟩) (Nat.ne_of_gt (Nat.lt_of_lt_of_le HWW.out hT)) y)).two; have d3 := Y2.out.twoD; have d4 := fun o => (Y2.out.alloc o).twoD; have d5 := fun o1 o2 => ((Y2.out.alloc o1).alloc o2).twoD; have d6 := fun (T : Nat) (hT : w1.heap.size ≤ T) (x y : Value) => (((Y2.out.other (a := ⟨T, 0, none⟩) (Nat.ne_of_gt (Nat.lt_of_lt_of_le HWW.out hT)) x).other (a := ⟨T, 1, none⟩) (Nat.ne_of_gt (Nat.lt_of_lt_of_le HWW.out hT)) y)).twoD; have d7 := fun (o : Obj) (T : Nat) (hT : w1.heap.size ≤ T) (x y : Value) => ((((Y2.out.alloc o).other (a := ⟨T, 0, none⟩) (Nat.ne_of_gt (Nat.lt_of_lt_of_le HWW.out hT)) x).other (a := ⟨T, 1, none⟩) (Nat.ne_of_gt (Nat.lt_of_lt_of_le HWW.out hT)) y)).twoD; have XT := Lib.hid (show Bx w1.heap.size #[.slice none 0 0, .slice none 0 0] w2 from (((Bx.new w1 #[.slice none 0 0, .slice none 0 0] 45).alloc (.cells (zerosV (.complex .f32 0 0) n) 35))).keep S2e.out); have xc := XT.out.cells; have xf := XT.out.thaw; have xc1 := XT.out.cellsA; have xf1 := XT.out.thawA; clear h2 s2)))
    all_goals
      go_wp2_with fail
      go_meet
      first
        | exact comp_o1 HIN.out S2a.out H2a.out
        | exact comp_o2 HIN.out S2a.out H2a.out
        | exact comp_o3 HIN.out S2b.out H2b.out
        | exact comp_o4 HIN.out S2d.out H2d.out
        | exact comp_o5 HIN.out S2e.out H2e.out
        | exact comp_o6 HIN.out S2c.out H2c.out
  case rest =>
    obtain ⟨gS, A2, q2, T, rfl, hown, hbx⟩ := hcut
    have HO := Lib.hid hown
    have HBX := Lib.hid hbx
    have HLT : Hid (∀ j, (Value.slice A2 ll q2).ownBlock = some j → j < wc.heap.size) := fun j hj => (hown.hl.lt j (by rw [← HLL.out]; exact hj)).2
    have cx := hbx.cells
    have HRB : Hid (w.heap.size + 1 < w1.heap.size) := Y1.out.1
    clear hown hbx HMK
    go_wp2_with fail
    refine (lentInOrder_any p.2 b2 lo hi _ wc (G2.out.span HO.out.s (.inl (Nat.le_refl _))) (by rw [← HLL.out]; have := HCAP.out; omega)).mono ?_
    rintro _ w3 ⟨o, v1, b3, rfl, ho, h1, s1⟩
    obtain ⟨A1, c1, rfl, _, _⟩ := id h1
    have HOR := Lib.hid ho
    have H1 := Lib.hid h1
    have HO3 := Lib.hid (HO.out.span s1)
    have HW3 : Hid (wc.heap.size ≤ w3.heap.size) := s1.size
    have HB3 := Lib.hid (HBX.out.keep s1)
    have HBC : Hid (w1.heap.size ≤ wc.heap.size) := Nat.le_of_lt (Nat.lt_of_le_of_lt (HO.out.hs.lt gS rfl).1 (HO.out.hs.lt gS rfl).2)
    have HGS : Hid (w1.heap.size ≤ gS ∧ gS < wc.heap.size) := HO.out.hs.lt gS rfl
    obtain ⟨m, hm⟩ : ∃ m, m = o.length := ⟨_, rfl⟩
    have HM := Lib.hid hm
    have hm16 : m ≤ 16 := by
      rw [hm, ho.perm.length_eq]
      have := List.length_filter_le (fun i => (p.2[i]?).elim false (!·.free)) (List.range p.2.length)
      rw [List.length_range] at this
      have h2 := HV.out.most
      exact Nat.le_trans this h2
    rw [← hm] at H1 ⊢
    have HFIT := Lib.hid (comp_fits HV.out ho)
    clear ho h1 s1 hm cx
    go_wp2_with fail
    go_loopw [4, 24] (fun ce ck wr => ∃ (k e : Nat) (T' : List Cx) (L' : List Ls), k ≤ m ∧ ck = .int .i64 (k : Int) ∧ ce = .int .i64 (e : Int) ∧ T'.length = n ∧ L'.length = ll ∧ compT p.1 p.2 T' e (o.drop k) = (compP p o).1 ∧ compL L' e (o.drop k) = (compP p o).2 ∧ (∀ i ∈ o.drop k, L'[i]? = p.2[i]?) ∧ e + roomsOf (pickL p.2 (o.drop k)) ≤ n ∧ Own (w.heap.size + 1) T w1.heap.size w T' L' (some ⟨gS, 0, none⟩) n A2 q2 wr ∧ Span w1.heap.size wc.heap.size w3 wr) (fun _ ck _ => m - (intOf ck).toNat)
    case atStart => exact ⟨0, 0, List.replicate n (0, 0), p.2, Nat.zero_le _, rfl, rfl, by simp, HLL.out.symm, by rw [List.drop_zero, HNN.out]; rfl, by rw [List.drop_zero]; rfl, fun _ _ => rfl, by rw [List.drop_zero]; have := HFIT.out.2.1; simp at this; rw [HNN.out]; omega, HO3.out, Span.refl _ _ _⟩
    case round =>
      obtain ⟨k, e, T', L', hk, rfl, rfl, hlT, hlL, hcT, hcL, hM, hfit, hown, hs⟩ := hrel
      have HOW := Lib.hid hown
      have HSR := Lib.hid hs
      have HTL := Lib.hid hlT
      have HLLn := Lib.hid hlL
      have cx := (HB3.out.span hs (.inr (.inl (by have := HRB.out; omega)))).cells
      by_cases hlt : k < m
      · obtain ⟨id, hid⟩ := getElem?_some (xs := o) (j := k) (by rw [← HM.out]; exact hlt)
        obtain ⟨x, hx, hf⟩ := HOR.out.mem.1 (List.mem_of_getElem? hid)
        have hil : id < ll := by rw [HLL.out]; exact (List.getElem?_eq_some_iff.1 hx).1
        obtain ⟨o1, o2, o3⟩ := (HV.out.ok _ (List.mem_of_getElem? hx)).lent hf
        have hx' : L'[id]? = some x := by rw [hM id (by rw [drop_cons hid]; exact List.mem_cons_self ..)]; exact hx
        rw [drop_cons hid] at hcT hcL hM hfit
        obtain ⟨e1, e2⟩ := comp_step (S := p.1) (T := T') (e := e) (o := o.drop (k + 1)) hx hx'
        rw [e1] at hcL
        rw [e2] at hcT
        rw [pickL_cons _ hx, roomsOf] at hfit
        have hnd : id ∉ o.drop (k + 1) := by
          have := (HOR.out.nodup).sublist (List.drop_sublist k o)
          rw [drop_cons hid, List.nodup_cons] at this
          exact this.1
        have HCT := Lib.hid hcT
        have HCL := Lib.hid hcL
        have HFT := Lib.hid hfit
        have HMM : Hid (∀ i ∈ o.drop (k + 1), (L'.set id ⟨e, x.count, x.room, x.free⟩)[i]? = p.2[i]?) := fun i hi => by
          rw [List.getElem?_set_ne (by rintro rfl; exact hnd hi)]
          exact hM i (List.mem_cons_of_mem _ hi)
        have HXL := Lib.hid hx'
        have HO2 : Hid (x.start + x.room ≤ p.1.length ∧ 1 ≤ x.room ∧ e + x.room ≤ n) := ⟨o3, o1, by omega⟩
        obtain ⟨off1, rfl, _⟩ := H1.out.addrS (by rw [← HM.out]; omega)
        have cid : wr.cell? _ = some (.int .i64 (id : Int)) := (H1.out.span hs (.inr (.inr (.inl (Nat.le_refl _))))).atS hid
        obtain ⟨-, -, off, rfl, l0, l1, l2, l3⟩ := (G2.out.span hown.s (.inl (Nat.le_refl _))).at_ hx
        have k0 : (0 : Int) ≤ (id : Int) := by omega
        have k1 : (id : Int) < (ll : Int) := by omega
        have HKM : Hid (k < m) := hlt
        obtain ⟨s, c, r, fr⟩ := x
        simp only at l0 l1 l2 l3 HCT HCL HFT HMM HO2
        have HN2 := Lib.hid (Bx.new wr #[.int .i64 (s : Int), .int .i64 (c : Int), .int .i64 (r : Int), .bool fr] 68)
        have HOW2 := Lib.hid (hown.span ((Span.refl 0 0 wr).alloc (.cells #[.int .i64 (s : Int), .int .i64 (c : Int), .int .i64 (r : Int), .bool fr] 68)))
        have HSR2 := Lib.hid (hs.alloc (.cells #[.int .i64 (s : Int), .int .i64 (c : Int), .int .i64 (r : Int), .bool fr] 68))
        have HTW : Hid (T < wr.heap.size) := hown.t.1
        have HNC : Hid (wc.heap.size ≤ wr.heap.size) := by unfold Hid; have := hs.size; have := HW3.out; omega
        clear hs hx hf hid hil o1 o2 o3 hown hlT hlL hcT hcL hM hfit e1 e2 hnd hx'
        go_upto_region 9 with fail
        clear l0 l1 l2 l3 cid cx
        obtain ⟨N, hN⟩ : ∃ N, N = wr.heap.size := ⟨_, rfl⟩
        rw [← hN] at HN2 HTW HNC ⊢
        generalize wr.alloc (.cells #[.int .i64 (s : Int), .int .i64 (c : Int), .int .i64 (r : Int), .bool fr] 68) = w4 at *
        clear hN HOW HSR
        obtain ⟨g, rfl, ⟨l0, l1, l2, l3⟩, hfz⟩ := HOW2.out.lease HXL.out
        have f0 := hfz (id * 4)
        obtain ⟨_, t0, t1, _, _⟩ := HOW2.out.t
        rw [HLLn.out] at t1
        have HGT : Hid (w1.heap.size ≤ g ∧ g < wc.heap.size) := ⟨(HOW2.out.hl.lt g rfl).1, HLT.out g rfl⟩
        clear hfz
        go_upto_region 10 with fail
        clear l0 l1 l2 l3 f0 t0 t1
        have HOS := Lib.hid (HOW2.out.setL1 HRB.out (by have := HRB.out; omega) e HXL.out)
        have HSS := Lib.hid (HSR2.out.setCell (p := ⟨g, id * 4, none⟩) (.inl ⟨HGT.out.1, HGT.out.2⟩) (.int .i64 (e : Int)))
        have HNS := Lib.hid (HN2.out.other (a := ⟨g, id * 4, none⟩) (by have := HGT.out; have := HNC.out; show g ≠ N; omega) (.int .i64 (e : Int)))
        generalize w4.setCell ⟨g, id * 4, none⟩ (.int .i64 (e : Int)) = wS at *
        have HLS : Hid ((L'.set id ⟨e, c, r, fr⟩).length = ll) := by unfold Hid; rw [List.length_set]; exact HLLn.out
        obtain ⟨_, t0, t1, _, _⟩ := HOS.out.t
        have cn := HNS.out.cells
        have cp := (HB3.out.span HSS.out (.inr (.inl (by have := HRB.out; omega)))).cells
        rw [HTL.out] at t0
        obtain ⟨off1', hAS, -⟩ := G1.out.addrS (show 0 < p.1.length by have := HO2.out; omega)
        subst hAS
        have HCS : Hid (partS p.1 s r = (p.1.drop s).take r) := rfl
        have HPL : Hid ((partS p.1 s r).length = r) := part_length (by have := HO2.out; omega)
        have hsrc : ∀ j u, ((partS p.1 s r).map cxV)[j]? = some u → wS.drew.cell? ((⟨b1, off1' + s, none⟩ : Addr).add j) = some u := by
          intro j u hj
          have hpp := ((G1.out.span HOS.out.s (.inl (Nat.le_refl _))).part (s := s) (k := r) (r := r) (by have := HO2.out; omega) (Nat.le_refl _) (by have := HO2.out; omega))
          exact hpp.news' j u hj
        have hcp := run_copy_cells (P := Try.prog) wS.drew 23 23 3 35 gS e (n - e) (n - e) ⟨b1, off1' + s, none⟩ r (cS - s) ((partS p.1 s r).map cxV) Try.underlying23 (by kernel_rfl) (by rw [List.length_map, HPL.out]; have := HO2.out; exact (Nat.min_eq_left (by omega)).symm) hsrc (fun j hj => by rw [List.length_map, HPL.out] at hj; exact HOS.out.cellS (by rw [HTL.out]; have := HO2.out; omega)) (fun j hj => HOS.out.hs.frozenAt _) (fun u hu => one_cells u hu)
        rw [List.length_map, HPL.out] at hcp
        have HW1 : wrap64 ((s : Int) + (r : Int)) = ((s + r : Nat) : Int) := wrap_le (by have := HO2.out; have := HV.out.size; omega)
        have HW2 : Hid (wrap64 ((e : Int) + (r : Int)) = ((e + r : Nat) : Int)) := wrap_le (by have := HO2.out; have := HCAP.out; omega)
        have i1 : (e : Int) + (r : Int) ≤ (n : Int) := by have := HO2.out; omega
        have i2 : e < n := by have := HO2.out; omega
        have i3 : s < cS := by have := HO2.out; have := HCAP.out; have := HNN.out; omega
        have i4 : (s : Int) + (r : Int) ≤ (cS : Int) := by have := HO2.out; have := HCAP.out; have := HNN.out; omega
        have i5 : (0 : Int) ≤ (e : Int) := by omega
        have i6 : (0 : Int) ≤ (s : Int) := by omega
        have i7 : (e : Int) ≤ (n : Int) := by omega
        have i8 : (1 : Int) ≤ (r : Int) := by have := HO2.out; omega
        clear hsrc
        have HPF : Hid (e + (partS p.1 s r).length ≤ T'.length) := by unfold Hid; rw [HPL.out, HTL.out]; exact HO2.out.2.2
        have HOF := Lib.hid ((HOS.out.span ((Span.refl 0 0 wS).drew)).setSs HRB.out (by have := HRB.out; omega) (partS p.1 s r) T' e wS.drew HPF.out)
        have HSF := Lib.hid (Span.setCells' (g := gS) HGS.out.1 HGS.out.2 ((partS p.1 s r).map cxV) e wS.drew (HSS.out.drew))
        have HTF : Hid ((overlay T' e (partS p.1 s r)).length = n) := by unfold Hid; rw [overlay_length HPF.out]; exact HTL.out
        go_region
        all_goals
          clear hcp t0 t1 cn cp
          go_wp2_with fail
          go_roundw
          case rel => exact ⟨k + 1, e + r, overlay T' e (partS p.1 s r), L'.set id ⟨e, c, r, fr⟩, HKM.out, by go_num, congrArg (Value.int .i64) (by omega), HTF.out, HLS.out, HCT.out, HCL.out, HMM.out, by have := HFT.out; omega, HOF.out, HSF.out⟩
          case measure => have := HKM.out; simp [intOf]; omega
      · have hke : m = k := by omega
        subst hke
        rw [List.drop_eq_nil_of_le (by rw [← HM.out]; exact Nat.le_refl _)] at hcT hcL
        have HE1 : Hid (T' = (compP p o).1) := hcT
        have HE2 : Hid (L' = (compP p o).2) := hcL
        clear hk hlt hlT hlL hcT hcL hM hfit hown hs cx
        obtain ⟨_, t0, t1, _, _⟩ := HOW.out.t
        obtain ⟨_, y0, y1, y2, y3⟩ := HOW.out.r
        have HB := Lib.hid (box_stored (u' := .slice (some ⟨gS, 0, none⟩) T'.length n) (v' := .slice A2 L'.length q2) HOW.out.r)
        have HR := Lib.hid (HOW.out.result HRB.out (by omega))
        rw [HTL.out, HLLn.out] at HB HR
        rw [HTL.out] at t0
        rw [HLLn.out] at t1
        go_wp2_with fail
        refine bodyPost_ret (v := .agg #[.slice (some ⟨gS, 0, none⟩) n n, .slice A2 ll q2]) (by simp [results, Try.results20, go_sem, HB.out.1, HB.out.2]) rfl ?_
        obtain ⟨bS, hbS, -, -⟩ := ownsRow_hasS (ownsRow_setCell_below (ownsRow_setCell_below HOW.out.hs (a := ⟨w.heap.size + 1, 0, none⟩) HRB.out (.slice (some ⟨gS, 0, none⟩) T'.length n)) (a := ⟨w.heap.size + 1, 1, none⟩) HRB.out (.slice A2 L'.length q2))
        rw [HTL.out, HLLn.out] at hbS
        have hl1 : (compP p o).1.length = n := by rw [← HE1.out]; exact HTL.out
        have hl2 : (compP p o).2.length = ll := by rw [← HE2.out]; exact HLLn.out
        have hc := HCAP.out
        refine ⟨o, some ⟨gS, 0, none⟩, n, A2, q2, bS, by rw [hl1, hl2], ?_, by omega, HR.out.2⟩
        rw [hl1, ← HE1.out]
        exact hbS.weak (by have := HRB.out; omega) (.inl (Nat.le_refl _))
end Go.Proofs.Ytfafkdpefdpnkaa
