/- The samples that are put into a run; the length of a run. A circuit is listened to; the rack that it is then. -/
import Derived.Test.YtpiiflhdllpoiaaJq12
import Derived.Test.YtpiiflhdllpoiaaJq14
import Derived.Outline
import Derived.Test.YtpiiflhdllpoiaaJq25
namespace Go.Proofs.Ytpiiflhdllpoiaa
section
open Go.RowKit

set_option maxRecDepth 100000 in
set_option maxHeartbeats 1000000 in
theorem sampleOf_any (xs : List Cx) (i : Nat) (hi : i ≤ 1048576) (o : Bool) (b lo hh : Nat) (v : Value) (w : World) (hx : HasS cxV o b lo hh w v xs) (hlen : xs.length ≤ 4194304) :
    Calls Try.prog 41 #[v, .int .i64 (i : Int)] w fun e w' => e = .returned (.complex .f32 (xs.getD i (0, 0)).1 (xs.getD i (0, 0)).2) ∧ w = w' := by
  obtain ⟨A, cap, rfl, hcap, hc⟩ := hx
  obtain ⟨len, hl⟩ : ∃ len, len = xs.length := ⟨_, rfl⟩
  have HL := Lib.hid hl
  have HC := Lib.hid hc
  rw [← hl] at hcap hlen ⊢
  have j1 : (0 : Int) ≤ (i : Int) := by omega
  obtain ⟨z, hz⟩ : ∃ z, z = xs.getD i (0, 0) := ⟨_, rfl⟩
  have HZ := Lib.hid hz
  rw [← hz]
  clear hl hc hz
  by_cases hlt : i < len
  · obtain ⟨off, rfl, -, -, -, hcell, -⟩ := HC.out (by rw [← HL.out]; omega)
    obtain ⟨⟨x, y⟩, hx⟩ := getElem?_some (xs := xs) (j := i) (by rw [← HL.out]; exact hlt)
    have hck : w.cell? ⟨b, off + i, none⟩ = some (.complex .f32 x y) := hcell i _ hx
    have HG : Hid (xs.getD i (0, 0) = (x, y)) := by unfold Hid; rw [List.getD_eq_getElem?_getD, hx]; rfl
    have j2 : (i : Int) < (len : Int) := by omega
    clear hcell hx
    go_enter Try.func41, Try.ntmps41
    go_wp2_with fail
    go_ret
    rw [HZ.out.trans HG.out]
    exact ⟨rfl, rfl⟩
  · have HG : Hid (xs.getD i (0, 0) = (0, 0)) := by unfold Hid; rw [List.getD_eq_getElem?_getD, List.getElem?_eq_none (by rw [← HL.out]; omega)]; rfl
    have j2 : ¬ (i : Int) < (len : Int) := by omega
    go_enter Try.func41, Try.ntmps41
    go_wp2_with fail
    go_ret
    rw [HZ.out.trans HG.out]
    exact ⟨rfl, rfl⟩

set_option maxRecDepth 100000 in
theorem isRunLength_true (n : Nat) (h : n ≤ 500) (w : World) : Calls Try.prog 19 #[.int .i64 (n : Int)] w fun e w' => e = .returned (.bool true) ∧ w = w' := by
  have h1 : (0 : Int) ≤ (n : Int) := by omega
  have h2 : (n : Int) ≤ 500 := by omega
  clear h
  go_enter Try.func19, Try.ntmps19
  go_wp2_with fail
  go_ret
  exact ⟨rfl, rfl⟩
end
section
open Go.RowKit

/-- A step of a circuit leads from s to s'. -/
def StepTo (W : List Nat) (Q O n H bU bS : Nat) (C : Value) (us : List (Kd × Nat)) (ss : List (Nat × List Nat × (Kd × Nat))) (fs : List (List Nat)) (inn : Int) (z : Cx) (s s' : List Un × List Cx) : Prop :=
  ∀ X w, CircAt W X Q O n H bU bS C us ss fs s w → Calls Try.prog 20 #[.pointer (some ⟨Q, 0, none⟩), .int .i64 inn, .complex .f32 z.1 z.2] w fun e w' => e = .returned (.tuple #[]) ∧ CircAt W X Q O n H bU bS C us ss fs s' w' ∧ Keeps W w w'

theorem CircAt.out {W X : List Nat} {Q O n H bU bS : Nat} {C : Value} {us : List (Kd × Nat)} {ss : List (Nat × List Nat × (Kd × Nat))} {fs : List (List Nat)} {s : List Un × List Cx} {w : World} (h : CircAt W X Q O n H bU bS C us ss fs s w) {i : Nat} {y : Cx} (hy : s.2[i]? = some y) : w.cell? ⟨Q, 3, none⟩ = some (.slice (some ⟨O, 0, none⟩) n n) ∧ w.cell? ⟨O, i, none⟩ = some (.complex .f32 y.1 y.2) := by
  obtain ⟨h1, _, h3, h4⟩ := h
  obtain ⟨U, V, sts, hq, _⟩ := h1.box
  refine ⟨hq.cells 3, ?_⟩
  obtain ⟨A, c, e, _, hc⟩ := h4
  injection e with e1 e2 e3
  have hl := (List.getElem?_eq_some_iff.1 hy).1
  obtain ⟨off, e4, _, _, _, h5, _⟩ := hc (by omega)
  rw [← e1] at e4
  injection e4 with e4
  injection e4 with e5 e6
  have := h5 i y hy
  rw [← e6, Nat.zero_add] at this
  exact this
theorem Keeps.undrawn1 {W : List Nat} {a c : World} (h : Keeps W a.drew c) : Keeps W a c := ⟨h.os, h.tape, h.output, h.size, h.block⟩

set_option maxRecDepth 100000 in
set_option maxHeartbeats 8000000 in
theorem hear_any {W X : List Nat} {Q O n H bU bS : Nat} {C : Value} {us : List (Kd × Nat)} {ss : List (Nat × List Nat × (Kd × Nat))} {fs : List (List Nat)} (inn : Int) (o : Nat) (xs : List Cx) (hx : xs.length ≤ 4194304) (i : Nat) (hi : i ≤ 1048576) (s s' : List Un × List Cx) (hst : StepTo W Q O n H bU bS C us ss fs inn (xs.getD i (0, 0)) s s') (y : Cx) (hy : s'.2[o]? = some y) (ob : Bool) (b lo hh : Nat) (v : Value) (w : World) (hv : HasS cxV ob b lo hh w v xs) (hc : CircAt W X Q O n H bU bS C us ss fs s w) :
    Calls Try.prog 36 #[.pointer (some ⟨Q, 0, none⟩), .agg #[.int .i64 inn, .int .i64 (o : Int)], v, .int .i64 (i : Int)] w fun e w' => e = .returned (.complex .f32 y.1 y.2) ∧ CircAt W X Q O n H bU bS C us ss fs s' w' ∧ Keeps W w w' := by
  obtain ⟨y1, y2⟩ := y
  have h16 : (n : Int) ≤ 16 := by have := hc.1.sizes.1; omega
  have HST := Lib.hid hst
  have HY := Lib.hid hy
  have HV := Lib.hid hv
  have HC := Lib.hid hc
  have HX := Lib.hid hx
  have HI := Lib.hid hi
  have ik : (i : Int) ≤ 1048576 := by omega
  obtain ⟨Av, cv, rfl, -, -⟩ := id hv
  clear hst hy hv hc hx hi
  go_enter Try.func36, Try.ntmps36
  go_upto_region 1 with fail
  have BX := Lib.hid (Bx.new w #[.int .i64 inn, .int .i64 (o : Int)] 54)
  have SA := Lib.hid ((Span.refl 0 0 w).alloc (.cells #[.int .i64 inn, .int .i64 (o : Int)] 54))
  obtain ⟨PB, hPB⟩ : ∃ t, t = w.heap.size := ⟨_, rfl⟩
  have HPB := Lib.hid hPB
  rw [← hPB] at BX ⊢
  clear hPB
  generalize w.alloc (.cells #[.int .i64 inn, .int .i64 (o : Int)] 54) = wA at *
  have SMP := Lib.hid (sampleOf_any xs i HI.out ob b lo hh _ wA.drew (HV.out.span SA.out.drew (.inl (Nat.le_refl _))) HX.out)
  have STP := Lib.hid (HST.out X wA.drew (HC.out.far SA.out.drew))
  have pA : wA.cell? ⟨PB, 0, none⟩ = some (.int .i64 inn) := BX.out.cells 0
  go_cut [] (fun wx => CircAt W X Q O n H bU bS C us ss fs s' wx ∧ Keeps W w wx ∧ Bx PB #[.int .i64 inn, .int .i64 (o : Int)] wx)
  case first => as_aux_lemma =>
    go_region_held3 (fun w' => w'.cell? ⟨PB, 0, none⟩ = some (.int .i64 inn))
      (first
        | exact pA
        | exact p5)
      ((first
        | (go_at_call 41; refine SMP.out.mono ?_; rintro _ _ ⟨rfl, rfl⟩)
        | (go_at_call 20; refine STP.out.mono ?_; rintro _ w5 ⟨rfl, c5, k5⟩
           have K5 := Lib.hid k5.undrawn1
           have C5 := Lib.hid c5
           have hn : PB ∉ W := fun hm => by have := HC.out.1.top.1 PB hm; have := HC.out.1.top.2.1; have := HPB.out; omega
           have B5 := Lib.hid (BX.out.keeps K5.out hn)
           have p5 : w5.cell? ⟨PB, 0, none⟩ = some (.int .i64 inn) := B5.out.cells 0
           clear c5 k5 hn)))
    all_goals
      go_wp2_with fail
      go_meet
      exact ⟨C5.out, (Keeps.span SA.out).trans K5.out, B5.out⟩
  case rest =>
    obtain ⟨c5, k5, b5⟩ := hcut
    have q1 := (c5.out HY.out).1
    have q2 := (c5.out HY.out).2
    have p1 := b5.cells 1
    have C5 := Lib.hid c5
    have K5 := Lib.hid k5
    have on : o < n := by
      have h := (List.getElem?_eq_some_iff.1 HY.out).1
      rw [c5.2.2.1] at h; exact h
    have j1 : (0 : Int) ≤ (o : Int) := by omega
    have j2 : (o : Int) < (n : Int) := by omega
    simp only at q2
    clear pA c5 k5 b5 on
    go_wp2_with fail
    go_region_held3 (fun w' => w'.cell? ⟨Q, 3, none⟩ = some (.slice (some ⟨O, 0, none⟩) n n) ∧ w'.cell? ⟨PB, 1, none⟩ = some (.int .i64 (o : Int)) ∧ w'.cell? ⟨O, o, none⟩ = some (.complex .f32 y1 y2))
      (first | exact ⟨q1, p1, q2⟩)
      ((fail))
    all_goals
      go_wp2_with fail
      go_ret
      exact ⟨rfl, C5.out.far ((Span.refl 0 0 _).drew), K5.out.trans (Keeps.span ((Span.refl 0 0 _).drew))⟩
end
end Go.Proofs.Ytpiiflhdllpoiaa
