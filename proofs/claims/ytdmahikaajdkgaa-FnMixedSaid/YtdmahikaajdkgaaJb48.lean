/- Modules of the kind delay are stepped. -/
import Derived.Test.YtdmahikaajdkgaaJb47
import Derived.Outline
namespace Go.Proofs.Ytdmahikaajdkgaa
open Go.RowKit

theorem pushR_full_cnt {r : Rn} (hv : VR r) (z : Cx) (hc : r.2.2 = r.1.length) : (pushR r z).2.2 = r.2.2 := by
  have := hv.pos
  unfold pushR
  rw [if_pos hc, putR_cnt, takeR_cnt]
  omega

/-- What a step of a delay leaves. -/
def StepD (b n : Nat) (r : Rn) (z : Cx) (w : World) (e : Ending) (w' : World) : Prop :=
  ∃ A p bs, e = .returned (.complex .f32 (oldR r).1 (oldR r).2) ∧ Bx b #[.slice A n p, .int .i64 ((pushR r z).2.1 : Int), .int .i64 (n : Int)] w' ∧ HasS cxV true bs w.heap.size w'.heap.size w' (.slice A n p) (pushR r z).1 ∧ Span b (b + 1) w w'

set_option maxRecDepth 100000 in
set_option maxHeartbeats 4000000 in
theorem delay_step (b : Nat) (xs : List Cx) (a n p : Nat) (A : Option Addr) (hn : n = xs.length) (hv : VR (xs, a, n)) (z1 z2 : Nat) (o : Bool) (bs lo hi : Nat) (w : World) (hx : Bx b #[.slice A n p, .int .i64 (a : Int), .int .i64 (n : Int)] w) (hs : HasS cxV o bs lo hi w (.slice A n p) xs) :
    Calls Try.prog 175 #[.pointer (some ⟨b, 0, none⟩), .complex .f32 z1 z2] w (StepD b n (xs, a, n) (z1, z2) w) := by
  have cx := hx.cells
  have HX := Lib.hid hx
  have PU := pushRing_any (xs, a, n) hv (z1, z2) o bs lo hi _ w hs
  have hl : n = (pushR (xs, a, n) (z1, z2)).1.length := by rw [pushR_len]; exact hn
  have hC : (pushR (xs, a, n) (z1, z2)).2.2 = n := pushR_full_cnt hv (z1, z2) hn
  unfold StepD
  unfold PushedR at PU
  obtain ⟨⟨ys, a2, k2⟩, hR⟩ : ∃ t, t = pushR (xs, a, n) (z1, z2) := ⟨_, rfl⟩
  obtain ⟨⟨o1, o2⟩, hO⟩ : ∃ t, t = oldR (xs, a, n) := ⟨_, rfl⟩
  rw [← hR] at PU hl hC ⊢
  rw [← hO] at PU ⊢
  simp only at PU hl hC ⊢
  subst hC
  have HL := Lib.hid hl
  have HPU := Lib.hid PU
  clear hx hs hv hn hO hR PU hl
  go_enter Try.func175, Try.ntmps175
  go_wp2_with fail
  refine HPU.out.mono ?_
  rintro _ w1 ⟨v1, b1, rfl, h1, s1⟩
  obtain ⟨A1, q1, rfl, -, -⟩ := id h1
  rw [← HL.out] at h1 ⊢
  have H1 := Lib.hid h1
  have S1 := Lib.hid s1
  have hbs := HX.out.1
  have X1 := (HX.out.keep s1).alloc (.cells #[.slice A1 k2 q1, .int .i64 (a2 : Int), .int .i64 (k2 : Int)] 30)
  have c1 := X1.cells
  have f1 := X1.thaw
  have XS := Lib.hid (X1.set3 (.slice A1 k2 q1) (.int .i64 (a2 : Int)) (.int .i64 (k2 : Int)))
  have SS := Lib.hid ((((S1.out).wide (lo' := b) (hi' := b + 1) (fun _ _ h => by omega)).alloc (.cells #[.slice A1 k2 q1, .int .i64 (a2 : Int), .int .i64 (k2 : Int)] 30)).put3 (b := b) ⟨Nat.le_refl _, Nat.lt_succ_self _⟩ (.slice A1 k2 q1) (.int .i64 (a2 : Int)) (.int .i64 (k2 : Int)))
  have HH := Lib.hid (((H1.out.alloc (.cells #[.slice A1 k2 q1, .int .i64 (a2 : Int), .int .i64 (k2 : Int)] 30)).span ((Span.refl b (b + 1) _).put3 (b := b) ⟨Nat.le_refl _, Nat.lt_succ_self _⟩ (.slice A1 k2 q1) (.int .i64 (a2 : Int)) (.int .i64 (k2 : Int))) (.inr (.inr (.inl (by omega))))).weak (lo' := w.heap.size) (hi' := w1.heap.size + 1) (Nat.le_refl _) (.inl (Nat.le_succ _)))
  clear h1 s1 X1 hbs
  go_wp2_with fail
  go_ret
  exact ⟨A1, q1, b1, rfl, XS.out, by simpa [World.setCell] using HH.out, SS.out⟩

set_option maxRecDepth 100000 in
set_option maxHeartbeats 4000000 in
theorem stepModule_delay (xs : List Cx) (a n : Nat) (hn : n = xs.length) (hv : VR (xs, a, n)) (z1 z2 : Nat) (o : Bool) (bs lo hi p : Nat) (A : Option Addr) (w : World) (hs : HasS cxV o bs lo hi w (.slice A n p) xs) :
    Calls Try.prog 14 #[.agg #[.int .i64 4, .complex .f32 0 0, .complex .f32 0 0, .float .f32 0, .slice A n p, .int .i64 (a : Int), .int .i64 (n : Int), .slice none 0 0, .slice none 0 0, .int .i64 0, .int .i64 0], .complex .f32 z1 z2] w fun e w' => ∃ A1 q1 b1, e = .returned (.tuple #[.agg #[.int .i64 4, .complex .f32 0 0, .complex .f32 0 0, .float .f32 0, (.slice A1 n q1), .int .i64 ((pushR (xs, a, n) (z1, z2)).2.1 : Int), .int .i64 (n : Int), .slice none 0 0, .slice none 0 0, .int .i64 0, .int .i64 0], .complex .f32 (oldR (xs, a, n)).1 (oldR (xs, a, n)).2, .bool true]) ∧ HasS cxV true b1 w.heap.size w'.heap.size w' (.slice A1 n q1) (pushR (xs, a, n) (z1, z2)).1 ∧ Span 0 0 w w' := by
  have cm1 := call_delay_step
  have cm2 := call_delay_module
  have VU := Lib.hid (fun w h => validUnit_delay xs a n p A hn hv o bs lo hi w h)
  have ST := fun b A p bs lo hi w h k => delay_step b xs a n p A hn hv z1 z2 true bs lo hi w h k
  unfold StepD at ST
  obtain ⟨⟨ys, a2, k2⟩, hR⟩ : ∃ t, t = pushR (xs, a, n) (z1, z2) := ⟨_, rfl⟩
  obtain ⟨⟨o1, o2⟩, hO⟩ : ∃ t, t = oldR (xs, a, n) := ⟨_, rfl⟩
  simp only [← hR, ← hO] at ST ⊢
  have HST := Lib.hid ST
  have HG := Lib.hid hs
  clear hn hv hs hR hO ST
  go_enter Try.func14, Try.ntmps14
  go_wp2_with fail
  refine (VU.out _ ((HG.out.alloc _).alloc _)).mono ?_
  rintro _ w1 ⟨b, A3, p3, b3, rfl, x1, k1, g1, sp1⟩
  have Y := (Bx.new (w.alloc (.cells #[.int .i64 4, .complex .f32 0 0, .complex .f32 0 0, .float .f32 0, .slice A n p, .int .i64 (a : Int), .int .i64 (n : Int), .slice none 0 0, .slice none 0 0, .int .i64 0, .int .i64 0] 35)) #[.int .i64 0, .complex .f32 0 0, .complex .f32 0 0, .float .f32 0, .slice none 0 0, .int .i64 0, .int .i64 0, .slice none 0 0, .slice none 0 0, .int .i64 0, .int .i64 0] 35).keep sp1
  rw [show (w.alloc (.cells #[.int .i64 4, .complex .f32 0 0, .complex .f32 0 0, .float .f32 0, .slice A n p, .int .i64 (a : Int), .int .i64 (n : Int), .slice none 0 0, .slice none 0 0, .int .i64 0, .int .i64 0] 35)).heap.size = w.heap.size + 1 by simp] at Y
  have S1 := Lib.hid ((((Span.refl 0 0 w).alloc (.cells #[.int .i64 4, .complex .f32 0 0, .complex .f32 0 0, .float .f32 0, .slice A n p, .int .i64 (a : Int), .int .i64 (n : Int), .slice none 0 0, .slice none 0 0, .int .i64 0, .int .i64 0] 35)).alloc (.cells #[.int .i64 0, .complex .f32 0 0, .complex .f32 0 0, .float .f32 0, .slice none 0 0, .int .i64 0, .int .i64 0, .slice none 0 0, .slice none 0 0, .int .i64 0, .int .i64 0] 35)).trans sp1)
  have h1' : w.heap.size + 2 ≤ b := by have := k1; simp at this; omega
  have X1 := Lib.hid x1
  have Y1 := Lib.hid Y
  have H1 := Lib.hid h1'
  have G1 := Lib.hid g1
  clear sp1 x1 k1 h1' Y g1
  go_wp2_with fail
  refine (HST.out b A3 p3 b3 _ _ w1 X1.out G1.out).mono ?_
  rintro _ w2 ⟨A4, p4, b4, rfl, x2, g2, sp2⟩
  have hb := H1.out
  have Y2 := Lib.hid (Y1.out.span sp2 (by omega))
  have S2 := Lib.hid (show Span 0 0 w w2 from ⟨sp2.os.trans S1.out.os, sp2.tape.trans S1.out.tape, sp2.output.trans S1.out.output, Nat.le_trans S1.out.size sp2.size, fun k hk _ => (sp2.block k (Nat.lt_of_lt_of_le hk S1.out.size) (by omega)).trans (S1.out.block k hk (by omega))⟩)
  have X2 := Lib.hid x2
  have G2 := Lib.hid g2
  have Z1 : Hid (w.heap.size + 2 ≤ w1.heap.size) := by unfold Hid; have := X1.out.1; omega
  clear sp2 x2 hb g2
  go_wp2_with fail
  refine (delay_module b A4 n p4 _ _ X2.out).mono ?_
  rintro _ w3 ⟨rfl, sp3⟩
  have Y3 := Y2.out.keep sp3
  have S3 := Lib.hid (S2.out.trans sp3)
  have z3 := sp3.size
  have G3 := Lib.hid ((G2.out.span sp3 (.inl (Nat.le_refl _))).weak (Nat.le_refl _) (hi' := w3.heap.size) (.inl z3))
  have cy := Y3.cells
  have fy := Y3.thaw
  have YS := Lib.hid (Y3.set11 (.int .i64 4) (.complex .f32 0 0) (.complex .f32 0 0) (.float .f32 0) (.slice A4 n p4) (.int .i64 (a2 : Int)) (.int .i64 (n : Int)) (.slice none 0 0) (.slice none 0 0) (.int .i64 0) (.int .i64 0))
  clear sp3 Y3 z3
  go_wp2_with fail
  have d1 := YS.out.cells
  have z1 := Z1.out
  have T3 := (Span.refl (w.heap.size + 1) (w.heap.size + 2) w3).put11 (b := w.heap.size + 1) (by omega) (.int .i64 4) (.complex .f32 0 0) (.complex .f32 0 0) (.float .f32 0) (.slice A4 n p4) (.int .i64 (a2 : Int)) (.int .i64 (n : Int)) (.slice none 0 0) (.slice none 0 0) (.int .i64 0) (.int .i64 0)
  refine bodyPost_ret (v := .tuple #[.agg #[.int .i64 4, .complex .f32 0 0, .complex .f32 0 0, .float .f32 0, (.slice A4 n p4), .int .i64 (a2 : Int), .int .i64 (n : Int), .slice none 0 0, .slice none 0 0, .int .i64 0, .int .i64 0], .complex .f32 o1 o2, .bool true]) (by simp [results, Try.results14, go_sem, d1]) rfl ⟨A4, p4, b4, rfl, ?_, S3.out.set11 (by omega) _ _ _ _ _ _ _ _ _ _ _⟩
  exact (G3.out.span T3 (by omega)).weak (by omega) (.inl T3.size)
end Go.Proofs.Ytdmahikaajdkgaa
