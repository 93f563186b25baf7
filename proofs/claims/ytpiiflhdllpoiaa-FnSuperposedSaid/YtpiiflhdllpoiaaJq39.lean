/- Modules of the kind delay: copies, units of valid ones. Modules of the kind delay are stepped. Delays as units of a circuit. -/
import Derived.Test.YtpiiflhdllpoiaaJq38
import Derived.Outline
import Derived.Test.YtpiiflhdllpoiaaJq34
namespace Go.Proofs.Ytpiiflhdllpoiaa
section
open Go.RowKit

/-- A copy of a delay. -/
def CopyD (xs : List Cx) (n : Nat) (a : Int) (w : World) (e : Ending) (w' : World) : Prop :=
  ∃ A p bs, e = .returned (.agg #[.int .i64 4, .complex .f32 0 0, .complex .f32 0 0, .float .f32 0, .slice A n p, .int .i64 a, .int .i64 (n : Int), .slice none 0 0, .slice none 0 0, .int .i64 0, .int .i64 0]) ∧ HasS cxV true bs w.heap.size w'.heap.size w' (.slice A n p) xs ∧ Span 0 0 w w'

set_option maxRecDepth 100000 in
set_option maxHeartbeats 8000000 in
theorem copyModule_delay (xs : List Cx) (n p : Nat) (a : Int) (A : Option Addr) (hn : n = xs.length) (hl : xs.length ≤ 4194304) (o : Bool) (bs lo hi : Nat) (w : World) (hs : HasS cxV o bs lo hi w (.slice A n p) xs) :
    Calls Try.prog 37 #[.agg #[.int .i64 4, .complex .f32 0 0, .complex .f32 0 0, .float .f32 0, .slice A n p, .int .i64 a, .int .i64 (n : Int), .slice none 0 0, .slice none 0 0, .int .i64 0, .int .i64 0]] w (CopyD xs n a w) := by
  have HG := Lib.hid hs
  have HN := Lib.hid hn
  have HL := Lib.hid hl
  clear hs hn hl
  go_enter Try.func37, Try.ntmps37
  go_wp2_with fail
  have X := Lib.hid ((Bx.new w #[.int .i64 4, .complex .f32 0 0, .complex .f32 0 0, .float .f32 0, .slice A n p, .int .i64 a, .int .i64 (n : Int), .slice none 0 0, .slice none 0 0, .int .i64 0, .int .i64 0] 33).alloc (.cells #[.int .i64 0, .complex .f32 0 0, .complex .f32 0 0, .float .f32 0, .slice none 0 0, .int .i64 0, .int .i64 0, .slice none 0 0, .slice none 0 0, .int .i64 0, .int .i64 0] 33))
  have Y := Lib.hid (Bx.new (w.alloc (.cells #[.int .i64 4, .complex .f32 0 0, .complex .f32 0 0, .float .f32 0, .slice A n p, .int .i64 a, .int .i64 (n : Int), .slice none 0 0, .slice none 0 0, .int .i64 0, .int .i64 0] 33)) #[.int .i64 0, .complex .f32 0 0, .complex .f32 0 0, .float .f32 0, .slice none 0 0, .int .i64 0, .int .i64 0, .slice none 0 0, .slice none 0 0, .int .i64 0, .int .i64 0] 33)
  rw [show (w.alloc (.cells #[.int .i64 4, .complex .f32 0 0, .complex .f32 0 0, .float .f32 0, .slice A n p, .int .i64 a, .int .i64 (n : Int), .slice none 0 0, .slice none 0 0, .int .i64 0, .int .i64 0] 33)).heap.size = w.heap.size + 1 by simp] at Y
  have HS := Lib.hid (((Span.refl 0 0 w).alloc (.cells #[.int .i64 4, .complex .f32 0 0, .complex .f32 0 0, .float .f32 0, .slice A n p, .int .i64 a, .int .i64 (n : Int), .slice none 0 0, .slice none 0 0, .int .i64 0, .int .i64 0] 33)).alloc (.cells #[.int .i64 0, .complex .f32 0 0, .complex .f32 0 0, .float .f32 0, .slice none 0 0, .int .i64 0, .int .i64 0, .slice none 0 0, .slice none 0 0, .int .i64 0, .int .i64 0] 33))
  have HW : Hid (((w.alloc (.cells #[.int .i64 4, .complex .f32 0 0, .complex .f32 0 0, .float .f32 0, .slice A n p, .int .i64 a, .int .i64 (n : Int), .slice none 0 0, .slice none 0 0, .int .i64 0, .int .i64 0] 33)).alloc (.cells #[.int .i64 0, .complex .f32 0 0, .complex .f32 0 0, .float .f32 0, .slice none 0 0, .int .i64 0, .int .i64 0, .slice none 0 0, .slice none 0 0, .int .i64 0, .int .i64 0] 33)).heap.size = w.heap.size + 2) := by unfold Hid; simp
  generalize (w.alloc (.cells #[.int .i64 4, .complex .f32 0 0, .complex .f32 0 0, .float .f32 0, .slice A n p, .int .i64 a, .int .i64 (n : Int), .slice none 0 0, .slice none 0 0, .int .i64 0, .int .i64 0] 33)).alloc (.cells #[.int .i64 0, .complex .f32 0 0, .complex .f32 0 0, .float .f32 0, .slice none 0 0, .int .i64 0, .int .i64 0, .slice none 0 0, .slice none 0 0, .int .i64 0, .int .i64 0] 33) = w0 at *
  have c0 := X.out.cells
  have HG0 := Lib.hid (HG.out.span HS.out (.inl (Nat.le_refl _)))
  go_region_with (first
    | (go_at_call 42; go_loud ((refine (copyRing_any xs _ _ o bs lo hi _ _ (HG0.out.drewN _) HL.out).mono ?_; rintro _ w1 ⟨v1, b1, rfl, h1, s1'⟩; obtain ⟨A1, q1, rfl, _⟩ := id h1; rw [← HN.out] at h1 ⊢; have SS1 : Hid (Span 0 0 w0 w1) := (by first | exact s1' | exact s1'.undrawn' | exact Span.undrawn' (n := 1) s1'); have H1 : Hid (HasS cxV true b1 w0.heap.size w1.heap.size w1 (.slice A1 n q1) xs) := h1; have X1 := Lib.hid (X.out.keep SS1.out); have Y1 := Lib.hid (Y.out.keep SS1.out); have c1 := X1.out.cells; clear s1' h1)))
    | (go_at_call 43; go_loud ((refine (copyTable_nil _).mono ?_; rintro _ w2 ⟨rfl, s2'⟩; have SS2 : Hid (Span 0 0 w1 w2) := (by first | exact s2' | exact s2'.undrawn' | exact Span.undrawn' (n := 1) s2'); have X2 := Lib.hid (X1.out.keep SS2.out); have Y2 := Lib.hid (Y1.out.keep SS2.out); have H2 := Lib.hid (H1.out.span SS2.out (.inl (Nat.le_refl _))); have c2 := X2.out.cells; have g2 := X2.out.thaw; clear s2'))))
  all_goals
    have X3 := (((((X2.out.set 4 (.slice A1 n q1) (by simp)).set 5 (.int .i64 a) (by simp)).set 6 (.int .i64 (n : Int)) (by simp)).set 7 (.slice none 0 0) (by simp)).set 8 (.slice none 0 0) (by simp))
    have X3 : Bx w.heap.size #[.int .i64 4, .complex .f32 0 0, .complex .f32 0 0, .float .f32 0, (.slice A1 n q1), .int .i64 a, .int .i64 (n : Int), .slice none 0 0, .slice none 0 0, .int .i64 0, .int .i64 0] (((((w2.setCell ⟨w.heap.size, 4, none⟩ (.slice A1 n q1)).setCell ⟨w.heap.size, 5, none⟩ (.int .i64 a)).setCell ⟨w.heap.size, 6, none⟩ (.int .i64 (n : Int))).setCell ⟨w.heap.size, 7, none⟩ (.slice none 0 0)).setCell ⟨w.heap.size, 8, none⟩ (.slice none 0 0)) := by simpa using X3
    have Y3 := (((((Y2.out.other (a := ⟨w.heap.size, 4, none⟩) (by simp) (.slice A1 n q1)).other (a := ⟨w.heap.size, 5, none⟩) (by simp) (.int .i64 a)).other (a := ⟨w.heap.size, 6, none⟩) (by simp) (.int .i64 (n : Int))).other (a := ⟨w.heap.size, 7, none⟩) (by simp) (.slice none 0 0)).other (a := ⟨w.heap.size, 8, none⟩) (by simp) (.slice none 0 0))
    have S3 := (((((((HS.out.trans SS1.out).trans SS2.out).setCell (p := ⟨w.heap.size, 4, none⟩) (.inr (Nat.le_refl _)) (.slice A1 n q1)).setCell (p := ⟨w.heap.size, 5, none⟩) (.inr (Nat.le_refl _)) (.int .i64 a)).setCell (p := ⟨w.heap.size, 6, none⟩) (.inr (Nat.le_refl _)) (.int .i64 (n : Int))).setCell (p := ⟨w.heap.size, 7, none⟩) (.inr (Nat.le_refl _)) (.slice none 0 0)).setCell (p := ⟨w.heap.size, 8, none⟩) (.inr (Nat.le_refl _)) (.slice none 0 0))
    have T3 := ((((((Span.refl w.heap.size (w.heap.size + 2) w2).setCell (p := ⟨w.heap.size, 4, none⟩) (.inl (by simp)) (.slice A1 n q1)).setCell (p := ⟨w.heap.size, 5, none⟩) (.inl (by simp)) (.int .i64 a)).setCell (p := ⟨w.heap.size, 6, none⟩) (.inl (by simp)) (.int .i64 (n : Int))).setCell (p := ⟨w.heap.size, 7, none⟩) (.inl (by simp)) (.slice none 0 0)).setCell (p := ⟨w.heap.size, 8, none⟩) (.inl (by simp)) (.slice none 0 0))
    have hw := HW.out
    have H3 := Lib.hid (H2.out.span T3 (by omega))
    have Z3 : Hid (w1.heap.size ≤ (((((w2.setCell ⟨w.heap.size, 4, none⟩ (.slice A1 n q1)).setCell ⟨w.heap.size, 5, none⟩ (.int .i64 a)).setCell ⟨w.heap.size, 6, none⟩ (.int .i64 (n : Int))).setCell ⟨w.heap.size, 7, none⟩ (.slice none 0 0)).setCell ⟨w.heap.size, 8, none⟩ (.slice none 0 0)).heap.size) := by have := SS2.out.size; unfold Hid; simpa [World.setCell] using this
    clear c2 g2 hw T3
    generalize (((((w2.setCell ⟨w.heap.size, 4, none⟩ (.slice A1 n q1)).setCell ⟨w.heap.size, 5, none⟩ (.int .i64 a)).setCell ⟨w.heap.size, 6, none⟩ (.int .i64 (n : Int))).setCell ⟨w.heap.size, 7, none⟩ (.slice none 0 0)).setCell ⟨w.heap.size, 8, none⟩ (.slice none 0 0)) = w5 at *
    have cx := X3.cells
    have cy := Y3.cells
    have fy := Y3.thaw
    have YS := Lib.hid (Y3.set11 (.int .i64 4) (.complex .f32 0 0) (.complex .f32 0 0) (.float .f32 0) (.slice A1 n q1) (.int .i64 a) (.int .i64 (n : Int)) (.slice none 0 0) (.slice none 0 0) (.int .i64 0) (.int .i64 0))
    have S4 := Lib.hid S3
    clear X3 Y3 S3
    go_wp2_with fail
    have d1 := YS.out.cells
    have hw := HW.out
    have T4 := (Span.refl (w.heap.size + 1) (w.heap.size + 2) w5).put11 (b := w.heap.size + 1) (by omega) (.int .i64 4) (.complex .f32 0 0) (.complex .f32 0 0) (.float .f32 0) (.slice A1 n q1) (.int .i64 a) (.int .i64 (n : Int)) (.slice none 0 0) (.slice none 0 0) (.int .i64 0) (.int .i64 0)
    refine bodyPost_ret (v := .agg #[.int .i64 4, .complex .f32 0 0, .complex .f32 0 0, .float .f32 0, (.slice A1 n q1), .int .i64 a, .int .i64 (n : Int), .slice none 0 0, .slice none 0 0, .int .i64 0, .int .i64 0]) (by simp [results, Try.results37, go_sem, d1]) rfl ⟨A1, q1, b1, rfl, ?_, S4.out.set11 (by omega) _ _ _ _ _ _ _ _ _ _ _⟩
    have z3 := Z3.out
    exact (H3.out.span T4 (by omega)).weak (by omega) (.inl (Nat.le_trans z3 T4.size))

/-- The unit of a valid delay. -/
def UnitD (xs : List Cx) (n : Nat) (a : Int) (w : World) (e : Ending) (w' : World) : Prop :=
  ∃ b A p bs, e = .returned (.iface 106 (.pointer (some ⟨b, 0, none⟩))) ∧ Bx b #[.slice A n p, .int .i64 a, .int .i64 (n : Int)] w' ∧ w.heap.size ≤ b ∧ HasS cxV true bs w.heap.size w'.heap.size w' (.slice A n p) xs ∧ Span 0 0 w w'
end
section
open Go.RowKit

theorem pushR_full_cnt {r : Rn} (hv : VR r) (z : Cx) (hc : r.2.2 = r.1.length) : (pushR r z).2.2 = r.2.2 := by
  have := hv.pos
  unfold pushR
  rw [if_pos hc, putR_cnt, takeR_cnt]
  omega

/-- What a step of a delay leaves. -/
def StepD (b n : Nat) (r : Rn) (z : Cx) (w : World) (e : Ending) (w' : World) : Prop :=
  ∃ A p bs, e = .returned (.complex .f32 (oldR r).1 (oldR r).2) ∧ Bx b #[.slice A n p, .int .i64 ((pushR r z).2.1 : Int), .int .i64 (n : Int)] w' ∧ HasS cxV true bs w.heap.size w'.heap.size w' (.slice A n p) (pushR r z).1 ∧ Span b (b + 1) w w'

set_option maxRecDepth 100000 in
set_option maxHeartbeats 4000000 in
theorem delay_step (b : Nat) (xs : List Cx) (a n p : Nat) (A : Option Addr) (hn : n = xs.length) (hv : VR (xs, a, n)) (z1 z2 : Nat) (o : Bool) (bs lo hi : Nat) (w : World) (hx : Bx b #[.slice A n p, .int .i64 (a : Int), .int .i64 (n : Int)] w) (hs : HasS cxV o bs lo hi w (.slice A n p) xs) :
    Calls Try.prog 92 #[.pointer (some ⟨b, 0, none⟩), .complex .f32 z1 z2] w (StepD b n (xs, a, n) (z1, z2) w) := by
  have cx := hx.cells
  have HX := Lib.hid hx
  have PU := pushRing_any (xs, a, n) hv (z1, z2) o bs lo hi _ w hs
  have hl : n = (pushR (xs, a, n) (z1, z2)).1.length := by rw [pushR_len]; exact hn
  have hC : (pushR (xs, a, n) (z1, z2)).2.2 = n := pushR_full_cnt hv (z1, z2) hn
  unfold StepD
  unfold PushedR at PU
  obtain ⟨⟨ys, a2, k2⟩, hR⟩ : ∃ t, t = pushR (xs, a, n) (z1, z2) := ⟨_, rfl⟩
  obtain ⟨⟨o1, o2⟩, hO⟩ : ∃ t, t = oldR (xs, a, n) := ⟨_, rfl⟩
  rw [← hR] at PU hl hC ⊢
  rw [← hO] at PU ⊢
  simp only at PU hl hC ⊢
  subst hC
  have HL := Lib.hid hl
  have HPU := Lib.hid PU
  clear hx hs hv hn hO hR PU hl
  go_enter Try.func92, Try.ntmps92
  go_wp2_with fail
  refine HPU.out.mono ?_
  rintro _ w1 ⟨v1, b1, rfl, h1, s1⟩
  obtain ⟨A1, q1, rfl, -, -⟩ := id h1
  rw [← HL.out] at h1 ⊢
  have H1 := Lib.hid h1
  have S1 := Lib.hid s1
  have hbs := HX.out.1
  have X1 := (HX.out.keep s1).alloc (.cells #[.slice A1 k2 q1, .int .i64 (a2 : Int), .int .i64 (k2 : Int)] 28)
  have c1 := X1.cells
  have f1 := X1.thaw
  have XS := Lib.hid (X1.set3 (.slice A1 k2 q1) (.int .i64 (a2 : Int)) (.int .i64 (k2 : Int)))
  have SS := Lib.hid ((((S1.out).wide (lo' := b) (hi' := b + 1) (fun _ _ h => by omega)).alloc (.cells #[.slice A1 k2 q1, .int .i64 (a2 : Int), .int .i64 (k2 : Int)] 28)).put3 (b := b) ⟨Nat.le_refl _, Nat.lt_succ_self _⟩ (.slice A1 k2 q1) (.int .i64 (a2 : Int)) (.int .i64 (k2 : Int)))
  have HH := Lib.hid (((H1.out.alloc (.cells #[.slice A1 k2 q1, .int .i64 (a2 : Int), .int .i64 (k2 : Int)] 28)).span ((Span.refl b (b + 1) _).put3 (b := b) ⟨Nat.le_refl _, Nat.lt_succ_self _⟩ (.slice A1 k2 q1) (.int .i64 (a2 : Int)) (.int .i64 (k2 : Int))) (.inr (.inr (.inl (by omega))))).weak (lo' := w.heap.size) (hi' := w1.heap.size + 1) (Nat.le_refl _) (.inl (Nat.le_succ _)))
  clear h1 s1 X1 hbs
  go_wp2_with fail
  go_ret
  exact ⟨A1, q1, b1, rfl, XS.out, by simpa [World.setCell] using HH.out, SS.out⟩
end
section
open Go.RowKit

theorem stepU_delay (xs : List Cx) (a : Nat) (hv : VR (xs, a, xs.length)) (z : Cx) : StepsU .delay (.ring xs a) z (.ring (pushR (xs, a, xs.length) z).1 (pushR (xs, a, xs.length) z).2.1) (oldR (xs, a, xs.length)) := fun X g f w hX h => by
  obtain ⟨h1, rfl, h0, A, p, s, hs, hb, hst⟩ := h
  have hl : (pushR (xs, a, xs.length) z).1.length = xs.length := pushR_len ..
  refine (delay_step g xs a xs.length p A rfl hv z.1 z.2 false s 0 _ w hb hst).mono ?_
  rintro e w' ⟨A', p', bs, rfl, hb', hs', sp⟩
  refine ⟨rfl, ⟨h1, rfl, by rw [hl]; exact h0, A', p', bs, fun hm => ?_, by rw [hl]; exact hb', ?_⟩, Keeps.of sp (fun k g1 g2 => List.mem_singleton.2 (by omega))⟩
  · obtain ⟨_, _, e2, _, hc⟩ := hs'
    obtain ⟨_, _, h3, _⟩ := hc (by rw [hl]; exact h0)
    have := hX bs hm
    omega
  · rw [hl]; exact hs'.bare.weak (Nat.zero_le _) (.inl (Nat.le_refl _))
theorem modU_delay (xs : List Cx) (a : Nat) (X : List Nat) (g : Nat) (f : List Nat) : ModU X (.delay, g) f (.ring xs a) (fun m => m.k = 4 ∧ m.sn = xs.length ∧ m.a = (a : Int) ∧ m.cnt = (xs.length : Int)) := fun w h => by
  obtain ⟨_, _, _, A, p, s, _, hb, _⟩ := h
  exact (delay_module g A xs.length p (a : Int) w hb).mono fun e w' ⟨h1, h2⟩ => ⟨⟨4, 0, 0, 0, 0, 0, A, xs.length, p, (a : Int), (xs.length : Int), none, 0, 0, none, 0, 0, 0, 0⟩, h1, ⟨rfl, rfl, rfl, rfl⟩, h2⟩
end
end Go.Proofs.Ytpiiflhdllpoiaa
