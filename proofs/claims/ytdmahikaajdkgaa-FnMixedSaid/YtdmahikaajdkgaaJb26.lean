/- Rings: the oldest sample is taken, if there is one. -/
import Derived.Test.YtdmahikaajdkgaaJb25
import Derived.Outline
namespace Go.Proofs.Ytdmahikaajdkgaa
open Go.RowKit

/-- What is given when a sample was taken. -/
def TakenR (r : Rn) (w : World) (e : Ending) (w' : World) : Prop :=
  ∃ v b, e = .returned (.tuple #[.agg #[v, .int .i64 ((takeR r).2.1 : Int), .int .i64 ((takeR r).2.2 : Int)], .complex .f32 (itemR r.1 r.2.1 0).1 (itemR r.1 r.2.1 0).2, .bool true]) ∧ HasS cxV true b w.heap.size w'.heap.size w' v (takeR r).1 ∧ Span 0 0 w w'

set_option maxRecDepth 100000 in
set_option maxHeartbeats 8000000 in
theorem takeRing_none (xs : List Cx) (a : Nat) (hv : VR (xs, a, 0)) (o : Bool) (b lo hi : Nat) (v : Value) (w : World) (hx : HasS cxV o b lo hi w v xs) :
    Calls Try.prog 27 #[.agg #[v, .int .i64 (a : Int), .int .i64 0]] w fun e w' => e = .returned (.tuple #[.agg #[.slice none 0 0, .int .i64 0, .int .i64 0], .complex .f32 0 0, .bool false]) ∧ Span 0 0 w w' := by
  have HV := Lib.hid hv
  have HX := Lib.hid hx
  obtain ⟨A, p, rfl, -, -⟩ := hx
  obtain ⟨n, hn⟩ : ∃ n, n = xs.length := ⟨_, rfl⟩
  have HN := Lib.hid hn
  rw [← hn] at HX ⊢
  have X := Lib.hid (Bx.new w #[.slice A n p, .int .i64 (a : Int), .int .i64 0] 30)
  have S0 := Lib.hid ((Span.refl 0 0 w).alloc (.cells #[.slice A n p, .int .i64 (a : Int), .int .i64 0] 30))
  have YA := Lib.hid (Bx.new (w.alloc (.cells #[.slice A n p, .int .i64 (a : Int), .int .i64 0] 30)) #[.slice none 0 0, .int .i64 0, .int .i64 0] 30)
  rw [show (w.alloc (.cells #[.slice A n p, .int .i64 (a : Int), .int .i64 0] 30)).heap.size = w.heap.size + 1 by simp] at YA
  clear hn hv
  go_enter Try.func27, Try.ntmps27
  go_wp2_with fail
  refine (isRing_true xs a 0 HV.out o b lo hi _ _ (HN.out ▸ (HX.out.span ((S0.out).alloc (.cells #[.slice none 0 0, .int .i64 0, .int .i64 0] 30)) (.inl (Nat.le_refl _))))).mono ?_
  rintro _ w1 ⟨rfl, s1⟩
  have X1 := (X.out.alloc (.cells #[.slice none 0 0, .int .i64 0, .int .i64 0] 30)).keep s1
  have Y1 := YA.out.keep s1
  have S1 := Lib.hid ((S0.out.alloc (.cells #[.slice none 0 0, .int .i64 0, .int .i64 0] 30)).trans s1)
  have c1 := X1.cells
  have cy := Y1.cells
  have fy := Y1.thaw
  have YS := Lib.hid (Y1.set3 (.slice none 0 0) (.int .i64 0) (.int .i64 0))
  clear s1 X1 Y1
  go_wp2_with fail
  have d1 := YS.out.cells
  exact bodyPost_ret (v := .tuple #[.agg #[.slice none 0 0, .int .i64 0, .int .i64 0], .complex .f32 0 0, .bool false]) (by simp [results, Try.results27, go_sem, d1]) rfl ⟨rfl, S1.out.set3 (by omega) _ _ _⟩

set_option maxRecDepth 100000 in
set_option maxHeartbeats 8000000 in
theorem takeRing_any (r : Rn) (hv : VR r) (hp : 0 < r.2.2) (o : Bool) (b lo hi : Nat) (v : Value) (w : World) (hx : HasS cxV o b lo hi w v r.1) :
    Calls Try.prog 27 #[.agg #[v, .int .i64 (r.2.1 : Int), .int .i64 (r.2.2 : Int)]] w (TakenR r w) := by
  obtain ⟨xs, a, k⟩ := r
  have HV := Lib.hid hv
  have HX := Lib.hid hx
  have h1 := hv.pos
  have h2 := hv.most
  simp only at hp h1 h2 hx HX ⊢
  obtain ⟨A, p, rfl, -, -⟩ := hx
  unfold TakenR
  obtain ⟨⟨xs3, a3, k3⟩, hT⟩ : ∃ t, t = takeR (xs, a, k) := ⟨_, rfl⟩
  obtain ⟨⟨o1, o2⟩, hO⟩ : ∃ t, t = itemR xs a 0 := ⟨_, rfl⟩
  have TK := fun b off p lo hi w h => takeOldest_any (xs, a, k) hv hp b off p lo hi w h
  simp only [← hT, ← hO] at TK ⊢
  obtain ⟨n, hn⟩ : ∃ n, n = xs.length := ⟨_, rfl⟩
  have HN := Lib.hid hn
  simp only [← hn] at TK
  rw [← hn] at h1 h2 HX ⊢
  have HB := Lib.hid (show 1 ≤ n ∧ n ≤ 16 from ⟨h1, h2⟩)
  have HTK := Lib.hid TK
  have i0 : ¬ ((k : Int) = 0) := by omega
  have i1 : ¬ (k = 0) := by omega
  clear hn hv h1 h2 hT hO TK hp
  have X := Lib.hid (Bx.new w #[.slice A n p, .int .i64 (a : Int), .int .i64 (k : Int)] 30)
  have S0 := Lib.hid ((Span.refl 0 0 w).alloc (.cells #[.slice A n p, .int .i64 (a : Int), .int .i64 (k : Int)] 30))
  have YA := Lib.hid (Bx.new (w.alloc (.cells #[.slice A n p, .int .i64 (a : Int), .int .i64 (k : Int)] 30)) #[.slice none 0 0, .int .i64 0, .int .i64 0] 30)
  rw [show (w.alloc (.cells #[.slice A n p, .int .i64 (a : Int), .int .i64 (k : Int)] 30)).heap.size = w.heap.size + 1 by simp] at YA
  go_enter Try.func27, Try.ntmps27
  go_wp2_with fail
  refine (isRing_true xs a k HV.out o b lo hi _ _ (HN.out ▸ (HX.out.span ((S0.out).alloc (.cells #[.slice none 0 0, .int .i64 0, .int .i64 0] 30)) (.inl (Nat.le_refl _))))).mono ?_
  rintro _ w1 ⟨rfl, s1⟩
  have X1 := Lib.hid ((X.out.alloc (.cells #[.slice none 0 0, .int .i64 0, .int .i64 0] 30)).keep s1)
  have Y1 := Lib.hid (YA.out.keep s1)
  have S1 := Lib.hid ((S0.out.alloc (.cells #[.slice none 0 0, .int .i64 0, .int .i64 0] 30)).trans s1)
  have Z1 : Hid (w.heap.size + 2 ≤ w1.heap.size) := by have := s1.size; simp at this; exact this
  have c1 := X1.out.cells
  clear s1
  go_wp2_with fail
  refine (copyRing_any xs _ _ o b lo hi _ w1 (HX.out.span S1.out (.inl (Nat.le_refl _))) (by have := HN.out; have := HB.out; omega)).mono ?_
  rintro _ w2 ⟨v2, b2, rfl, h2, s2⟩
  obtain ⟨A2, p2, rfl, -, -⟩ := id h2
  obtain ⟨off2, rfl, g1, g2, g3⟩ := h2.addrT (by have := HN.out; have := HB.out; omega)
  rw [← HN.out] at h2 ⊢
  have H2 := Lib.hid h2
  have Y2 := Lib.hid (Y1.out.keep s2)
  have S2 := Lib.hid (S1.out.trans s2)
  have HG := Lib.hid (show w.heap.size + 2 ≤ w1.heap.size ∧ w1.heap.size ≤ b2 ∧ b2 < w2.heap.size from ⟨Z1.out, by omega, by omega⟩)
  clear h2 s2 g1 g2 g3 c1
  go_wp2_with fail
  refine (HTK.out b2 off2 p2 _ _ _ H2.out).mono ?_
  rintro _ w4 ⟨rfl, h4, s4⟩
  have hbb := HG.out
  have Y4 := Y2.out.span s4 (by omega)
  have S4 := Lib.hid (show Span 0 0 w w4 from ⟨s4.os.trans S2.out.os, s4.tape.trans S2.out.tape, s4.output.trans S2.out.output, Nat.le_trans S2.out.size s4.size, fun k hk _ => (s4.block k (Nat.lt_of_lt_of_le hk S2.out.size) (by omega)).trans (S2.out.block k hk (by omega))⟩)
  have HS4 := Lib.hid h4
  have HZ4 := Lib.hid (show w2.heap.size ≤ w4.heap.size from s4.size)
  have YA4 := Y4.alloc (.cells #[.slice (some ⟨b2, off2, none⟩) n p2, .int .i64 (a3 : Int), .int .i64 (k3 : Int)] 30)
  have cy := YA4.cells
  have fy := YA4.thaw
  have YS := Lib.hid (YA4.set3 (.slice (some ⟨b2, off2, none⟩) n p2) (.int .i64 (a3 : Int)) (.int .i64 (k3 : Int)))
  have SS := Lib.hid ((S4.out.alloc (.cells #[.slice (some ⟨b2, off2, none⟩) n p2, .int .i64 (a3 : Int), .int .i64 (k3 : Int)] 30)).set3 (b := w.heap.size + 1) (by omega) (.slice (some ⟨b2, off2, none⟩) n p2) (.int .i64 (a3 : Int)) (.int .i64 (k3 : Int)))
  clear h4 s4 hbb Y4
  go_wp2_with fail
  have d1 := YS.out.cells
  have hbb := HG.out
  have hz4 := HZ4.out
  have T1 := ((Span.refl (w.heap.size + 1) (w.heap.size + 2) w4).alloc (.cells #[.slice (some ⟨b2, off2, none⟩) n p2, .int .i64 (a3 : Int), .int .i64 (k3 : Int)] 30)).put3 (b := w.heap.size + 1) (by omega) (.slice (some ⟨b2, off2, none⟩) n p2) (.int .i64 (a3 : Int)) (.int .i64 (k3 : Int))
  refine bodyPost_ret (v := .tuple #[.agg #[.slice (some ⟨b2, off2, none⟩) n p2, .int .i64 (a3 : Int), .int .i64 (k3 : Int)], .complex .f32 o1 o2, .bool true]) (by simp [results, Try.results27, go_sem, d1, cxV]) rfl ⟨_, b2, rfl, ?_, SS.out⟩
  exact (HS4.out.span T1 (by omega)).weak (by omega) (.inr (by simp [World.setCell] <;> omega))
end Go.Proofs.Ytdmahikaajdkgaa
