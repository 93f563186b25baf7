/- The model's rings: the oldest sample is taken, one is put. -/
import Derived.Test.YtdmahikaajdkgaaJb59
import Derived.Test.YtdmahikaajdkgaaJb60
import Derived.Outline
namespace Go.Proofs.Ytdmahikaajdkgaa
open Go.RowKit

def TakenL (r : Rn) (w : World) (e : Ending) (w' : World) : Prop :=
  ∃ v b, e = .returned (.tuple #[.agg #[v, .int .i64 ((takeR r).2.1 : Int), .int .i64 ((takeR r).2.2 : Int)], .complex .f32 (itemR r.1 r.2.1 0).1 (itemR r.1 r.2.1 0).2]) ∧ HasS cxV true b w.heap.size w'.heap.size w' v (takeR r).1 ∧ Span 0 0 w w'
def PushedL (r : Rn) (z : Cx) (w : World) (e : Ending) (w' : World) : Prop :=
  ∃ v b, e = .returned (.tuple #[.agg #[v, .int .i64 ((pushR r z).2.1 : Int), .int .i64 ((pushR r z).2.2 : Int)], .complex .f32 (oldR r).1 (oldR r).2]) ∧ HasS cxV true b w.heap.size w'.heap.size w' v (pushR r z).1 ∧ Span 0 0 w w'

set_option maxRecDepth 100000 in
set_option maxHeartbeats 8000000 in
theorem l4Take_any (r : Rn) (hv : VR r) (hp : 0 < r.2.2) (o : Bool) (b lo hi : Nat) (v : Value) (w : World) (hx : HasS cxV o b lo hi w v r.1) :
    Calls Try.prog 78 #[.agg #[v, .int .i64 (r.2.1 : Int), .int .i64 (r.2.2 : Int)]] w (TakenL r w) := by
  obtain ⟨xs, a, k⟩ := r
  have HX := Lib.hid hx
  have h1 := hv.pos
  have h2 := hv.most
  have h3 := hv.at_
  have h4 := hv.cnt
  have hit := itemR_get (a := a) (j := 0) h1
  unfold TakenL takeR
  simp only at *
  rw [Nat.add_zero, Nat.mod_eq_of_lt h3] at hit
  obtain ⟨⟨z1, z2⟩, hz⟩ : ∃ z, z = itemR xs a 0 := ⟨_, rfl⟩
  rw [← hz] at hit ⊢
  obtain ⟨A, p, rfl, -, -⟩ := hx
  obtain ⟨n, hn⟩ : ∃ n, n = xs.length := ⟨_, rfl⟩
  have HN := Lib.hid hn
  rw [← hn] at h1 h2 h3 h4 HX ⊢
  have HIT := Lib.hid hit
  have HB := Lib.hid (show 1 ≤ n ∧ n ≤ 16 ∧ a < n ∧ 0 < k ∧ k ≤ n from ⟨h1, h2, h3, hp, h4⟩)
  rw [show ((k - 1 : Nat) : Int) = (k : Int) - 1 by omega]
  obtain ⟨a', ha'⟩ : ∃ a', a' = (a + 1) % n := ⟨_, rfl⟩
  have i2 : ((a : Int) + 1).tmod (n : Int) = (a' : Int) := by
    rw [show (a : Int) + 1 = ((a + 1 : Nat) : Int) by omega, ← Int.ofNat_tmod, ha']
  have i3 : (a' : Int) < (n : Int) := by have := Nat.mod_lt (a + 1) (show 0 < n by omega); omega
  rw [← ha']
  have X := Lib.hid (Bx.new w #[.slice A n p, .int .i64 (a : Int), .int .i64 (k : Int)] 30)
  have S0 := Lib.hid ((Span.refl 0 0 w).alloc (.cells #[.slice A n p, .int .i64 (a : Int), .int .i64 (k : Int)] 30))
  have YA := Lib.hid (Bx.new (w.alloc (.cells #[.slice A n p, .int .i64 (a : Int), .int .i64 (k : Int)] 30)) #[.slice none 0 0, .int .i64 0, .int .i64 0] 30)
  rw [show (w.alloc (.cells #[.slice A n p, .int .i64 (a : Int), .int .i64 (k : Int)] 30)).heap.size = w.heap.size + 1 by simp] at YA
  have LCP := Lib.hid (fun w (h : HasS cxV o b lo hi w (.slice A n p) xs) => l4Copy_any xs (a : Int) (k : Int) o b lo hi _ w h (by omega))
  clear hn hit hz hv h1 h2 h3 h4 hp ha'
  go_enter Try.func78, Try.ntmps78
  go_wp2_with fail
  have SA := Lib.hid (S0.out.alloc (.cells #[.slice none 0 0, .int .i64 0, .int .i64 0] 30))
  refine (LCP.out _ (HX.out.span SA.out (.inl (Nat.le_refl _)))).mono ?_
  rintro _ w2 ⟨v2, b2, rfl, h2, s2⟩
  obtain ⟨A2, p2, rfl, -, -⟩ := id h2
  obtain ⟨off2, rfl, g1, g2, g3⟩ := h2.addrT (by have := HN.out; have := HB.out; omega)
  rw [← HN.out] at h2 ⊢
  have Z1 : Hid (w.heap.size + 2 ≤ b2) := by unfold Hid; simp at g1; omega
  have HBL := Lib.hid g2
  have c2 := h2.alloc (.cells #[.slice (some ⟨b2, off2, none⟩) n p2, .int .i64 (a : Int), .int .i64 (k : Int)] 30)
  have Y2 := (YA.out.keep s2).alloc (.cells #[.slice (some ⟨b2, off2, none⟩) n p2, .int .i64 (a : Int), .int .i64 (k : Int)] 30)
  have S2 := Lib.hid ((SA.out.trans s2).alloc (.cells #[.slice (some ⟨b2, off2, none⟩) n p2, .int .i64 (a : Int), .int .i64 (k : Int)] 30))
  have P2 := Bx.new w2 #[.slice (some ⟨b2, off2, none⟩) n p2, .int .i64 (a : Int), .int .i64 (k : Int)] 30
  have H2 := Lib.hid c2
  have n1 : ¬ b2 = w2.heap.size := by omega
  have n2 : ¬ w2.heap.size = b2 := by omega
  have n3 : ¬ b2 = w.heap.size + 1 := by have := Z1.out; omega
  have n4 : ¬ w.heap.size + 1 = b2 := by have := Z1.out; omega
  have n5 : ¬ w2.heap.size = w.heap.size + 1 := by have := Z1.out; omega
  have n6 : ¬ w.heap.size + 1 = w2.heap.size := by have := Z1.out; omega
  have HPB := Lib.hid (show b2 < w2.heap.size by omega)
  have hck := c2.at_ HIT.out
  obtain ⟨-, hfz⟩ := c2.cellT (show a < xs.length by rw [← HN.out]; exact HB.out.2.2.1)
  have px := P2.cells
  have pf := P2.thaw
  have yx := Y2.cells
  have yf := Y2.thaw
  have YO := Lib.hid Y2
  have PO := Lib.hid P2
  have j0 : (0 : Int) ≤ (a : Int) := by omega
  have j1 : (a : Int) < (n : Int) := by have := HB.out; omega
  have j2 : ¬ ((n : Int) = 0) := by have := HB.out; omega
  have j3 : ¬ (n = 0) := by have := HB.out; omega
  have j4 : (n : Int) ≤ 16 := by have := HB.out; omega
  have j5 : (k : Int) ≤ 16 := by have := HB.out; omega
  have j6 : (0 : Int) < (k : Int) := by have := HB.out; omega
  have ZW := Lib.hid (show w2.heap.size + 1 = (w2.alloc (.cells #[.slice (some ⟨b2, off2, none⟩) n p2, .int .i64 (a : Int), .int .i64 (k : Int)] 30)).heap.size by simp)
  clear h2 s2 g1 g2 g3 c2 P2 Y2
  have lo2 := Lib.hid (show w.heap.size + 2 ≤ w2.heap.size by have := Z1.out; have := HPB.out; omega)
  go_wp2_with fail
  have hbb := Z1.out
  have hpb := HPB.out
  have hl2 := lo2.out
  have H3 := H2.out.put a (0, 0) (by rw [← HN.out]; exact HB.out.2.2.1)
  have PS := ((PO.out.other (a := ⟨b2, off2 + a, none⟩) n1 (.complex .f32 0 0)).set 1 (.int .i64 (a' : Int)) (by simp)).set 2 (.int .i64 ((k : Int) - 1)) (by simp)
  have YS := (((YO.out.other (a := ⟨b2, off2 + a, none⟩) (by simp only; omega) (.complex .f32 0 0)).other (a := ⟨w2.heap.size, 1, none⟩) n5 (.int .i64 (a' : Int))).other (a := ⟨w2.heap.size, 2, none⟩) n5 (.int .i64 ((k : Int) - 1))).set3 (.slice (some ⟨b2, off2, none⟩) n p2) (.int .i64 (a' : Int)) (.int .i64 ((k : Int) - 1))
  have d1 := YS.cells
  have Q1 := ((((S2.out.setCell (p := ⟨b2, off2 + a, none⟩) (.inr (by simp only; omega)) (.complex .f32 0 0)).setCell (p := ⟨w2.heap.size, 1, none⟩) (.inr (by simp only; omega)) (.int .i64 (a' : Int))).setCell (p := ⟨w2.heap.size, 2, none⟩) (.inr (by simp only; omega)) (.int .i64 ((k : Int) - 1)))).set3 (b := w.heap.size + 1) (by omega) (.slice (some ⟨b2, off2, none⟩) n p2) (.int .i64 (a' : Int)) (.int .i64 ((k : Int) - 1))
  have T1 := ((Span.refl w2.heap.size (w2.heap.size + 1) ((w2.alloc (.cells #[.slice (some ⟨b2, off2, none⟩) n p2, .int .i64 (a : Int), .int .i64 (k : Int)] 30)).setCell ⟨b2, off2 + a, none⟩ (.complex .f32 0 0))).setCell (p := ⟨w2.heap.size, 1, none⟩) (.inl ⟨Nat.le_refl _, Nat.lt_succ_self _⟩) (.int .i64 (a' : Int))).setCell (p := ⟨w2.heap.size, 2, none⟩) (.inl ⟨Nat.le_refl _, Nat.lt_succ_self _⟩) (.int .i64 ((k : Int) - 1))
  have H4 := (show HasS cxV true b2 _ _ ((w2.alloc (.cells #[.slice (some ⟨b2, off2, none⟩) n p2, .int .i64 (a : Int), .int .i64 (k : Int)] 30)).setCell ⟨b2, off2 + a, none⟩ (.complex .f32 0 0)) (.slice (some ⟨b2, off2, none⟩) n p2) (xs.set a (0, 0)) from H3).span T1 (.inr (.inr (.inr (.inl hpb))))
  have T2 := (Span.refl (w.heap.size + 1) (w.heap.size + 2) ((((w2.alloc (.cells #[.slice (some ⟨b2, off2, none⟩) n p2, .int .i64 (a : Int), .int .i64 (k : Int)] 30)).setCell ⟨b2, off2 + a, none⟩ (.complex .f32 0 0)).setCell ⟨w2.heap.size, 1, none⟩ (.int .i64 (a' : Int))).setCell ⟨w2.heap.size, 2, none⟩ (.int .i64 ((k : Int) - 1)))).put3 (b := w.heap.size + 1) (by omega) (.slice (some ⟨b2, off2, none⟩) n p2) (.int .i64 (a' : Int)) (.int .i64 ((k : Int) - 1))
  have H5 := H4.span T2 (.inr (.inr (.inr (.inr (by omega)))))
  refine bodyPost_ret (v := .tuple #[.agg #[(.slice (some ⟨b2, off2, none⟩) n p2), .int .i64 (a' : Int), .int .i64 ((k : Int) - 1)], .complex .f32 z1 z2]) (by simp [results, Try.results78, go_sem, d1, cxV]) rfl ⟨_, b2, rfl, ?_, Q1⟩
  exact H5.weak (by simp <;> omega) (.inr (by simp [World.setCell]))
end Go.Proofs.Ytdmahikaajdkgaa
