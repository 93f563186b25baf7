/- Rings are copied, the oldest sample is taken, a sample is put. -/
import Derived.Test.YtkjlodoppmipfaaGreatJg28
import Derived.Test.YtkjlodoppmipfaaGreatJg13
import Derived.Deep.RegionWith
import Derived.Outline
namespace Go.Proofs.YtkjlodoppmipfaaGreat
open Go.RowKit

/-- A ring with a store of its own. -/
def GivesRg (xs : List Cx) (i j : Int) (w : World) (e : Ending) (w' : World) : Prop :=
  ∃ v b, e = .returned (.agg #[v, .int .i64 i, .int .i64 j]) ∧ HasS cxV true b w.heap.size w'.heap.size w' v xs ∧ Span 0 0 w w'

set_option maxRecDepth 100000 in
set_option maxHeartbeats 4000000 in
theorem copyRing_any (xs : List Cx) (i j : Int) (o : Bool) (b lo hi : Nat) (v : Value) (w : World) (hx : HasS cxV o b lo hi w v xs) (hl : xs.length ≤ 4194304) :
    Calls Tryz.prog 109 #[.agg #[v, .int .i64 i, .int .i64 j]] w (GivesRg xs i j w) := by
  have HX := Lib.hid hx
  obtain ⟨A, p, rfl, hp, hc⟩ := hx
  obtain ⟨n, hn⟩ : ∃ n, n = xs.length := ⟨_, rfl⟩
  have HN := Lib.hid hn
  have HL := Lib.hid hl
  rw [← hn] at HX hp hc ⊢
  clear hn hc hp hl
  go_enter Tryz.func109, Tryz.ntmps109
  go_wp2_with fail
  have X := Lib.hid ((Bx.new w #[.slice A n p, .int .i64 i, .int .i64 j] 27).alloc (.cells #[.slice none 0 0, .int .i64 0, .int .i64 0] 27))
  have Y := Lib.hid (Bx.new (w.alloc (.cells #[.slice A n p, .int .i64 i, .int .i64 j] 27)) #[.slice none 0 0, .int .i64 0, .int .i64 0] 27)
  rw [show (w.alloc (.cells #[.slice A n p, .int .i64 i, .int .i64 j] 27)).heap.size = w.heap.size + 1 by simp] at Y
  have HS := Lib.hid (((Span.refl 0 0 w).alloc (.cells #[.slice A n p, .int .i64 i, .int .i64 j] 27)).alloc (.cells #[.slice none 0 0, .int .i64 0, .int .i64 0] 27))
  have HW : Hid (((w.alloc (.cells #[.slice A n p, .int .i64 i, .int .i64 j] 27)).alloc (.cells #[.slice none 0 0, .int .i64 0, .int .i64 0] 27)).heap.size = w.heap.size + 2) := by unfold Hid; simp
  generalize (w.alloc (.cells #[.slice A n p, .int .i64 i, .int .i64 j] 27)).alloc (.cells #[.slice none 0 0, .int .i64 0, .int .i64 0] 27) = w0 at *
  have c0 := X.out.cells
  go_region_with (first
    | (go_at_call 23; go_loud ((refine (cloneC_any xs o b lo hi _ _ ((HX.out.span HS.out (.inl (Nat.le_refl _))).drewN _) HL.out).mono ?_; rintro _ w1 ⟨v1, c1, rfl, h1, s1⟩; obtain ⟨A1, q1, rfl, _⟩ := id h1; rw [← HN.out] at h1 ⊢; have X1 := Lib.hid ((X.out.drewN 1).keep s1); have Y1 := Lib.hid ((Y.out.drewN 1).keep s1); have S1 : Hid (Span 0 0 w w1) := (by first | exact HS.out.trans s1 | exact HS.out.trans s1.undrawn' | exact HS.out.trans (Span.undrawn' (n := 1) s1)); have H1 : Hid (HasS cxV true c1 w0.heap.size w1.heap.size w1 (.slice A1 n q1) xs) := h1; have Z1 : Hid (w0.heap.size ≤ w1.heap.size) := s1.size; have c1' := X1.out.cells; have e1' := Y1.out.cells; have f1' := Y1.out.thaw; clear h1 s1))))
  all_goals
    go_wp2_with fail
    have YS := Y1.out.set3 (.slice A1 n q1) (.int .i64 i) (.int .i64 j)
    have d1 := YS.cells
    have hw := HW.out
    have hz := Z1.out
    refine bodyPost_ret (v := .agg #[.slice A1 n q1, .int .i64 i, .int .i64 j]) (by simp [results, Tryz.results109, go_sem, d1]) rfl ⟨_, c1, rfl, ?_, S1.out.set3 (by omega) _ _ _⟩
    have P1 := (Span.refl (w.heap.size + 1) (w.heap.size + 2) w1).put3 (b := w.heap.size + 1) ⟨Nat.le_refl _, Nat.lt_succ_self _⟩ (.slice A1 n q1) (.int .i64 i) (.int .i64 j)
    have g := (H1.out.span P1 (by omega)).weak (lo' := w.heap.size) (hi' := w1.heap.size) (by omega) (.inl (Nat.le_refl _))
    simpa [World.setCell] using g

set_option maxRecDepth 100000 in
set_option maxHeartbeats 4000000 in
theorem takeOldest_any (r : Rn) (hv : VR r) (hp : 0 < r.2.2) (b off p lo hi : Nat) (w : World) (hx : HasS cxV true b lo hi w (.slice (some ⟨b, off, none⟩) r.1.length p) r.1) :
    Calls Tryz.prog 164 #[.agg #[.slice (some ⟨b, off, none⟩) r.1.length p, .int .i64 (r.2.1 : Int), .int .i64 (r.2.2 : Int)]] w fun e w' => e = .returned (.tuple #[.agg #[.slice (some ⟨b, off, none⟩) r.1.length p, .int .i64 ((takeR r).2.1 : Int), .int .i64 ((takeR r).2.2 : Int)], cxV (itemR r.1 r.2.1 0)]) ∧ HasS cxV true b lo hi w' (.slice (some ⟨b, off, none⟩) r.1.length p) (takeR r).1 ∧ Span lo hi w w' := by
  obtain ⟨xs, a, k⟩ := r
  have h1 := hv.pos
  have h2 := hv.most
  have h3 := hv.at_
  have h4 := hv.cnt
  have hit := itemR_get (a := a) (j := 0) h1
  unfold takeR
  simp only at *
  rw [Nat.add_zero, Nat.mod_eq_of_lt h3] at hit
  obtain ⟨⟨z1, z2⟩, hz⟩ : ∃ z, z = itemR xs a 0 := ⟨_, rfl⟩
  rw [← hz] at hit ⊢
  have HX := Lib.hid hx
  have HIT := Lib.hid hit
  obtain ⟨A, p', e, hcap, hc⟩ := hx
  injection e with e1 e2 e3
  subst e3
  obtain ⟨off', e4, g1, g2, g3, g4, g5⟩ := hc (by omega)
  rw [e4] at e1
  injection e1 with e1
  injection e1 with _ e5
  subst e5
  have hck := g4 a _ hit
  have hfz := g5 rfl a h3
  obtain ⟨n, hn⟩ : ∃ n, n = xs.length := ⟨_, rfl⟩
  have HNX := Lib.hid hn
  rw [← hn] at h1 h2 h3 h4 HX ⊢
  have HA := Lib.hid h3
  have HB := Lib.hid (show lo ≤ b ∧ b < hi ∧ b < w.heap.size from ⟨g1, g2, g3⟩)
  have X := Lib.hid ((Bx.new w #[.slice (some ⟨b, off, none⟩) n p, .int .i64 (a : Int), .int .i64 (k : Int)] 27).alloc (.cells #[.slice none 0 0, .int .i64 0, .int .i64 0] 27))
  have Y := Lib.hid (Bx.new (w.alloc (.cells #[.slice (some ⟨b, off, none⟩) n p, .int .i64 (a : Int), .int .i64 (k : Int)] 27)) #[.slice none 0 0, .int .i64 0, .int .i64 0] 27)
  rw [show (w.alloc (.cells #[.slice (some ⟨b, off, none⟩) n p, .int .i64 (a : Int), .int .i64 (k : Int)] 27)).heap.size = w.heap.size + 1 by simp] at Y
  have SA := ((Span.refl lo hi w).alloc (.cells #[.slice (some ⟨b, off, none⟩) n p, .int .i64 (a : Int), .int .i64 (k : Int)] 27)).alloc (.cells #[.slice none 0 0, .int .i64 0, .int .i64 0] 27)
  have SA0 := ((Span.refl 0 0 w).alloc (.cells #[.slice (some ⟨b, off, none⟩) n p, .int .i64 (a : Int), .int .i64 (k : Int)] 27)).alloc (.cells #[.slice none 0 0, .int .i64 0, .int .i64 0] 27)
  have S0 := Lib.hid SA
  have HX0 := Lib.hid (HX.out.span SA0 (.inl (Nat.le_refl _)))
  have ck := (SA0.cells (Nat.le_refl _)).1 b (off + a) g3
  have cf := (SA0.cells (Nat.le_refl _)).2 b (off + a) g3
  rw [hck] at ck
  rw [hfz] at cf
  have j0 : (0 : Int) ≤ (a : Int) := by omega
  have j1 : (a : Int) < (n : Int) := by omega
  have RI := Lib.hid (fun (q : Int) => ringIndex_any (some ⟨b, off, none⟩) n p a 1 q h1 h2 (by omega) (by omega))
  have HK := Lib.hid (show 0 < k ∧ k ≤ 16 from ⟨hp, by omega⟩)
  obtain ⟨a', ha'⟩ : ∃ a', a' = (a + 1) % n := ⟨_, rfl⟩
  have n1 : ¬ b = w.heap.size := by omega
  have n2 : ¬ w.heap.size = b := by omega
  have n3 : ¬ b = w.heap.size + 1 := by omega
  have n4 : ¬ w.heap.size + 1 = b := by omega
  rw [← ha'] at RI ⊢
  rw [show ((k - 1 : Nat) : Int) = (k : Int) - 1 by omega]
  clear e4 hc hcap g4 g5 hck hfz hit hz h1 h2 h3 h4 hv e2 g1 g2 g3 SA SA0 hn ha' hp
  go_enter Tryz.func164, Tryz.ntmps164
  go_wp2_with fail
  refine (RI.out _ _).mono ?_
  rintro _ wq ⟨rfl, sq⟩
  have hb := HB.out
  have X1 := (X.out.other (a := ⟨b, off + a, none⟩) (by simp; omega) (.complex .f32 0 0)).keep sq
  have Y1 := (Y.out.other (a := ⟨b, off + a, none⟩) (by simp; omega) (.complex .f32 0 0)).keep sq
  have S1 := Lib.hid (((S0.out.setCell (p := ⟨b, off + a, none⟩) (.inl ⟨hb.1, hb.2.1⟩) (.complex .f32 0 0)).trans (sq.wide (fun _ _ h => by omega))))
  have H1 := Lib.hid ((HX0.out.put a (0, 0) (by rw [← HNX.out]; exact HA.out)).span sq (.inl (Nat.le_refl _)))
  have hk := HK.out
  have Y2 := (Y1.other (a := ⟨w.heap.size, 1, none⟩) (by simp) (.int .i64 (a' : Int))).other (a := ⟨w.heap.size, 2, none⟩) (by simp) (.int .i64 ((k : Int) - 1))
  have YS := Lib.hid (Y2.set3 (.slice (some ⟨b, off, none⟩) n p) (.int .i64 (a' : Int)) (.int .i64 ((k : Int) - 1)))
  have cx := X1.cells
  have fx := X1.thaw
  have cy := Y1.cells
  have fy := Y1.thaw
  clear sq X1 Y1 ck cf hb Y2
  go_wp2_with fail
  have d1 := YS.out.cells
  have hb := HB.out
  have hz := S1.out.size
  have P1 := ((Span.refl w.heap.size (w.heap.size + 2) wq).setCell (p := ⟨w.heap.size, 1, none⟩) (.inl (by simp)) (.int .i64 (a' : Int))).setCell (p := ⟨w.heap.size, 2, none⟩) (.inl (by simp)) (.int .i64 ((k : Int) - 1))
  have P2 := P1.put3 (b := w.heap.size + 1) (by omega) (.slice (some ⟨b, off, none⟩) n p) (.int .i64 (a' : Int)) (.int .i64 ((k : Int) - 1))
  have Q1 := (S1.out.setCell (p := ⟨w.heap.size, 1, none⟩) (.inr (Nat.le_refl _)) (.int .i64 (a' : Int))).setCell (p := ⟨w.heap.size, 2, none⟩) (.inr (Nat.le_refl _)) (.int .i64 ((k : Int) - 1))
  refine bodyPost_ret (v := .tuple #[.agg #[.slice (some ⟨b, off, none⟩) n p, .int .i64 (a' : Int), .int .i64 ((k : Int) - 1)], cxV (z1, z2)]) (by simp [results, Tryz.results164, go_sem, d1]) rfl ⟨rfl, H1.out.span P2 (by omega), Q1.set3 (by omega) _ _ _⟩
end Go.Proofs.YtkjlodoppmipfaaGreat
