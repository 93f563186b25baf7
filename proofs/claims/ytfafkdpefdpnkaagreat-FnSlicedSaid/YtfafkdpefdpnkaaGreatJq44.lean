/- Slicers are stepped. -/
import Derived.Test.YtfafkdpefdpnkaaGreatJq38
import Derived.Test.YtfafkdpefdpnkaaGreatJq43
import Derived.Outline
namespace Go.Proofs.YtfafkdpefdpnkaaGreat
open Go.RowKit

theorem snoc_indS {α : Type} {P : List α → Prop} (h0 : P []) (h1 : ∀ l a, P l → P (l ++ [a])) (l : List α) : P l := by
  rw [← List.reverse_reverse l]
  induction l.reverse with
  | nil => exact h0
  | cons a l ih => rw [List.reverse_cons]; exact h1 _ _ ih

theorem near_lt (Q : List Cx) (z : Cx) : ∀ i d, nearC Q z = some (i, d) → i < Q.length := by
  refine snoc_indS (P := fun Q => ∀ i d, nearC Q z = some (i, d) → i < Q.length) ?_ ?_ Q
  · intro i d h; cases h
  · intro Q p ih i d h
    rw [nearC_snoc] at h
    rw [List.length_append, List.length_singleton]
    unfold nearStep at h
    split at h
    · have := ih i d h; omega
    · split at h
      · injection h with h; injection h with h1 h2; omega
      · rename_i j m hj
        split at h
        · injection h with h; injection h with h1 h2; omega
        · injection h with h; injection h with h1 h2; subst h1; subst h2; have := ih _ _ hj; omega

/-- What a slicer tells of a point: the nearest point of its table and its label. -/
def slicO (t : Tab) (z : Cx) : Cx × Int := match nearC t.1 z with | none => ((0, 0), -1) | some (i, _) => (t.1.getD i (0, 0), t.2.getD i 0)

set_option maxRecDepth 100000 in
set_option maxHeartbeats 4000000 in
theorem slicer_step (b : Nat) (t : Tab) (hv : Valid t) (A B : Option Addr) (n p q : Nat) (c : Int) (z1 z2 : Nat) (hn : n = t.1.length) (o : Bool) (lo hi : Nat) (hb : hi ≤ b) (w : World) (hx : Bx b #[.slice A n p, .slice B n q, .int .i64 c] w) (hs : HasTab o lo hi w (.agg #[.slice A n p, .slice B n q]) t) :
    Calls Tryz.prog 102 #[.pointer (some ⟨b, 0, none⟩), .complex .f32 z1 z2] w fun e w' => e = .returned (.complex .f32 (slicO t (z1, z2)).1.1 (slicO t (z1, z2)).1.2) ∧ Bx b #[.slice A n p, .slice B n q, .int .i64 (slicO t (z1, z2)).2] w' ∧ Span b (b + 1) w w' := by
  obtain ⟨b1, b2, vP, vL, e, -, g1, g2⟩ := hs
  cases e
  have cx := hx.cells
  have HX := Lib.hid hx
  have hm : t.1.length ≤ 4194304 := by have := hv.most; omega
  have NE := Lib.hid (fun v w (h : HasS cxV o b1 lo hi w v t.1) => nearestIn_any t.1 (z1, z2) o b1 lo hi v w h hm)
  have G1 := Lib.hid g1
  cases hr : nearC t.1 (z1, z2) with
  | none =>
    have ho : slicO t (z1, z2) = ((0, 0), -1) := by unfold slicO; rw [hr]
    rw [ho]
    have HR := Lib.hid hr
    clear hx hm g1 g2 hr hv hn ho
    go_enter Tryz.func102, Tryz.ntmps102
    go_wp2_with fail
    refine (NE.out _ _ G1.out).mono ?_
    rintro _ _ ⟨k, rfl, rfl⟩
    rw [HR.out]
    have ct : ∀ i, (w.drewN k).cell? ⟨b, i, none⟩ = #[.slice A n p, .slice B n q, .int .i64 c][i]? := cx
    have ft := (HX.out.drewN k).thaw
    go_wp2_with fail
    go_ret
    have := (HX.out.drewN k).set 2 (.int .i64 (-1)) (by simp)
    exact ⟨rfl, by simpa using this, ((Span.refl b (b + 1) w).drewN k).setCell (.inl ⟨Nat.le_refl _, Nat.lt_succ_self _⟩) _⟩
  | some jm =>
    obtain ⟨j, m⟩ := jm
    have hj := near_lt _ _ _ _ hr
    obtain ⟨x, hx1⟩ := getElem?_some (xs := t.1) hj
    obtain ⟨l, hl1⟩ := getElem?_some (xs := t.2) (j := j) (by rw [hv.len]; exact hj)
    have ho : slicO t (z1, z2) = (x, l) := by unfold slicO; rw [hr]; simp only [List.getD_eq_getElem?_getD, hx1, hl1, Option.getD_some]
    rw [ho]
    simp only
    obtain ⟨off1, rfl⟩ := g1.addr (by omega)
    obtain ⟨off2, rfl⟩ := g2.addr (by rw [hv.len]; omega)
    have c1 : ∀ k, (w.drewN k).cell? ⟨b1, off1 + j, none⟩ = some (.complex .f32 x.1 x.2) := fun k => g1.at_ hx1
    have c2 : ∀ k, (w.drewN k).cell? ⟨b2, off2 + j, none⟩ = some (.int .i64 l) := fun k => g2.at_ hl1
    have hb1 : b1 ≠ b := by
      obtain ⟨A', c', e, _, hc⟩ := g1
      obtain ⟨_, _, _, h1, _⟩ := hc (by omega)
      omega
    have c3 : ∀ k, ((w.drewN k).setCell ⟨b, 2, none⟩ (.int .i64 l)).cell? ⟨b1, off1 + j, none⟩ = some (.complex .f32 x.1 x.2) := fun k => (World.cell?_setCell_other _ ⟨b, 2, none⟩ ⟨b1, off1 + j, none⟩ _ (by intro h; injection h with h1; first | exact hb1 h1 | exact hb1 h1.symm)).trans (c1 k)
    have hjn : j < n := by rw [hn]; exact hj
    have hji : (j : Int) < (n : Int) := by omega
    have HR := Lib.hid hr
    clear hx hm g1 g2 hr hv hn ho hx1 hl1 hb1 c1 hj
    go_enter Tryz.func102, Tryz.ntmps102
    go_wp2_with fail
    refine (NE.out _ _ G1.out).mono ?_
    rintro _ _ ⟨k, rfl, rfl⟩
    rw [HR.out]
    have ct := (HX.out.drewN k).cells
    have cu := ((HX.out.drewN k).set 2 (.int .i64 l) (by simp)).cells
    have ft := (HX.out.drewN k).thaw
    have d2 := c2 k
    have d3 := c3 k
    simp only [Option.map_some, Option.getD_some, Option.isSome_some]
    go_wp2_with fail
    go_ret
    have := (HX.out.drewN k).set 2 (.int .i64 l) (by simp)
    exact ⟨rfl, by simpa using this, ((Span.refl b (b + 1) w).drewN k).setCell (.inl ⟨Nat.le_refl _, Nat.lt_succ_self _⟩) _⟩

/-- A step of a valid slicer. -/
def StepS (t : Tab) (n : Nat) (z : Cx) (w : World) (e : Ending) (w' : World) : Prop :=
  ∃ A p B q, e = .returned (.tuple #[.agg #[.int .i64 6, .complex .f32 0 0, .complex .f32 0 0, .float .f32 0, .slice none 0 0, .int .i64 0, .int .i64 0, .slice A n p, .slice B n q, .int .i64 (slicO t z).2, .int .i64 0], .complex .f32 (slicO t z).1.1 (slicO t z).1.2, .bool true]) ∧ HasTab true w.heap.size w'.heap.size w' (.agg #[.slice A n p, .slice B n q]) t ∧ Span 0 0 w w'

set_option maxRecDepth 100000 in
set_option maxHeartbeats 4000000 in
theorem stepModule_slicer (t : Tab) (hv : Valid t) (A B : Option Addr) (n p q : Nat) (c : Int) (z1 z2 : Nat) (hn : n = t.1.length) (o : Bool) (lo hi : Nat) (w : World) (hs : HasTab o lo hi w (.agg #[.slice A n p, .slice B n q]) t) :
    Calls Tryz.prog 8 #[.agg #[.int .i64 6, .complex .f32 0 0, .complex .f32 0 0, .float .f32 0, .slice none 0 0, .int .i64 0, .int .i64 0, .slice A n p, .slice B n q, .int .i64 c, .int .i64 0], .complex .f32 z1 z2] w (StepS t n (z1, z2) w) := by
  have cm1 := call_slicer_step
  have cm2 := call_slicer_module
  have VU := Lib.hid (fun w h => validUnit_slicer t hv A B n p q c hn o lo hi w h)
  have ST := fun b A B p q lo hi hb w h k => slicer_step b t hv A B n p q c z1 z2 hn true lo hi hb w h k
  unfold StepS
  obtain ⟨⟨⟨o1, o2⟩, l⟩, hO⟩ : ∃ t', t' = slicO t (z1, z2) := ⟨_, rfl⟩
  simp only [← hO] at ST ⊢
  have HST := Lib.hid ST
  have HG := Lib.hid hs
  clear hn hv hs hO ST
  go_enter Tryz.func8, Tryz.ntmps8
  go_wp2_with fail
  refine (VU.out _ ((HG.out.allocS _).allocS _)).mono ?_
  rintro _ w1 ⟨b, A3, p3, B3, q3, rfl, x1, k1, g1, sp1⟩
  have Y := (Bx.new (w.alloc (.cells #[.int .i64 6, .complex .f32 0 0, .complex .f32 0 0, .float .f32 0, .slice none 0 0, .int .i64 0, .int .i64 0, .slice A n p, .slice B n q, .int .i64 c, .int .i64 0] 33)) #[.int .i64 0, .complex .f32 0 0, .complex .f32 0 0, .float .f32 0, .slice none 0 0, .int .i64 0, .int .i64 0, .slice none 0 0, .slice none 0 0, .int .i64 0, .int .i64 0] 33).keep sp1
  rw [show (w.alloc (.cells #[.int .i64 6, .complex .f32 0 0, .complex .f32 0 0, .float .f32 0, .slice none 0 0, .int .i64 0, .int .i64 0, .slice A n p, .slice B n q, .int .i64 c, .int .i64 0] 33)).heap.size = w.heap.size + 1 by simp] at Y
  have S1 := Lib.hid ((((Span.refl 0 0 w).alloc (.cells #[.int .i64 6, .complex .f32 0 0, .complex .f32 0 0, .float .f32 0, .slice none 0 0, .int .i64 0, .int .i64 0, .slice A n p, .slice B n q, .int .i64 c, .int .i64 0] 33)).alloc (.cells #[.int .i64 0, .complex .f32 0 0, .complex .f32 0 0, .float .f32 0, .slice none 0 0, .int .i64 0, .int .i64 0, .slice none 0 0, .slice none 0 0, .int .i64 0, .int .i64 0] 33)).trans sp1)
  have e0 : ((w.alloc (.cells #[.int .i64 6, .complex .f32 0 0, .complex .f32 0 0, .float .f32 0, .slice none 0 0, .int .i64 0, .int .i64 0, .slice A n p, .slice B n q, .int .i64 c, .int .i64 0] 33)).alloc (.cells #[.int .i64 0, .complex .f32 0 0, .complex .f32 0 0, .float .f32 0, .slice none 0 0, .int .i64 0, .int .i64 0, .slice none 0 0, .slice none 0 0, .int .i64 0, .int .i64 0] 33)).heap.size = w.heap.size + 2 := by simp
  rw [e0] at k1 g1
  have X1 := Lib.hid x1
  have Y1 := Lib.hid Y
  have H1 := Lib.hid k1
  have G1 := Lib.hid g1
  clear sp1 x1 k1 Y g1 e0
  go_wp2_with fail
  refine (HST.out b A3 B3 p3 q3 _ _ (Nat.le_refl _) w1 X1.out G1.out).mono ?_
  rintro _ w2 ⟨rfl, x2, sp2⟩
  have hb := H1.out
  have Y2 := Lib.hid (Y1.out.span sp2 (by omega))
  have S2 := Lib.hid (show Span 0 0 w w2 from ⟨sp2.os.trans S1.out.os, sp2.tape.trans S1.out.tape, sp2.output.trans S1.out.output, Nat.le_trans S1.out.size sp2.size, fun k hk _ => (sp2.block k (Nat.lt_of_lt_of_le hk S1.out.size) (by omega)).trans (S1.out.block k hk (by omega))⟩)
  have X2 := Lib.hid x2
  have G2 := Lib.hid (G1.out.span sp2 (.inr (.inl (Nat.le_refl _))))
  have Z1 : Hid (w.heap.size + 2 ≤ w1.heap.size) := by unfold Hid; have := X1.out.1; omega
  clear sp2 x2 hb
  go_wp2_with fail
  refine (slicer_module b A3 B3 n p3 q3 _ _ X2.out).mono ?_
  rintro _ w3 ⟨rfl, sp3⟩
  have Y3 := Y2.out.keep sp3
  have S3 := Lib.hid (S2.out.trans sp3)
  have z3 := sp3.size
  have hbz := X2.out.1
  have G3 := Lib.hid ((G2.out.span sp3 (.inl (Nat.le_refl _))).weak (Nat.le_refl _) (hi' := w3.heap.size) (.inl (by omega)))
  have cy := Y3.cells
  have fy := Y3.thaw
  have YS := Lib.hid (Y3.set11 (.int .i64 6) (.complex .f32 0 0) (.complex .f32 0 0) (.float .f32 0) (.slice none 0 0) (.int .i64 0) (.int .i64 0) (.slice A3 n p3) (.slice B3 n q3) (.int .i64 l) (.int .i64 0))
  clear sp3 Y3 z3 hbz
  go_wp2_with fail
  have d1 := YS.out.cells
  have z1 := Z1.out
  have T3 := (Span.refl (w.heap.size + 1) (w.heap.size + 2) w3).put11 (b := w.heap.size + 1) (by omega) (.int .i64 6) (.complex .f32 0 0) (.complex .f32 0 0) (.float .f32 0) (.slice none 0 0) (.int .i64 0) (.int .i64 0) (.slice A3 n p3) (.slice B3 n q3) (.int .i64 l) (.int .i64 0)
  refine bodyPost_ret (v := .tuple #[.agg #[.int .i64 6, .complex .f32 0 0, .complex .f32 0 0, .float .f32 0, .slice none 0 0, .int .i64 0, .int .i64 0, .slice A3 n p3, .slice B3 n q3, .int .i64 l, .int .i64 0], .complex .f32 o1 o2, .bool true]) (by simp [results, Tryz.results8, go_sem, d1]) rfl ⟨A3, p3, B3, q3, rfl, ?_, S3.out.set11 (by omega) _ _ _ _ _ _ _ _ _ _ _⟩
  exact (G3.out.span T3 (by omega)).weak (by omega) (.inl T3.size)
end Go.Proofs.YtfafkdpefdpnkaaGreat
