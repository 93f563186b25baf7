/- Products that need no draw; clones. A copy of a table; tables that are turned. -/
import Derived.Test.YtkjlodoppmipfaaGreatJg12
import Derived.WalkSpells
namespace Go.Proofs.YtkjlodoppmipfaaGreat
section
open Go.RowKit

/-- A product whose parts are numbers that single precision has room for. -/
def mulS (a b : Cx) : Option Cx :=
  (floatToFloatBits .f32 a.1 .f64).bind fun ar => (floatToFloatBits .f32 a.2 .f64).bind fun ai => (floatToFloatBits .f32 b.1 .f64).bind fun br => (floatToFloatBits .f32 b.2 .f64).bind fun bi =>
  (floatBits .mul .f64 ar br).bind fun p => (floatBits .mul .f64 ai bi).bind fun q => (floatBits .sub .f64 p q).bind fun re => (floatToFloatBits .f64 re .f32).bind fun x =>
  (floatBits .mul .f64 ar bi).bind fun r => (floatBits .mul .f64 ai br).bind fun s => (floatBits .add .f64 r s).bind fun im => (floatToFloatBits .f64 im .f32).bind fun y => some (x, y)

theorem cv_of {s k : FloatKind} {b r : Nat} (h : floatToFloatBits s b k = some r) : (∀ w, fCv s k b w = r) ∧ fCd s k b = 0 := by simp [fCv, fCd, h]
theorem ar_of {op : BinOp} {k : FloatKind} {x y r : Nat} (h : floatBits op k x y = some r) : (∀ w, fAr op k x y w = r) ∧ fDr op k x y = 0 := by simp [fAr, fDr, h]

set_option maxRecDepth 100000 in
set_option maxHeartbeats 1000000 in
theorem impl_multiply_some (a b z : Cx) (h : mulS a b = some z) (w : World) : Calls Tryz.prog 147 #[.complex .f32 a.1 a.2, .complex .f32 b.1 b.2] w fun e w' => e = .returned (.complex .f32 z.1 z.2) ∧ w = w' := by
  unfold mulS at h
  obtain ⟨ar, h1, h⟩ := bind_some h
  obtain ⟨ai, h2, h⟩ := bind_some h
  obtain ⟨br, h3, h⟩ := bind_some h
  obtain ⟨bi, h4, h⟩ := bind_some h
  obtain ⟨p, h5, h⟩ := bind_some h
  obtain ⟨q, h6, h⟩ := bind_some h
  obtain ⟨re, h7, h⟩ := bind_some h
  obtain ⟨x, h8, h⟩ := bind_some h
  obtain ⟨r, h9, h⟩ := bind_some h
  obtain ⟨s, h10, h⟩ := bind_some h
  obtain ⟨im, h11, h⟩ := bind_some h
  obtain ⟨y, h12, h⟩ := bind_some h
  cases h
  obtain ⟨c1, d1⟩ := cv_of h1
  obtain ⟨c2, d2⟩ := cv_of h2
  obtain ⟨c3, d3⟩ := cv_of h3
  obtain ⟨c4, d4⟩ := cv_of h4
  obtain ⟨c5, d5⟩ := ar_of h5
  obtain ⟨c6, d6⟩ := ar_of h6
  obtain ⟨c7, d7⟩ := ar_of h7
  obtain ⟨c8, d8⟩ := cv_of h8
  obtain ⟨c9, d9⟩ := ar_of h9
  obtain ⟨c10, d10⟩ := ar_of h10
  obtain ⟨c11, d11⟩ := ar_of h11
  obtain ⟨c12, d12⟩ := cv_of h12
  obtain ⟨a1, a2⟩ := a
  obtain ⟨b1, b2⟩ := b
  simp only at *
  clear h1 h2 h3 h4 h5 h6 h7 h8 h9 h10 h11 h12
  go_enter Tryz.func147, Tryz.ntmps147
  go_wp2
  go_ret
  exact ⟨rfl, rfl⟩

/-- A slice in new memory. -/
def GivesS {α : Type} (val : α → Value) (xs : List α) (w : World) (e : Ending) (w' : World) : Prop :=
  ∃ v b, e = .returned v ∧ HasS val true b w.heap.size w'.heap.size w' v xs ∧ Span 0 0 w w'

theorem one_cells {xs : List Cx} : ∀ u ∈ xs.map cxV, u.oneCell' = true := by
  intro u hu
  obtain ⟨x, _, rfl⟩ := List.mem_map.1 hu
  rfl
theorem one_cellsI {xs : List Int} : ∀ u ∈ xs.map intV, u.oneCell' = true := by
  intro u hu
  obtain ⟨x, _, rfl⟩ := List.mem_map.1 hu
  rfl

theorem HasS.news {α : Type} {val : α → Value} {own : Bool} {b lo hi off n c : Nat} {w : World} {xs : List α} (h : HasS val own b lo hi w (.slice (some ⟨b, off, none⟩) n c) xs) (o : Obj) :
    ∀ j u, (xs.map val)[j]? = some u → (w.alloc o).cell? ((⟨b, off, none⟩ : Addr).add j) = some u := by
  intro j u hj
  rw [List.getElem?_map, Option.map_eq_some_iff] at hj
  obtain ⟨x, hx, rfl⟩ := hj
  obtain ⟨A, cap, e, _, hc⟩ := h
  obtain ⟨off', e2, _, _, hb, hcell, _⟩ := hc (by have := (List.getElem?_eq_some_iff.1 hx).1; omega)
  injection e with e3 _ _
  rw [e2] at e3
  injection e3 with e3
  injection e3 with _ e4
  subst e4
  rw [Addr.add_lit]
  exact ((Span.alloc (Span.refl 0 0 w) o).cells (Nat.le_refl _)).1 b _ hb |>.trans (hcell j x hx)

set_option maxRecDepth 100000 in
set_option maxHeartbeats 1000000 in
theorem cloneC_any (xs : List Cx) (o : Bool) (b lo hi : Nat) (v : Value) (w : World) (hx : HasS cxV o b lo hi w v xs) (hlen : xs.length ≤ 4194304) :
    Calls Tryz.prog 23 #[v] w (GivesS cxV xs w) := by
  have HX := Lib.hid hx
  obtain ⟨ip, hip, hzp, hsp, hbp⟩ := info_parts info_c64
  obtain ⟨A, cap, rfl, hcap, hc⟩ := hx
  obtain ⟨len, hl⟩ : ∃ len, len = xs.length := ⟨_, rfl⟩
  have HL := Lib.hid hl
  rw [← hl] at hcap hlen HX ⊢
  cases A with
  | none =>
    have h0 : len = 0 := by
      by_cases h : 0 < len
      · obtain ⟨off, e, _⟩ := hc (by omega)
        cases e
      · omega
    subst h0
    have HE : Hid (xs = []) := by cases xs with | nil => exact rfl | cons a l => simp at hl
    clear hc hl
    have hq := Lib.run_eql_slice_nil (P := Tryz.prog) w 25 23 none 0 cap 0 0 Tryz.underlying25
    go_enter Tryz.func23, Tryz.ntmps23
    go_wp2
    go_ret
    refine ⟨_, 0, rfl, ?_, Span.refl _ _ _⟩
    rw [HE.out]; exact HasS.empty _ _ _ _ _ _ _ _
  | some ad =>
    have HO := Lib.hid (World.ownsRow_made (base := w.heap.size) (e := 23) (size := 1) w #[] 0 (Nat.le_refl _) (Nat.zero_le _) rfl)
    have HN : Hid (∀ (o : Obj) (j : Nat) u, (xs.map cxV)[j]? = some u → (w.alloc o).cell? (ad.add j) = some u) := by
      unfold Hid
      intro o j u hj
      have hp : 0 < xs.length := by
        have := (List.getElem?_eq_some_iff.1 hj).1
        simp at this; omega
      obtain ⟨off, e, _⟩ := hc hp
      cases e
      exact HX.out.news o j u hj
    clear hc hl
    have hq := Lib.run_eql_slice_nil (P := Tryz.prog) w 25 23 (some ad) len cap 0 0 Tryz.underlying25
    go_enter Tryz.func23, Tryz.ntmps23
    go_wp2_with (at_builtin; go_loud ((refine wpList_append_own _ rfl _ _ 25 rfl w.heap.size 23 ip (.complex .f32 0 0) 1 8 Tryz.underlying25 hip hzp hsp hbp rfl (by decide) _ _ _ rfl HO.out ad len cap (xs.map cxV) rfl ?c1 ?c2 ?c3 ?c4 ?c5 ?c6 ?_); (case c1 => rw [List.length_map, ← HL.out, Nat.mul_one]); (case c2 => exact HN.out _); (case c3 => exact one_cells); (case c4 => unfold maxLen; omega); (case c5 => omega); (case c6 => simp); intro v1 w1 ho hgr _; rw [Nat.zero_add, List.nil_append] at ho; obtain ⟨A1, q1, rfl⟩ := ownsRow_slice ho; have HO1 := Lib.hid ho; have HG1 := Lib.hid hgr; clear ho hgr))
    go_ret
    have ho := HO1.out
    obtain ⟨b', h1, _, _⟩ := ownsRow_hasS ho
    exact ⟨_, b', rfl, h1, ((Span.refl _ _ _).alloc _).grown HG1.out (fun k hk => by have hk' : some w.heap.size = some k := hk; injection hk' with hk'; right; omega)⟩

set_option maxRecDepth 100000 in
set_option maxHeartbeats 1000000 in
theorem cloneI_any (xs : List Int) (o : Bool) (b lo hi : Nat) (v : Value) (w : World) (hx : HasS intV o b lo hi w v xs) (hlen : xs.length ≤ 4194304) :
    Calls Tryz.prog 122 #[v] w (GivesS intV xs w) := by
  have HX := Lib.hid hx
  obtain ⟨ip, hip, hzp, hsp, hbp⟩ := info_parts info_int
  obtain ⟨A, cap, rfl, hcap, hc⟩ := hx
  obtain ⟨len, hl⟩ : ∃ len, len = xs.length := ⟨_, rfl⟩
  have HL := Lib.hid hl
  rw [← hl] at hcap hlen HX ⊢
  cases A with
  | none =>
    have h0 : len = 0 := by
      by_cases h : 0 < len
      · obtain ⟨off, e, _⟩ := hc (by omega)
        cases e
      · omega
    subst h0
    have HE : Hid (xs = []) := by cases xs with | nil => exact rfl | cons a l => simp at hl
    clear hc hl
    have hq := Lib.run_eql_slice_nil (P := Tryz.prog) w 28 3 none 0 cap 0 0 Tryz.underlying28
    go_enter Tryz.func122, Tryz.ntmps122
    go_wp2
    go_ret
    refine ⟨_, 0, rfl, ?_, Span.refl _ _ _⟩
    rw [HE.out]; exact HasS.empty _ _ _ _ _ _ _ _
  | some ad =>
    have HO := Lib.hid (World.ownsRow_made (base := w.heap.size) (e := 3) (size := 1) w #[] 0 (Nat.le_refl _) (Nat.zero_le _) rfl)
    have HN : Hid (∀ (o : Obj) (j : Nat) u, (xs.map intV)[j]? = some u → (w.alloc o).cell? (ad.add j) = some u) := by
      unfold Hid
      intro o j u hj
      have hp : 0 < xs.length := by
        have := (List.getElem?_eq_some_iff.1 hj).1
        simp at this; omega
      obtain ⟨off, e, _⟩ := hc hp
      cases e
      exact HX.out.news o j u hj
    clear hc hl
    have hq := Lib.run_eql_slice_nil (P := Tryz.prog) w 28 3 (some ad) len cap 0 0 Tryz.underlying28
    go_enter Tryz.func122, Tryz.ntmps122
    go_wp2_with (at_builtin; go_loud ((refine wpList_append_own _ rfl _ _ 28 rfl w.heap.size 3 ip (.int .i64 0) 1 8 Tryz.underlying28 hip hzp hsp hbp rfl (by decide) _ _ _ rfl HO.out ad len cap (xs.map intV) rfl ?c1 ?c2 ?c3 ?c4 ?c5 ?c6 ?_); (case c1 => rw [List.length_map, ← HL.out, Nat.mul_one]); (case c2 => exact HN.out _); (case c3 => exact one_cellsI); (case c4 => unfold maxLen; omega); (case c5 => omega); (case c6 => simp); intro v1 w1 ho hgr _; rw [Nat.zero_add, List.nil_append] at ho; obtain ⟨A1, q1, rfl⟩ := ownsRow_slice ho; have HO1 := Lib.hid ho; have HG1 := Lib.hid hgr; clear ho hgr))
    go_ret
    have ho := HO1.out
    obtain ⟨b', h1, _, _⟩ := ownsRow_hasS ho
    exact ⟨_, b', rfl, h1, ((Span.refl _ _ _).alloc _).grown HG1.out (fun k hk => by have hk' : some w.heap.size = some k := hk; injection hk' with hk'; right; omega)⟩
end
section
open Go.RowKit

def GivesT (t : Tab) (w : World) (e : Ending) (w' : World) : Prop :=
  ∃ v, e = .returned v ∧ HasTab true w.heap.size w'.heap.size w' v t ∧ Span 0 0 w w'

theorem HasS.apart {α β : Type} {val : α → Value} {val' : β → Value} {o o' : Bool} {b b' lo mid hi : Nat} {w : World} {v v' : Value} {xs : List α} {ys : List β} (h : HasS val o b lo mid w v xs) (h' : HasS val' o' b' mid hi w v' ys) (hl : 0 < xs.length) (hl' : 0 < ys.length) : b ≠ b' := by
  obtain ⟨A, c, rfl, _, hc⟩ := h
  obtain ⟨A', c', rfl, _, hc'⟩ := h'
  obtain ⟨_, _, _, h1, _⟩ := hc hl
  obtain ⟨_, _, h2, _⟩ := hc' hl'
  omega

theorem HasS.setCell {α : Type} {val : α → Value} {own : Bool} {b lo hi b0 o0 : Nat} {w : World} {v : Value} {xs : List α} (h : HasS val own b lo hi w v xs) (hd : b0 < lo) (u : Value) : HasS val own b lo hi (w.setCell ⟨b0, o0, none⟩ u) v xs :=
  h.span ((Span.refl b0 (b0 + 1) w).setCell (.inl ⟨Nat.le_refl _, Nat.lt_succ_self _⟩) u) (by omega)

theorem tab_of {own : Bool} {b1 b2 lo mid hi : Nat} {w : World} {vP vL : Value} {t : Tab} (h1 : HasS cxV own b1 lo mid w vP t.1) (h2 : HasS intV own b2 mid hi w vL t.2) (hl : lo ≤ mid) (hm : mid ≤ hi) : HasTab own lo hi w (.agg #[vP, vL]) t := by
  obtain ⟨P, L⟩ := t
  by_cases hP : 0 < P.length
  · by_cases hL : 0 < L.length
    · exact ⟨b1, b2, vP, vL, rfl, h1.apart h2 hP hL, h1.weak (Nat.le_refl _) (.inl hm), h2.weak hl (.inl (Nat.le_refl _))⟩
    · have e : L = [] := by cases L with | nil => rfl | cons a l => simp at hL
      subst e
      obtain ⟨A, c, rfl, _⟩ := h2
      exact ⟨b1, b1 + 1, vP, _, rfl, by omega, h1.weak (Nat.le_refl _) (.inl hm), HasS.empty _ _ _ _ _ _ _ _⟩
  · have e : P = [] := by cases P with | nil => rfl | cons a l => simp at hP
    subst e
    obtain ⟨A, c, rfl, _⟩ := h1
    exact ⟨b2 + 1, b2, _, vL, rfl, by omega, HasS.empty _ _ _ _ _ _ _ _, h2.weak hl (.inl (Nat.le_refl _))⟩

/-- A box of two cells that may be written. -/
def Box (b : Nat) (u v : Value) (w : World) : Prop := b < w.heap.size ∧ w.cell? ⟨b, 0, none⟩ = some u ∧ w.cell? ⟨b, 1, none⟩ = some v ∧ w.frozen? ⟨b, 0, none⟩ = false ∧ w.frozen? ⟨b, 1, none⟩ = false
theorem Box.new (w : World) (u v : Value) (t : TypeId) : Box w.heap.size u v (w.alloc (.cells #[u, v] t)) :=
  ⟨by simp, (box2_new w u v t).1, (box2_new w u v t).2, by rw [World.frozen?_alloc_new], by rw [World.frozen?_alloc_new]⟩
theorem Box.span {b : Nat} {u v : Value} {w w' : World} {lo hi : Nat} (h : Box b u v w) (hs : Span lo hi w w') (hd : hi ≤ lo ∨ b < lo ∨ hi ≤ b) : Box b u v w' := by
  obtain ⟨h0, h1, h2, h3, h4⟩ := h
  have e := hs.block b h0 (by omega)
  exact ⟨Nat.lt_of_lt_of_le h0 hs.size, (World.cell?_of_block (w := w) (a := ⟨b, 0, none⟩) e).trans h1, (World.cell?_of_block (w := w) (a := ⟨b, 1, none⟩) e).trans h2,
    (World.frozen?_of_block (w := w) (a := ⟨b, 0, none⟩) e).trans h3, (World.frozen?_of_block (w := w) (a := ⟨b, 1, none⟩) e).trans h4⟩
theorem Box.alloc {b : Nat} {u v : Value} {w : World} (h : Box b u v w) (o : Obj) : Box b u v (w.alloc o) := h.span ((Span.refl 0 0 w).alloc o) (.inl (Nat.le_refl _))
theorem Box.drewN {b : Nat} {u v : Value} {w : World} (h : Box b u v w) (n : Nat) : Box b u v (w.drewN n) := h

set_option maxRecDepth 100000 in
set_option maxHeartbeats 2000000 in
theorem copyTable_any (t : Tab) (o : Bool) (lo hi : Nat) (v : Value) (w : World) (hx : HasTab o lo hi w v t) (ht : t.2.length = t.1.length) (hm : t.1.length ≤ 4194304) :
    Calls Tryz.prog 110 #[v] w (GivesT t w) := by
  obtain ⟨b1, b2, vP, vL, rfl, hne, g1, g2⟩ := hx
  have G1 := Lib.hid g1
  have G2 := Lib.hid g2
  obtain ⟨AP, cP, rfl, _, _⟩ := g1
  obtain ⟨AL, cL, rfl, _, _⟩ := g2
  have HT := Lib.hid ht
  have HM := Lib.hid hm
  obtain ⟨lp, hlp⟩ : ∃ n, n = t.1.length := ⟨_, rfl⟩
  obtain ⟨ll, hll⟩ : ∃ n, n = t.2.length := ⟨_, rfl⟩
  have HLP := Lib.hid hlp
  have HLL := Lib.hid hll
  rw [← hlp] at G1 ⊢
  rw [← hll] at G2 ⊢
  clear ht hm hlp hll
  go_enter Tryz.func110, Tryz.ntmps110
  go_wp2_with fail
  have X0 := Lib.hid ((Box.new w (.slice AP lp cP) (.slice AL ll cL) 30).alloc (.cells #[.slice none 0 0, .slice none 0 0] 30))
  have X1 := Lib.hid (Box.new (w.alloc (.cells #[.slice AP lp cP, .slice AL ll cL] 30)) (.slice none 0 0) (.slice none 0 0) 30)
  have HS := Lib.hid ((((Span.refl 0 0 w).alloc (.cells #[.slice AP lp cP, .slice AL ll cL] 30))).alloc (.cells #[.slice none 0 0, .slice none 0 0] 30))
  rw [show (w.alloc (.cells #[.slice AP lp cP, .slice AL ll cL] 30)).heap.size = w.heap.size + 1 by simp] at X1
  generalize (w.alloc (.cells #[.slice AP lp cP, .slice AL ll cL] 30)).alloc (.cells #[.slice none 0 0, .slice none 0 0] 30) = w0 at *
  obtain ⟨hz, x0, x1, _, _⟩ := X0.out
  have HZ := Lib.hid hz
  clear hz
  go_region_with (first
    | (go_at_call 23; go_loud ((refine (cloneC_any t.1 o b1 lo hi _ _ ((G1.out.span HS.out (.inl (Nat.le_refl _))).drewN _) HM.out).mono ?_; rintro _ w1 ⟨v1, c1, rfl, h1, s1⟩; obtain ⟨A1, q1, rfl, _⟩ := id h1; rw [← HLP.out] at h1 ⊢; have X01 := (X0.out.drewN 1).span s1 (.inl (Nat.le_refl _)); have X11 := Lib.hid ((X1.out.drewN 1).span s1 (.inl (Nat.le_refl _))); have S1 := Lib.hid (s1.after (HS.out.drewN 1)); have H1 := Lib.hid h1; have Z1 : Hid (w0.heap.size ≤ w1.heap.size) := s1.size; obtain ⟨_, z0, z1, _, _⟩ := X01; clear h1 s1)))
    | (go_at_call 122; go_loud ((refine (cloneI_any t.2 o b2 lo hi _ _ ((G2.out.span S1.out (.inl (Nat.le_refl _)))) (by rw [HT.out]; exact HM.out)).mono ?_; rintro _ w2 ⟨v2, c2, rfl, h2, s2⟩; obtain ⟨A2, q2, rfl, _⟩ := id h2; rw [← HLL.out] at h2 ⊢; have X12 := X11.out.span s2 (.inl (Nat.le_refl _)); have S2 := Lib.hid (s2.after S1.out); have H12 := Lib.hid (H1.out.span s2 (.inl (Nat.le_refl _))); have H2 := Lib.hid h2; have Z2 : Hid (w1.heap.size ≤ w2.heap.size) := s2.size; obtain ⟨_, r0, r1, r2, r3⟩ := X12; clear h2 s2))))
  all_goals
    go_wp2_with fail
    have e0 : ((w2.setCell ⟨w.heap.size + 1, 0, none⟩ (.slice A1 lp q1)).setCell ⟨w.heap.size + 1, 1, none⟩ (.slice A2 ll q2)).cell? ⟨w.heap.size + 1, 0, none⟩ = some (.slice A1 lp q1) :=
      (World.cell?_setCell_other _ ⟨w.heap.size + 1, 1, none⟩ ⟨w.heap.size + 1, 0, none⟩ _ (by simp)).trans (World.cell?_setCell_same w2 ⟨w.heap.size + 1, 0, none⟩ _ r0)
    have e1 : ((w2.setCell ⟨w.heap.size + 1, 0, none⟩ (.slice A1 lp q1)).setCell ⟨w.heap.size + 1, 1, none⟩ (.slice A2 ll q2)).cell? ⟨w.heap.size + 1, 1, none⟩ = some (.slice A2 ll q2) :=
      World.cell?_setCell_same _ ⟨w.heap.size + 1, 1, none⟩ _ ((World.cell?_setCell_other _ ⟨w.heap.size + 1, 0, none⟩ ⟨w.heap.size + 1, 1, none⟩ _ (by simp)).trans r1)
    have z1 := X1.out.1
    have z2 := S1.out.size
    have z3 := S2.out.size
    have z4 : w0.heap.size ≤ w1.heap.size := Z1.out
    have z5 : w1.heap.size ≤ w2.heap.size := Z2.out
    refine bodyPost_ret (v := .agg #[.slice A1 lp q1, .slice A2 ll q2]) (by simp [results, Tryz.results110, go_sem, e0, e1]) rfl ⟨_, rfl, ?_, ?_⟩
    · have g1 : HasS cxV true c1 w0.heap.size w1.heap.size w2 (.slice A1 lp q1) t.1 := H12.out
      have g2 : HasS intV true c2 w1.heap.size w2.heap.size w2 (.slice A2 ll q2) t.2 := H2.out
      have h1 := (g1.setCell (b0 := w.heap.size + 1) (o0 := 0) (by omega) (.slice A1 lp q1)).setCell (b0 := w.heap.size + 1) (o0 := 1) (by omega) (.slice A2 ll q2)
      have h2 := (g2.setCell (b0 := w.heap.size + 1) (o0 := 0) (by omega) (.slice A1 lp q1)).setCell (b0 := w.heap.size + 1) (o0 := 1) (by omega) (.slice A2 ll q2)
      exact (tab_of h1 h2 (by omega) (by omega)).weak (by omega) (.inl (by simp [World.setCell]))
    · exact (S2.out.setCell (.inr (by simp)) _).setCell (.inr (by simp)) _
end
end Go.Proofs.YtkjlodoppmipfaaGreat
