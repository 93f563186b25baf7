/- The model's pools: any pool. -/
import Derived.Test.YtfafkdpefdpnkaaJq55
import Derived.Test.YtfafkdpefdpnkaaJq41
import Derived.Deep.CutBlock
namespace Go.Proofs.Ytfafkdpefdpnkaa
open Go.RowKit

/-- A pool that is being made: it lies in the box T; R is the result's box, a the cursor. -/
structure Pooling (B : Nat) (a : Addr) (R T : Nat) (w : World) (p : Pl) (vS vL : Value) (wr : World) : Prop where
  cur : Cur B wr a
  r : Box R (.slice none 0 0) (.slice none 0 0) wr
  bt : Box T vS vL wr
  pl : HasP (R + 1) T wr (.agg #[vS, vL]) p ∨ HasP (T + 1) wr.heap.size wr (.agg #[vS, vL]) p
  s : Span a.block (a.block + 1) w wr
  valid : VP p

theorem Pooling.span {B : Nat} {a : Addr} {R T : Nat} {w : World} {p : Pl} {vS vL : Value} {wr w' : World} (h : Pooling B a R T w p vS vL wr) (s : Span a.block (a.block + 1) wr w') (hc : Cur B w' a) (hR : a.block < R) (hT : R < T) : Pooling B a R T w p vS vL w' :=
  ⟨hc, h.r.span s (by omega), h.bt.span s (by omega), h.pl.imp (fun g => g.span s (by omega)) (fun g => (g.span s (by omega)).weak (Nat.le_refl _) (.inl s.size)), h.s.trans s, h.valid⟩

theorem Pooling.whole {B : Nat} {a : Addr} {R T : Nat} {w : World} {p : Pl} {vS vL : Value} {wr : World} (h : Pooling B a R T w p vS vL wr) (hT : R < T) : HasP (R + 1) wr.heap.size wr (.agg #[vS, vL]) p := by
  have := h.bt.1
  rcases h.pl with g | g
  · exact g.weak (Nat.le_refl _) (.inl (by omega))
  · exact g.weak (by omega) (.inl (Nat.le_refl _))

theorem GivesQ3.one {o : Option (Pl × Nat)} {w : World} {e : Ending} {w' : World} (h : GivesQ3 o w e w') (hv : ∀ q r, o = some (q, r) → VP q) :
    ∃ (q : Pl) (id : Int) (b : Bool) (A : Option Addr) (c : Nat) (A' : Option Addr) (c' : Nat), e = .returned (.tuple #[.agg #[.slice A q.1.length c, .slice A' q.2.length c'], .int .i64 id, .bool b]) ∧ (b = true → VP q) ∧ HasP w.heap.size w'.heap.size w' (.agg #[.slice A q.1.length c, .slice A' q.2.length c']) q ∧ Span 0 0 w w' := by
  obtain ⟨h1, h2⟩ := h
  cases o with
  | none => exact ⟨([], []), 0, false, none, 0, none, 0, h1, (fun h => by cases h), HasP.none_ _ _ _, h2⟩
  | some qr =>
    obtain ⟨q, r⟩ := qr
    obtain ⟨v, rfl, hp⟩ := h1
    obtain ⟨A, c, A', c', rfl⟩ := hp.form
    exact ⟨q, r, true, A, c, A', c', rfl, fun _ => hv q r rfl, hp, h2⟩

theorem GivesQ.one {o : Option Pl} {w : World} {e : Ending} {w' : World} (h : GivesQ o w e w') (hv : ∀ q, o = some q → VP q) :
    ∃ (q : Pl) (b : Bool) (A : Option Addr) (c : Nat) (A' : Option Addr) (c' : Nat), e = .returned (.tuple #[.agg #[.slice A q.1.length c, .slice A' q.2.length c'], .bool b]) ∧ (b = true → VP q) ∧ HasP w.heap.size w'.heap.size w' (.agg #[.slice A q.1.length c, .slice A' q.2.length c']) q ∧ Span 0 0 w w' := by
  obtain ⟨h1, h2⟩ := h
  cases o with
  | none => exact ⟨([], []), false, none, 0, none, 0, h1, (fun h => by cases h), HasP.none_ _ _ _, h2⟩
  | some q =>
    obtain ⟨v, rfl, hp⟩ := h1
    obtain ⟨A, c, A', c', rfl⟩ := hp.form
    exact ⟨q, true, A, c, A', c', rfl, fun _ => hv q rfl, hp, h2⟩

/-- What the switch leaves: the pool is as it was, the next one lies in the box N. -/
def NextP (B : Nat) (a : Addr) (R T N : Nat) (w : World) (p : Pl) (vS vL : Value) (s8 : Value) (wx : World) : Prop :=
  ∃ (q : Pl) (b : Bool) (A : Option Addr) (c : Nat) (A' : Option Addr) (c' : Nat), s8 = .bool b ∧ (b = true → VP q) ∧ Pooling B a R T w p vS vL wx ∧ Box N (.slice A q.1.length c) (.slice A' q.2.length c') wx ∧ HasP (T + 1) wx.heap.size wx (.agg #[.slice A q.1.length c, .slice A' q.2.length c']) q

theorem NextP.mk' {B : Nat} {a : Addr} {R T N : Nat} {w : World} {p q : Pl} {vS vL u v : Value} {wr w' : World} {lo hi : Nat} {A : Option Addr} {c : Nat} {A' : Option Addr} {c' : Nat} {b : Bool} (h : Pooling B a R T w p vS vL wr) (s : Span a.block (a.block + 1) wr w') (hc : Cur B w' a) (hR : a.block < R) (hT : R < T) (hw : w.heap.size ≤ R) (hN : wr.heap.size ≤ N)
    (hb : Box N u v w') (hq : HasP lo hi w' (.agg #[.slice A q.1.length c, .slice A' q.2.length c']) q) (hlo : N < lo) (hh : hi ≤ w'.heap.size) (hv : b = true → VP q) :
    NextP B a R T N w p vS vL (.bool b) ((w'.setCell ⟨N, 0, none⟩ (.slice A q.1.length c)).setCell ⟨N, 1, none⟩ (.slice A' q.2.length c')) := by
  have sp : Span N (N + 1) w' ((w'.setCell ⟨N, 0, none⟩ (.slice A q.1.length c)).setCell ⟨N, 1, none⟩ (.slice A' q.2.length c')) := ((Span.refl _ _ w').setCell (p := ⟨N, 0, none⟩) (.inl ⟨Nat.le_refl _, Nat.lt_succ_self _⟩) _).setCell (p := ⟨N, 1, none⟩) (.inl ⟨Nat.le_refl _, Nat.lt_succ_self _⟩) _
  have hTl := h.bt.1
  have h1 := h.span s hc hR hT
  have hst := box_stored (u' := .slice A q.1.length c) (v' := .slice A' q.2.length c') hb
  have hsz := hb.1
  refine ⟨q, b, A, c, A', c', rfl, hv, ⟨h1.cur.far sp (.inl (by omega)), h1.r.span sp (by omega), h1.bt.span sp (by omega), ?_, (h1.s.setCell (.inr (by simp only; omega)) _).setCell (.inr (by simp only; omega)) _, h1.valid⟩, ⟨by simpa [World.setCell] using hsz, hst.1, hst.2, by rw [World.frozen?_setCell, World.frozen?_setCell]; exact hb.2.2.2.1, by rw [World.frozen?_setCell, World.frozen?_setCell]; exact hb.2.2.2.2⟩, (hq.span sp (by omega)).weak (by omega) (.inl (Nat.le_trans hh sp.size))⟩
  exact h.pl.imp (fun g => (g.span s (by omega)).span sp (by omega)) (fun g => ((g.span s (by omega)).span sp (by omega)).weak (Nat.le_refl _) (.inl (Nat.le_trans s.size sp.size)))

/-- The next pool is taken. -/
theorem Pooling.store {B : Nat} {a : Addr} {R T : Nat} {w : World} {p q : Pl} {vS vL vS' vL' : Value} {wr : World} (h : Pooling B a R T w p vS vL wr) (hq : HasP (T + 1) wr.heap.size wr (.agg #[vS', vL']) q) (hv : VP q) (hR : a.block < R) (hT : R < T) (hw : w.heap.size ≤ R) :
    Pooling B a R T w q vS' vL' ((wr.setCell ⟨T, 0, none⟩ vS').setCell ⟨T, 1, none⟩ vL') := by
  have hTl := h.bt.1
  have sp : Span T (T + 1) wr ((wr.setCell ⟨T, 0, none⟩ vS').setCell ⟨T, 1, none⟩ vL') := ((Span.refl T (T + 1) wr).setCell (p := ⟨T, 0, none⟩) (.inl ⟨Nat.le_refl _, Nat.lt_succ_self _⟩) vS').setCell (p := ⟨T, 1, none⟩) (.inl ⟨Nat.le_refl _, Nat.lt_succ_self _⟩) vL'
  have hs := box_stored (u' := vS') (v' := vL') h.bt
  exact ⟨h.cur.far sp (.inl (by omega)), h.r.span sp (by omega), ⟨by simpa [World.setCell] using hTl, hs.1, hs.2, by rw [World.frozen?_setCell, World.frozen?_setCell]; exact h.bt.2.2.2.1, by rw [World.frozen?_setCell, World.frozen?_setCell]; exact h.bt.2.2.2.2⟩,
    .inr ((hq.span sp (by omega)).weak (Nat.le_refl _) (.inl sp.size)), (h.s.setCell (.inr (by simp only; omega)) _).setCell (.inr (by simp only; omega)) _, hv⟩

theorem Cur.grownFar' {B : Nat} {w w' : World} {a : Addr} {row : Option Nat} (h : Cur B w a) (hg : w.grownBy w' row) (hr : ∀ k, row = some k → B ≤ k ∧ k ≠ a.block) : Cur B w' a := by
  obtain ⟨g, A, n, c, i, x, rfl, hB, hh, hi, hn, hby⟩ := h
  have hlt : g < w.heap.size := by
    by_cases h : g < w.heap.size
    · exact h
    · rw [Array.getElem?_eq_none (by omega)] at hh; cases hh
  refine ⟨g, A, n, c, i, x, rfl, hB, ?_, hi, hn, ?_⟩
  · rw [hg.block g hlt (fun e => (hr g e.symm).2 rfl)]; exact hh
  · intro hn0
    obtain ⟨b, off, rfl, hb, hc⟩ := hby hn0
    refine ⟨b, off, rfl, hb, fun j hj => ?_⟩
    obtain ⟨u, u0, u1, hu⟩ := hc j hj
    exact ⟨u, u0, u1, hg.cell hu (fun e => by have := (hr b e.symm).1; omega)⟩
theorem Cur.base {B : Nat} {w : World} {a : Addr} (h : Cur B w a) : B ≤ a.block := by
  obtain ⟨g, A, n, c, i, x, rfl, hB, _⟩ := h
  exact hB

theorem pool_limbs {B : Nat} {a : Addr} {R T : Nat} {w : World} {p : Pl} {vS vL : Value} {wr w5 w' : World} (h : Pooling B a R T w p vS vL wr) (hR : a.block < R) (hT : R < T) (s5 : Span a.block (a.block + 1) wr w5) (s : Span a.block (a.block + 1) w5 w') (hc : Cur B w' a) :
    w'.cell? ⟨T, 0, none⟩ = some vS ∧ w'.cell? ⟨T, 1, none⟩ = some vL ∧ Span a.block (a.block + 1) w5 w' ∧ Cur B w' a := by
  obtain ⟨_, t0, t1, _⟩ := h.bt.span (s5.trans s) (by omega)
  exact ⟨t0, t1, s, hc⟩

theorem pool_far {B : Nat} {a : Addr} {R T N : Nat} {w : World} {p : Pl} {vS vL u v : Value} {wr w5 w' : World} (h : Pooling B a R T w p vS vL wr) (hR : a.block < R) (hT : R < T) (s5 : Span a.block (a.block + 1) wr w5) (s : Span a.block (a.block + 1) w5 w') (hc : Cur B w' a) (hN : wr.heap.size ≤ N) (hx : Box N u v w5) (u' v' : Value) :
    ((w'.setCell ⟨N, 0, none⟩ u').setCell ⟨N, 1, none⟩ v').cell? ⟨T, 0, none⟩ = some vS ∧ ((w'.setCell ⟨N, 0, none⟩ u').setCell ⟨N, 1, none⟩ v').cell? ⟨T, 1, none⟩ = some vL := by
  have hTl := h.bt.1
  have sp : Span N (N + 1) w' ((w'.setCell ⟨N, 0, none⟩ u').setCell ⟨N, 1, none⟩ v') := ((Span.refl _ _ w').setCell (p := ⟨N, 0, none⟩) (.inl ⟨Nat.le_refl _, Nat.lt_succ_self _⟩) _).setCell (p := ⟨N, 1, none⟩) (.inl ⟨Nat.le_refl _, Nat.lt_succ_self _⟩) _
  obtain ⟨_, t0, t1, _⟩ := (h.bt.span (s5.trans s) (by omega)).span sp (by omega)
  exact ⟨t0, t1⟩

theorem wrap_one {m : Nat} (h : (m : Int) < 4194304) : ((1 + m : Nat) : Int) = IntKind.i64.wrap (1 + (m : Int)) := by
  rw [IntWalk.i64_in _ (by omega)]; omega

/-- A pool is made. -/
def DrawnPl (B : Nat) (a : Addr) (w : World) (e : Ending) (w' : World) : Prop :=
  ∃ p v, e = .returned v ∧ VP p ∧ HasP w.heap.size w'.heap.size w' v p ∧ Cur B w' a ∧ Span a.block (a.block + 1) w w'

/-- What the loop keeps. -/
def PoolLoop (B : Nat) (a : Addr) (R T : Nat) (w : World) (c : Value) (wr : World) : Prop :=
  ∃ (k : Nat) (p : Pl) (A : Option Addr) (q : Nat) (A' : Option Addr) (q' : Nat), c = .int .i64 (k : Int) ∧ k ≤ 14 ∧ Pooling B a R T w p (.slice A p.1.length q) (.slice A' p.2.length q') wr

theorem six_cells (w : World) (u0 u1 u2 u3 u4 u5 : Int) (t : TypeId) (lo hi : Int) (h : ∀ u ∈ [u0, u1, u2, u3, u4, u5], lo ≤ u ∧ u ≤ hi) :
    ∀ j, j < 6 → ∃ u : Int, lo ≤ u ∧ u ≤ hi ∧ (w.alloc (.cells #[.int .i64 u0, .int .i64 u1, .int .i64 u2, .int .i64 u3, .int .i64 u4, .int .i64 u5] t)).cell? ⟨w.heap.size, j, none⟩ = some (.int .i64 u) := by
  intro j hj
  have hc : ∀ j, (w.alloc (.cells #[.int .i64 u0, .int .i64 u1, .int .i64 u2, .int .i64 u3, .int .i64 u4, .int .i64 u5] t)).cell? ⟨w.heap.size, j, none⟩ = (#[Value.int .i64 u0, .int .i64 u1, .int .i64 u2, .int .i64 u3, .int .i64 u4, .int .i64 u5] : Array Value)[j]? := fun j => by rw [World.cell?_alloc_new]
  match j, hj with
  | 0, _ => exact ⟨u0, (h u0 (by simp)).1, (h u0 (by simp)).2, by rw [hc]; rfl⟩
  | 1, _ => exact ⟨u1, (h u1 (by simp)).1, (h u1 (by simp)).2, by rw [hc]; rfl⟩
  | 2, _ => exact ⟨u2, (h u2 (by simp)).1, (h u2 (by simp)).2, by rw [hc]; rfl⟩
  | 3, _ => exact ⟨u3, (h u3 (by simp)).1, (h u3 (by simp)).2, by rw [hc]; rfl⟩
  | 4, _ => exact ⟨u4, (h u4 (by simp)).1, (h u4 (by simp)).2, by rw [hc]; rfl⟩
  | 5, _ => exact ⟨u5, (h u5 (by simp)).1, (h u5 (by simp)).2, by rw [hc]; rfl⟩

theorem poolV (n : Int) (h0 : 0 ≤ n) (h1 : n ≤ 256) : VP (List.replicate n.toNat (0, 0), []) :=
  ⟨by simp; omega, by simp, (fun x hx => by cases hx), (fun i => by rw [cnt_nil]; omega)⟩

theorem HasP0.hasP {o : Bool} {lo hi : Nat} {w : World} {v : Value} {t : List Cx} (h : HasP0 o lo hi w v t) : HasP lo hi w v (t, []) := by
  obtain ⟨b, vS, rfl, h1⟩ := h
  exact ⟨b, 0, vS, _, rfl, h1.bare, HasL.empty _ _ _ _ _ _⟩

set_option maxRecDepth 100000 in
set_option maxHeartbeats 4000000 in
theorem l3Pool_any (B : Nat) (a : Addr) (w : World) (h : Cur B w a) : Calls Try.prog 32 #[.pointer (some a)] w (DrawnPl B a w) := by
  obtain ⟨ip, hip, hzp, hsp, hbp⟩ := info_parts info_c64
  have HAL : Hid (a.block < w.heap.size) := h.lt
  have HC0 := Lib.hid h
  have X0 := Lib.hid ((Box.new w (.slice none 0 0) (.slice none 0 0) 45).alloc (.cells #[.int .i64 0, .int .i64 1, .int .i64 8, .int .i64 20, .int .i64 40, .int .i64 256] 3))
  have HC1 := Lib.hid ((h.alloc (.cells #[.slice none 0 0, .slice none 0 0] 45)).alloc (.cells #[.int .i64 0, .int .i64 1, .int .i64 8, .int .i64 20, .int .i64 40, .int .i64 256] 3))
  have HS := Lib.hid (((Span.refl a.block (a.block + 1) w).alloc (.cells #[.slice none 0 0, .slice none 0 0] 45)).alloc (.cells #[.int .i64 0, .int .i64 1, .int .i64 8, .int .i64 20, .int .i64 40, .int .i64 256] 3))
  have H6 := six_cells (w.alloc (.cells #[.slice none 0 0, .slice none 0 0] 45)) 0 1 8 20 40 256 3 0 256 (by decide)
  rw [show (w.alloc (.cells #[.slice none 0 0, .slice none 0 0] 45)).heap.size = w.heap.size + 1 by simp] at H6
  have H6' := Lib.hid H6
  clear h H6
  go_enter Try.func32, Try.ntmps32
  go_wp2_with fail
  refine (l01Int_any B a (w.heap.size + 1) 6 6 0 256 _ HC1.out (by have := HAL.out; omega) (by omega) (by omega) H6'.out).mono ?_
  rintro _ w1 ⟨⟨u, rfl, u0, u1, hc1⟩, hg1⟩
  have s1 := grown_span hg1
  have X1 := Lib.hid (X0.out.span s1 (.inr (.inr HAL.out)))
  have S1 := Lib.hid (HS.out.trans s1)
  have HC2 := Lib.hid hc1
  clear s1 hc1 hg1 X0 HC1 HS H6'
  go_wp2_with fail
  refine (spec_newPool u w1).mono ?_
  rintro _ w2 ⟨v, rfl, hp, s2⟩
  have hpo : poolO u = some (List.replicate u.toNat (0, 0)) := by unfold poolO; rw [if_pos ⟨u0, u1⟩]
  rw [hpo] at hp ⊢
  have hP := hp.hasP
  have HVP := poolV u u0 u1
  generalize List.replicate u.toNat ((0, 0) : Cx) = S0 at *
  obtain ⟨A, q, A', q', rfl⟩ := hP.form
  have hw1 : w.heap.size < w1.heap.size := X1.out.1
  have HW1 := Lib.hid hw1
  have HP0 : Hid (Pooling B a w.heap.size w2.heap.size w (S0, []) (.slice A S0.length q) (.slice A' 0 q') (w2.alloc (.cells #[.slice A S0.length q, .slice A' 0 q'] 45))) :=
    ⟨(HC2.out.span0 s2).alloc _, (X1.out.span s2 (.inl (Nat.le_refl _))).alloc _, Box.new _ _ _ _, .inl ((hP.span ((Span.refl 0 0 w2).alloc _) (.inl (Nat.le_refl _))).weak hw1 (.inl (Nat.le_refl _))), (S1.out.trans (s2.wid0 _ _)).alloc _, HVP⟩
  have HRT : Hid (w.heap.size < w2.heap.size) := Nat.lt_of_lt_of_le hw1 s2.size
  clear hp hP HVP hpo s2 hw1 X1 S1 HC2 u0 u1
  go_wp2_with fail
  refine (l01Below_any B a 14 _ HP0.out.cur (by omega) (by omega)).mono ?_
  rintro _ w3 ⟨r, rfl, r0, r1, hc3, hg3⟩
  have HP1 := Lib.hid (HP0.out.span (grown_span hg3) hc3 HAL.out HRT.out)
  obtain ⟨k, rfl⟩ := Int.eq_ofNat_of_zero_le r0
  have HK : Hid (k ≤ 14) := by unfold Hid; omega
  clear hc3 hg3 r0 r1 HP0
  go_wp2_with fail
  go_loopw [5] (fun c wr => PoolLoop B a w.heap.size w2.heap.size w c wr) (fun c _ => (intOf c).toNat)
  case atStart => exact ⟨k, (S0, []), A, q, A', q', rfl, HK.out, HP1.out⟩
  case round =>
    clear HP1 HK
    obtain ⟨k, p, A, q, A', q', rfl, hk, hp⟩ := hrel
    have HP := Lib.hid hp
    clear hp
    by_cases h0 : k = 0
    · subst h0
      obtain ⟨_, c0, c1, c2, c3⟩ := HP.out.bt
      obtain ⟨_, y0, y1, y2, y3⟩ := HP.out.r
      have HB := Lib.hid (box_stored (u' := .slice A p.1.length q) (v' := .slice A' p.2.length q') HP.out.r)
      have sp : Span w.heap.size (w.heap.size + 1) wr ((wr.setCell ⟨w.heap.size, 0, none⟩ (.slice A p.1.length q)).setCell ⟨w.heap.size, 1, none⟩ (.slice A' p.2.length q')) := ((Span.refl _ _ wr).setCell (p := ⟨w.heap.size, 0, none⟩) (.inl ⟨Nat.le_refl _, Nat.lt_succ_self _⟩) _).setCell (p := ⟨w.heap.size, 1, none⟩) (.inl ⟨Nat.le_refl _, Nat.lt_succ_self _⟩) _
      have HTab := Lib.hid ((((HP.out.whole HRT.out).span sp (.inr (.inr (Nat.le_refl _)))).weak (lo' := w.heap.size) (by omega) (.inl sp.size)))
      have HSp := Lib.hid ((HP.out.s.setCell (p := ⟨w.heap.size, 0, none⟩) (.inr (Nat.le_refl _)) (.slice A p.1.length q)).setCell (p := ⟨w.heap.size, 1, none⟩) (.inr (Nat.le_refl _)) (.slice A' p.2.length q'))
      have HC := Lib.hid (HP.out.cur.far sp (.inl HAL.out))
      have HV := Lib.hid HP.out.valid
      clear sp
      go_wp2_with fail
      exact bodyPost_ret (v := .agg #[.slice A p.1.length q, .slice A' p.2.length q']) (by simp [results, Try.results32, go_sem, HB.out.1, HB.out.2]) rfl ⟨p, _, rfl, HV.out, HTab.out, HC.out, HSp.out⟩
    · have k0 : (0 : Int) < (k : Int) := by omega
      have k1 : (k : Int) ≤ 14 := by omega
      have HK : Hid (1 ≤ k ∧ k ≤ 14) := ⟨by omega, hk⟩
      have hm16 : (p.2.length : Int) ≤ 16 := by have := HP.out.valid.most; omega
      obtain ⟨_, c0, c1, c2, c3⟩ := HP.out.bt
      clear hk h0
      go_wp2_with fail
      refine (l01Below_any B a ((p.2.length : Int) + 1) _ HP.out.cur (by omega) (by omega)).mono ?_
      rintro _ w4 ⟨r, rfl, r0, r1, hc4, hg4⟩
      have HP4 := Lib.hid (HP.out.span (grown_span hg4) hc4 HAL.out HRT.out)
      obtain ⟨id, rfl⟩ := Int.eq_ofNat_of_zero_le r0
      have HID : Hid (id ≤ 4194304) := by unfold Hid; omega
      clear hc4 hg4 r0 r1 c0 c1 c2 c3 HP
      obtain ⟨_, c0, c1, c2, c3⟩ := HP4.out.bt
      go_wp2_with fail
      have XN := Lib.hid (Box.new w4 (.slice A p.1.length q) (.slice A' p.2.length q') 45)
      have HC5 := Lib.hid (HP4.out.cur.alloc (.cells #[.slice A p.1.length q, .slice A' p.2.length q'] 45))
      have HS5 := Lib.hid ((Span.refl a.block (a.block + 1) w4).alloc (.cells #[.slice A p.1.length q, .slice A' p.2.length q'] 45))
      clear c0 c1 c2 c3
      have HX4 := Lib.hid (HP4.out.whole HRT.out)
      have HT4 : Hid (w2.heap.size < w4.heap.size) := HP4.out.bt.1
      have HN4 := Lib.hid (HP4.out.span ((Span.refl a.block (a.block + 1) w4).alloc (.cells #[.slice A p.1.length q, .slice A' p.2.length q'] 45)) HC5.out HAL.out HRT.out)
      generalize hwn : w4.alloc (.cells #[.slice A p.1.length q, .slice A' p.2.length q'] 45) = wn at *
      have HWN : Hid (w4.heap.size < wn.heap.size) := by unfold Hid; rw [← hwn]; simp
      clear hwn
      refine (l01Below_any B a 6 _ HC5.out (by omega) (by omega)).mono ?_
      rintro _ w5 ⟨u, rfl, u0, u1, hc5, hg5⟩
      have HC6 := Lib.hid hc5
      have HS6 := Lib.hid (HS5.out.trans (grown_span hg5))
      have XN6 := Lib.hid (XN.out.span (grown_span hg5) (.inr (.inr (by have := HP4.out.cur.lt; omega))))
      clear hc5 hg5 XN HC5 HS5
      go_upto_block 2 with fail
      go_cut [8] (fun s8 wx => NextP B a w.heap.size w2.heap.size w4.heap.size w p (.slice A p.1.length q) (.slice A' p.2.length q') s8 wx)
      case first =>
        have HLN : Hid (a.block < w4.heap.size) := HP4.out.cur.lt
        have HN5 : Hid (w4.heap.size < w5.heap.size) := XN6.out.1
        have HVP := Lib.hid HP4.out.valid
        have HXP : Hid (∀ w', Span a.block (a.block + 1) w5 w' → HasP (w.heap.size + 1) w4.heap.size w' (.agg #[.slice A p.1.length q, .slice A' p.2.length q']) p) := fun w' s => HX4.out.span (HS6.out.trans s) (.inr (.inr (by have := HAL.out; omega)))
        have HCD : Hid (Cur B w5.drew a) := HC6.out
        by_cases hu01 : u = 0 ∨ u = 1
        · obtain ⟨_, c0, c1, _, _⟩ := HP4.out.bt.span HS6.out (.inr (.inr (by have := HAL.out; have := HRT.out; omega)))
          rcases hu01 with rfl | rfl
          all_goals
            clear u0 u1
            go_wp2_with fail
            go_region_held3 (fun w' => w'.cell? ⟨w2.heap.size, 0, none⟩ = some (.slice A p.1.length q) ∧ w'.cell? ⟨w2.heap.size, 1, none⟩ = some (.slice A' p.2.length q'))
              (first
                | exact ⟨c0, c1⟩
                | exact ⟨c60, c61⟩
                | exact ⟨c70, c71⟩
                | exact ⟨c80, c81⟩)
              ((first
                | (go_at_call 43; (with_reducible refine (l01Below_any B a 9 w5.drew HCD.out (by omega) (by omega)).mono ?_); rintro _ w6 ⟨r, rfl, r0, r1, hc6, hg6⟩; have sp6 : Span a.block (a.block + 1) w5 w6 := (Span.refl a.block (a.block + 1) w5).drew.trans (grown_span hg6); obtain ⟨c60, c61, _, _⟩ := pool_limbs HP4.out HAL.out HRT.out HS6.out sp6 hc6; obtain ⟨m, rfl⟩ := Int.eq_ofNat_of_zero_le r0)
                | (go_at_call 51
                   have C := spec_lendRoom p (1 + m) _ _ _ w6 (HXP.out _ sp6) HVP.out (by omega) (by omega)
                   rw [wrap_one (m := m) (by omega)] at C
                   (with_reducible refine C.mono ?_)
                   clear C
                   intro e7 w7 h7
                   obtain ⟨Q, id7, b7, A7, q7, A8, q8, rfl, hv7, hq7, s7⟩ := h7.one (fun q r hq => (HVP.out.lend (by omega) hq).1)
                   have sp7 := sp6.trans (s7.wid0 a.block (a.block + 1))
                   have hc7 := hc6.span0 s7
                   obtain ⟨c70, c71, _, _⟩ := pool_limbs HP4.out HAL.out HRT.out HS6.out sp7 hc7
                   have hx7 := XN6.out.span sp7 (.inr (.inr (by have := HLN.out; omega)))
                   obtain ⟨c80, c81⟩ := pool_far HP4.out HAL.out HRT.out HS6.out sp7 hc7 (Nat.le_refl _) XN6.out (.slice A7 Q.1.length q7) (.slice A8 Q.2.length q8)
                   have YX := Lib.hid (NextP.mk' HP4.out (HS6.out.trans sp7) hc7 HAL.out HRT.out (Nat.le_refl _) (Nat.le_refl _) hx7 hq7 (by have := sp6.size; have := HN5.out; omega) (Nat.le_refl _) hv7)
                   obtain ⟨_, x0, x1, x2, x3⟩ := hx7)))
            all_goals
              go_wp2_with fail
              go_meet
              exact YX.out
        · have hu2 : u = 2 ∨ u = 3 ∨ 4 ≤ u := by omega
          obtain ⟨_, c0, c1, _, _⟩ := HP4.out.bt.span HS6.out (.inr (.inr (by have := HAL.out; have := HRT.out; omega)))
          rcases hu2 with rfl | rfl | hu4
          · clear u0 u1 hu01
            go_wp2_with fail
            refine (spec_giveBack p id _ _ _ w5 (HXP.out _ (Span.refl _ _ _)) HVP.out HID.out).mono ?_
            intro e7 w7 h7
            obtain ⟨Q, b7, A7, q7, A8, q8, rfl, hv7, hq7, s7⟩ := h7.one (fun q hq => (HVP.out.give hq).1)
            have sp7 := s7.wid0 a.block (a.block + 1)
            have hc7 := HC6.out.span0 s7
            have hx7 := XN6.out.span sp7 (.inr (.inr (by have := HLN.out; omega)))
            have YX := Lib.hid (NextP.mk' HP4.out (HS6.out.trans sp7) hc7 HAL.out HRT.out (Nat.le_refl _) (Nat.le_refl _) hx7 hq7 HN5.out (Nat.le_refl _) hv7)
            obtain ⟨_, x0, x1, x2, x3⟩ := hx7
            clear sp7 hc7 hq7 s7 h7 hv7 c0 c1
            go_wp2_with fail
            go_meet
            exact YX.out
          · clear u0 u1 hu01
            go_wp2_with fail
            go_region_held3 (fun w' => w'.cell? ⟨w2.heap.size, 0, none⟩ = some (.slice A p.1.length q) ∧ w'.cell? ⟨w2.heap.size, 1, none⟩ = some (.slice A' p.2.length q'))
              (first
                | exact ⟨c0, c1⟩
                | exact ⟨c60, c61⟩
                | exact ⟨c70, c71⟩
                | exact ⟨c80, c81⟩)
              ((first
                | (go_at_call 43; (with_reducible refine (l01Below_any B a 4 w5.drew HCD.out (by omega) (by omega)).mono ?_); rintro _ w6 ⟨r, rfl, r0, r1, hc6, hg6⟩; have sp6 : Span a.block (a.block + 1) w5 w6 := (Span.refl a.block (a.block + 1) w5).drew.trans (grown_span hg6); obtain ⟨c60, c61, _, _⟩ := pool_limbs HP4.out HAL.out HRT.out HS6.out sp6 hc6; obtain ⟨m, rfl⟩ := Int.eq_ofNat_of_zero_le r0)
                | (go_at_call 53
                   have C := spec_cutLease p id (1 + m) _ _ _ w6 (HXP.out _ sp6) HVP.out HID.out (by omega)
                   rw [wrap_one (m := m) (by omega)] at C
                   (with_reducible refine C.mono ?_)
                   clear C
                   intro e7 w7 h7
                   obtain ⟨Q, id7, b7, A7, q7, A8, q8, rfl, hv7, hq7, s7⟩ := h7.one (fun q r hq => (HVP.out.cut hq).1)
                   have sp7 := sp6.trans (s7.wid0 a.block (a.block + 1))
                   have hc7 := hc6.span0 s7
                   obtain ⟨c70, c71, _, _⟩ := pool_limbs HP4.out HAL.out HRT.out HS6.out sp7 hc7
                   have hx7 := XN6.out.span sp7 (.inr (.inr (by have := HLN.out; omega)))
                   obtain ⟨c80, c81⟩ := pool_far HP4.out HAL.out HRT.out HS6.out sp7 hc7 (Nat.le_refl _) XN6.out (.slice A7 Q.1.length q7) (.slice A8 Q.2.length q8)
                   have YX := Lib.hid (NextP.mk' HP4.out (HS6.out.trans sp7) hc7 HAL.out HRT.out (Nat.le_refl _) (Nat.le_refl _) hx7 hq7 (by have := sp6.size; have := HN5.out; omega) (Nat.le_refl _) hv7)
                   obtain ⟨_, x0, x1, x2, x3⟩ := hx7)))
            all_goals
              go_wp2_with fail
              go_meet
              exact YX.out
          · have n0 : ¬ u = 0 := by omega
            have n1 : ¬ u = 1 := by omega
            have n2 : ¬ u = 2 := by omega
            have n3 : ¬ u = 3 := by omega
            have HOA := Lib.hid (World.ownsRow_made (base := w5.heap.size) (e := 35) (size := 1) w5 #[] 0 (Nat.le_refl _) (Nat.zero_le _) rfl)
            have HCA := Lib.hid (HC6.out.alloc (.cells #[] 35))
            have HSA := Lib.hid ((Span.refl a.block (a.block + 1) w5).alloc (.cells #[] 35))
            have HAL5 : Hid (a.block < w5.heap.size) := Nat.lt_trans HLN.out HN5.out
            have HBW5 : Hid (B ≤ w5.heap.size) := Nat.le_of_lt (Nat.lt_of_le_of_lt HC6.out.base HAL5.out)
            clear u0 u1 hu01 hu4 c0 c1
            go_wp2_with fail
            refine (l01Below_any B a 5 _ HCA.out (by omega) (by omega)).mono ?_
            rintro _ w6 ⟨r, rfl, r0, r1, hc6, hg6⟩
            obtain ⟨m, rfl⟩ := Int.eq_ofNat_of_zero_le r0
            have HO6 := Lib.hid (HOA.out.kept hg6 (.inr (fun e => by have := (HOA.out.lt _ e).1; have := HAL5.out; omega)))
            have HS6' := Lib.hid (HSA.out.trans (grown_span hg6))
            have HC6' := Lib.hid hc6
            have HM4 : Hid (m ≤ 4) := by unfold Hid; omega
            clear hc6 hg6 HOA HCA HSA r0 r1
            go_wp2_with fail
            go_loopw [9, 10] (fun cl ci wr => ∃ (k : Nat) (xs : List Cx) (AA : Option Addr) (qq : Nat), ci = .int .i64 (k : Int) ∧ cl = .slice AA xs.length qq ∧ xs.length + k ≤ 4 ∧ wr.ownsRow w5.heap.size 35 1 (.slice AA xs.length qq) xs.length (xs.map cxV) ∧ Cur B wr a ∧ Span a.block (a.block + 1) w5 wr) (fun _ ci _ => (intOf ci).toNat)
            case atStart => exact ⟨m, [], _, _, rfl, rfl, by simpa using HM4.out, HO6.out, HC6'.out, HS6'.out⟩
            case round =>
              clear HO6 HS6' HC6' HM4
              obtain ⟨k, xs, AA, qq, rfl, rfl, hk, ho, hc, hs⟩ := hrel
              have HO := Lib.hid ho
              have HC := Lib.hid hc
              have HS7 := Lib.hid hs
              have HK := Lib.hid hk
              clear ho hc hs
              by_cases h0 : 0 < k
              · have k0 : (0 : Int) < (k : Int) := by omega
                have k1 : (k : Int) ≤ 4 := by omega
                have HK0 := Lib.hid h0
                clear hk h0
                go_wp2_with fail
                refine (l2Any_any B a _ HC.out).mono ?_
                rintro _ w7 ⟨⟨z1, z2⟩, rfl, -, hc7, hg7⟩
                have HO7 := Lib.hid (HO.out.kept hg7 (.inr (fun e => by have := (HO.out.lt _ e).1; have := HAL5.out; omega)))
                have HS8 := Lib.hid (HS7.out.trans (grown_span hg7))
                have HC7 := Lib.hid hc7
                clear hc7 hg7 HO HS7 HC
                go_wp2_with (at_builtin; go_loud ((refine wpList_append_own _ rfl _ _ 23 rfl w5.heap.size 35 ip (.complex .f32 0 0) 1 8 Try.underlying23 hip hzp hsp hbp rfl (by decide) _ _ _ rfl (HO7.out.alloc _) ⟨w7.heap.size, 0, none⟩ 1 1 [.complex .f32 z1 z2] rfl rfl ?c1 ?c2 ?c3 ?c4 ?c5 ?_); (case c1 => exact World.news_of_block (heap_alloc_new _ _)); (case c2 => intro u hu; rw [List.mem_singleton] at hu; subst hu; rfl); (case c3 => have := HK.out; unfold maxLen; omega); (case c4 => have := HK.out; omega); (case c5 => have := HS8.out.size; simp; omega); intro v2 w9 ho9 hg9 _; obtain ⟨A9, q9, rfl⟩ := ownsRow_slice ho9; have HO9 := Lib.hid ho9; have HG9 := Lib.hid hg9; clear ho9 hg9))
                go_roundw
                case rel =>
                  have hrow : ∀ j, _ = some j → w5.heap.size ≤ j := fun j hj => (HO7.out.lt j hj).1
                  have hl5 := HAL5.out
                  have s9 : Span a.block (a.block + 1) w5 w9 := (HS8.out.alloc (.cells #[.complex .f32 z1 z2] 35)).grown HG9.out (fun j hj => .inr (hrow j hj))
                  refine ⟨k - 1, xs ++ [(z1, z2)], A9, q9, congrArg (Value.int .i64) (by have := HK0.out; omega), by rw [List.length_append, List.length_singleton], by rw [List.length_append, List.length_singleton]; have := HK.out; have := HK0.out; omega, ?_, ?_, s9⟩
                  · have := HO9.out
                    rw [List.length_append, List.length_singleton, List.map_append]
                    exact this
                  · have h1 := HC7.out.alloc (.cells #[.complex .f32 z1 z2] 35)
                    exact h1.grownFar' HG9.out (fun j hj => by have := hrow j hj; exact ⟨by have := HBW5.out; omega, by omega⟩)
                case measure => have := HK0.out; simp [intOf]; omega
              · have hk0 : k = 0 := by omega
                subst hk0
                obtain ⟨b7, hb7, _, _⟩ := ownsRow_hasS HO.out
                have HLI := Lib.hid hb7.bare
                obtain ⟨_, c0, c1, _, _⟩ := HP4.out.bt.span (HS6.out.trans HS7.out) (.inr (.inr (by have := HAL.out; have := HRT.out; omega)))
                clear hk h0 hb7
                go_wp2_with fail
                refine (spec_appendTo p id xs _ _ b7 _ _ _ _ wr (HXP.out _ HS7.out) HVP.out HID.out HLI.out (by have := HK.out; omega)).mono ?_
                intro e7 w7 h7
                obtain ⟨Q, b8, A7, q7, A8, q8, rfl, hv7, hq7, s7⟩ := h7.one (fun q hq => (HVP.out.app hq).1)
                have sp7 := HS7.out.trans (s7.wid0 a.block (a.block + 1))
                have hc7 := HC.out.span0 s7
                have hx7 := XN6.out.span sp7 (.inr (.inr (by have := HLN.out; omega)))
                have YX := Lib.hid (NextP.mk' HP4.out (HS6.out.trans sp7) hc7 HAL.out HRT.out (Nat.le_refl _) (Nat.le_refl _) hx7 hq7 (by have := HN5.out; have := HS7.out.size; omega) (Nat.le_refl _) hv7)
                obtain ⟨_, x0, x1, x2, x3⟩ := hx7
                clear sp7 hc7 hq7 s7 h7 hv7 c0 c1
                go_wp2_with fail
                go_meet
                exact YX.out
      case rest =>
        obtain ⟨Q, b, A5, q5, A6, q6, rfl, hb, hp, hx, hq⟩ := hcut
        have HP9 := Lib.hid hp
        have HQ9 := Lib.hid hq
        have HB9 := Lib.hid hb
        obtain ⟨_, x0, x1, _, _⟩ := hx
        clear hp hq hb HP4 HN4 HC6 HS6 XN6 HX4
        obtain ⟨_, c0, c1, c2, c3⟩ := HP9.out.bt
        cases b with
        | false =>
          go_wp2_with fail
          go_roundw
          case rel => exact ⟨k - 1, p, A, q, A', q', by have := HK.out; go_num, by have := HK.out; omega, HP9.out⟩
          case measure => have := HK.out; simp [intOf]; omega
        | true =>
          have HST := Lib.hid (HP9.out.store HQ9.out (HB9.out rfl) HAL.out HRT.out (Nat.le_refl _))
          go_wp2_with fail
          go_roundw
          case rel => exact ⟨k - 1, Q, A5, q5, A6, q6, by have := HK.out; go_num, by have := HK.out; omega, HST.out⟩
          case measure => have := HK.out; simp [intOf]; omega
end Go.Proofs.Ytfafkdpefdpnkaa
