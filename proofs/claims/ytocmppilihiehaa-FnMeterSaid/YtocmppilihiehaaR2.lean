/- Modules without a table in memory: compared, marked, looked at. -/
import Derived.Test.YtocmppilihiehaaR1
namespace Go.Proofs.Ytocmppilihiehaa
open Go.RowKit

/-- A module whose table is empty. -/
structure Md where
  kind : Int
  turn : Cx
  state : Cx
  level : Nat
  ring : Rg
  count : Int
  left : Int

def HasM0 (own : Bool) (lo hi : Nat) (w : World) (v : Value) (m : Md) : Prop :=
  ∃ b vS, v = .agg #[.int .i64 m.kind, cxV m.turn, cxV m.state, .float .f32 m.level, vS, .int .i64 m.ring.at_, .int .i64 m.ring.cnt, .slice none 0 0, .slice none 0 0, .int .i64 m.count, .int .i64 m.left] ∧ HasS cxV own b lo hi w vS m.ring.store

theorem HasM0.span {own : Bool} {lo hi l r : Nat} {w w' : World} {v : Value} {t : Md} (h : HasM0 own lo hi w v t) (hs : Span l r w w') (hd : r ≤ l ∨ hi ≤ l ∨ r ≤ lo) : HasM0 own lo hi w' v t := by
  obtain ⟨b1, vS, rfl, h1⟩ := h
  exact ⟨b1, vS, rfl, h1.span hs (by omega)⟩
theorem HasM0.weak {own : Bool} {lo hi lo' hi' : Nat} {w : World} {v : Value} {t : Md} (h : HasM0 own lo hi w v t) (h1 : lo' ≤ lo) (h2 : hi ≤ hi' ∨ w.heap.size ≤ hi') : HasM0 own lo' hi' w v t := by
  obtain ⟨b1, vS, rfl, g1⟩ := h
  exact ⟨b1, vS, rfl, g1.weak h1 h2⟩

def SameM0 (m n : Md) : Prop := m.kind = n.kind ∧ (FE .f32 m.turn.1 n.turn.1 ∧ FE .f32 m.turn.2 n.turn.2) ∧ (FE .f32 m.state.1 n.state.1 ∧ FE .f32 m.state.2 n.state.2) ∧ FE .f32 m.level n.level ∧ SameR m.ring n.ring ∧ m.count = n.count ∧ m.left = n.left
theorem SameM0.refl (m : Md) : SameM0 m m := ⟨rfl, ⟨FE.refl _ _, FE.refl _ _⟩, ⟨FE.refl _ _, FE.refl _ _⟩, FE.refl _ _, SameR.refl _, rfl, rfl⟩


theorem Span.undrawn {lo hi n : Nat} {a c : World} (h : Span lo hi (a.drewN n) c) : Span lo hi a c := ⟨h.os, h.tape, h.output, h.size, h.block⟩

/-- A box of 11 cells. -/
def Box11 (b : Nat) (u0 u1 u2 u3 u4 u5 u6 u7 u8 u9 u10 : Value) (w : World) : Prop := w.cell? ⟨b, 0, none⟩ = some u0 ∧ w.cell? ⟨b, 1, none⟩ = some u1 ∧ w.cell? ⟨b, 2, none⟩ = some u2 ∧ w.cell? ⟨b, 3, none⟩ = some u3 ∧ w.cell? ⟨b, 4, none⟩ = some u4 ∧ w.cell? ⟨b, 5, none⟩ = some u5 ∧ w.cell? ⟨b, 6, none⟩ = some u6 ∧ w.cell? ⟨b, 7, none⟩ = some u7 ∧ w.cell? ⟨b, 8, none⟩ = some u8 ∧ w.cell? ⟨b, 9, none⟩ = some u9 ∧ w.cell? ⟨b, 10, none⟩ = some u10
theorem box11_mk {b : Nat} {u0 u1 u2 u3 u4 u5 u6 u7 u8 u9 u10 : Value} {w : World} (h0 : w.cell? ⟨b, 0, none⟩ = some u0) (h1 : w.cell? ⟨b, 1, none⟩ = some u1) (h2 : w.cell? ⟨b, 2, none⟩ = some u2) (h3 : w.cell? ⟨b, 3, none⟩ = some u3) (h4 : w.cell? ⟨b, 4, none⟩ = some u4) (h5 : w.cell? ⟨b, 5, none⟩ = some u5) (h6 : w.cell? ⟨b, 6, none⟩ = some u6) (h7 : w.cell? ⟨b, 7, none⟩ = some u7) (h8 : w.cell? ⟨b, 8, none⟩ = some u8) (h9 : w.cell? ⟨b, 9, none⟩ = some u9) (h10 : w.cell? ⟨b, 10, none⟩ = some u10) : Box11 b u0 u1 u2 u3 u4 u5 u6 u7 u8 u9 u10 w := ⟨h0, h1, h2, h3, h4, h5, h6, h7, h8, h9, h10⟩
theorem box11_span {lo hi b : Nat} {u0 u1 u2 u3 u4 u5 u6 u7 u8 u9 u10 : Value} {w w' : World} (h : Box11 b u0 u1 u2 u3 u4 u5 u6 u7 u8 u9 u10 w) (s : Span lo hi w w') (hb : b < w.heap.size) (hd : hi ≤ lo ∨ b < lo ∨ hi ≤ b) : Box11 b u0 u1 u2 u3 u4 u5 u6 u7 u8 u9 u10 w' := by
  have e := s.block b hb (by omega)
  exact ⟨(World.cell?_of_block (w := w) (a := ⟨b, 0, none⟩) e).trans h.1, (World.cell?_of_block (w := w) (a := ⟨b, 1, none⟩) e).trans h.2.1, (World.cell?_of_block (w := w) (a := ⟨b, 2, none⟩) e).trans h.2.2.1, (World.cell?_of_block (w := w) (a := ⟨b, 3, none⟩) e).trans h.2.2.2.1, (World.cell?_of_block (w := w) (a := ⟨b, 4, none⟩) e).trans h.2.2.2.2.1, (World.cell?_of_block (w := w) (a := ⟨b, 5, none⟩) e).trans h.2.2.2.2.2.1, (World.cell?_of_block (w := w) (a := ⟨b, 6, none⟩) e).trans h.2.2.2.2.2.2.1, (World.cell?_of_block (w := w) (a := ⟨b, 7, none⟩) e).trans h.2.2.2.2.2.2.2.1, (World.cell?_of_block (w := w) (a := ⟨b, 8, none⟩) e).trans h.2.2.2.2.2.2.2.2.1, (World.cell?_of_block (w := w) (a := ⟨b, 9, none⟩) e).trans h.2.2.2.2.2.2.2.2.2.1, (World.cell?_of_block (w := w) (a := ⟨b, 10, none⟩) e).trans h.2.2.2.2.2.2.2.2.2.2⟩
theorem box11_alloc {b : Nat} {u0 u1 u2 u3 u4 u5 u6 u7 u8 u9 u10 : Value} {w : World} (h : Box11 b u0 u1 u2 u3 u4 u5 u6 u7 u8 u9 u10 w) (hb : b < w.heap.size) : (∀ o, (w.alloc o).cell? ⟨b, 0, none⟩ = some u0) ∧ (∀ o, (w.alloc o).cell? ⟨b, 1, none⟩ = some u1) ∧ (∀ o, (w.alloc o).cell? ⟨b, 2, none⟩ = some u2) ∧ (∀ o, (w.alloc o).cell? ⟨b, 3, none⟩ = some u3) ∧ (∀ o, (w.alloc o).cell? ⟨b, 4, none⟩ = some u4) ∧ (∀ o, (w.alloc o).cell? ⟨b, 5, none⟩ = some u5) ∧ (∀ o, (w.alloc o).cell? ⟨b, 6, none⟩ = some u6) ∧ (∀ o, (w.alloc o).cell? ⟨b, 7, none⟩ = some u7) ∧ (∀ o, (w.alloc o).cell? ⟨b, 8, none⟩ = some u8) ∧ (∀ o, (w.alloc o).cell? ⟨b, 9, none⟩ = some u9) ∧ (∀ o, (w.alloc o).cell? ⟨b, 10, none⟩ = some u10) :=
  have k := fun o => box11_span h ((Span.refl 0 0 w).alloc o) hb (.inl (Nat.le_refl _))
  ⟨fun o => (k o).1, fun o => (k o).2.1, fun o => (k o).2.2.1, fun o => (k o).2.2.2.1, fun o => (k o).2.2.2.2.1, fun o => (k o).2.2.2.2.2.1, fun o => (k o).2.2.2.2.2.2.1, fun o => (k o).2.2.2.2.2.2.2.1, fun o => (k o).2.2.2.2.2.2.2.2.1, fun o => (k o).2.2.2.2.2.2.2.2.2.1, fun o => (k o).2.2.2.2.2.2.2.2.2.2⟩
theorem box11_new (w : World) (u0 u1 u2 u3 u4 u5 u6 u7 u8 u9 u10 : Value) (t : TypeId) : Box11 w.heap.size u0 u1 u2 u3 u4 u5 u6 u7 u8 u9 u10 (w.alloc (.cells #[u0, u1, u2, u3, u4, u5, u6, u7, u8, u9, u10] t)) :=
  ⟨(by rw [World.cell?_alloc_new]; rfl), (by rw [World.cell?_alloc_new]; rfl), (by rw [World.cell?_alloc_new]; rfl), (by rw [World.cell?_alloc_new]; rfl), (by rw [World.cell?_alloc_new]; rfl), (by rw [World.cell?_alloc_new]; rfl), (by rw [World.cell?_alloc_new]; rfl), (by rw [World.cell?_alloc_new]; rfl), (by rw [World.cell?_alloc_new]; rfl), (by rw [World.cell?_alloc_new]; rfl), (by rw [World.cell?_alloc_new]; rfl)⟩


set_option maxRecDepth 100000 in
set_option maxHeartbeats 4000000 in
theorem eqModule_true (m n : Md) (o o' : Bool) (lo lo' hi hi' : Nat) (v v' : Value) (w : World) (hx : HasM0 o lo hi w v m) (hx' : HasM0 o' lo' hi' w v' n) (hs : SameM0 m n) (h1 : m.ring.store.length ≤ 4194304) :
    Calls Try.prog 41 #[v, v'] w (True0 w) := by
  obtain ⟨b1, vS, rfl, g1⟩ := hx
  obtain ⟨b1', vS', rfl, g1'⟩ := hx'
  obtain ⟨k, t, s, l, r, c, f⟩ := m
  obtain ⟨k', t', s', l', r', c', f'⟩ := n
  obtain ⟨rfl, ⟨t1, t2⟩, ⟨s1, s2⟩, f1, hr, rfl, rfl⟩ := hs
  simp only at *
  obtain ⟨A, cap, rfl, _⟩ := id g1
  obtain ⟨A', cap', rfl, _⟩ := id g1'
  obtain ⟨t, u⟩ := t
  obtain ⟨t', u'⟩ := t'
  obtain ⟨s, z⟩ := s
  obtain ⟨s', z'⟩ := s'
  have HR := Lib.hid hr
  have HT1 := Lib.hid t1
  have HT2 := Lib.hid t2
  have HS1 := Lib.hid s1
  have HS2 := Lib.hid s2
  have HF := Lib.hid f1
  clear hr t1 t2 s1 s2 f1
  unfold cxV
  simp only
  go_enter Try.func41, Try.ntmps41
  go_wp2_with fail
  refine (sameComplex_wide _ _ _ _ _ _ _ _ _ HT1.out HT2.out).mono ?_
  rintro _ _ ⟨n1, rfl, rfl⟩
  go_wp2_with fail
  refine (sameComplex_wide _ _ _ _ _ _ _ _ _ HS1.out HS2.out).mono ?_
  rintro _ _ ⟨n2, rfl, rfl⟩
  go_wp2_with fail
  refine (sameFloat_true _ _ _ (FE.widen _ _ HF.out)).mono ?_
  rintro _ _ ⟨n3, rfl, rfl⟩
  go_wp2_with fail
  refine (eqRing_true _ _ o o' lo lo' hi hi' _ _ _ ⟨b1, _, rfl, ((g1.alloc _).alloc _).drewN _⟩ ⟨b1', _, rfl, ((g1'.alloc _).alloc _).drewN _⟩ HR.out h1).mono ?_
  rintro _ w3 ⟨rfl, s3⟩
  have s3 := s3.undrawn
  have Y := box11_span (box11_span (box11_new w (.int .i64 k) (.complex .f32 t u) (.complex .f32 s z) (.float .f32 l) (.slice A r.store.length cap) (.int .i64 r.at_) (.int .i64 r.cnt) (.slice none 0 0) (.slice none 0 0) (.int .i64 c) (.int .i64 f) 44) ((Span.refl 0 0 _).alloc (.cells #[.int .i64 k, .complex .f32 t' u', .complex .f32 s' z', .float .f32 l', .slice A' r'.store.length cap', .int .i64 r'.at_, .int .i64 r'.cnt, .slice none 0 0, .slice none 0 0, .int .i64 c, .int .i64 f] 44)) (by simp) (.inl (Nat.le_refl _))) s3 (by simp; omega) (.inl (Nat.le_refl _))
  have Z := box11_span (box11_new (w.alloc (.cells #[.int .i64 k, .complex .f32 t u, .complex .f32 s z, .float .f32 l, .slice A r.store.length cap, .int .i64 r.at_, .int .i64 r.cnt, .slice none 0 0, .slice none 0 0, .int .i64 c, .int .i64 f] 44)) (.int .i64 k) (.complex .f32 t' u') (.complex .f32 s' z') (.float .f32 l') (.slice A' r'.store.length cap') (.int .i64 r'.at_) (.int .i64 r'.cnt) (.slice none 0 0) (.slice none 0 0) (.int .i64 c) (.int .i64 f) 44) s3 (by simp) (.inl (Nat.le_refl _))
  have HS := Lib.hid (Span.trans (((Span.refl 0 0 w).alloc (.cells #[.int .i64 k, .complex .f32 t u, .complex .f32 s z, .float .f32 l, .slice A r.store.length cap, .int .i64 r.at_, .int .i64 r.cnt, .slice none 0 0, .slice none 0 0, .int .i64 c, .int .i64 f] 44)).alloc (.cells #[.int .i64 k, .complex .f32 t' u', .complex .f32 s' z', .float .f32 l', .slice A' r'.store.length cap', .int .i64 r'.at_, .int .i64 r'.cnt, .slice none 0 0, .slice none 0 0, .int .i64 c, .int .i64 f] 44)) s3)
  obtain ⟨Y0, Y1, Y2, Y3, Y4, Y5, Y6, Y7, Y8, Y9, Y10⟩ := Y
  rw [show (w.alloc (.cells #[.int .i64 k, .complex .f32 t u, .complex .f32 s z, .float .f32 l, .slice A r.store.length cap, .int .i64 r.at_, .int .i64 r.cnt, .slice none 0 0, .slice none 0 0, .int .i64 c, .int .i64 f] 44)).heap.size = w.heap.size + 1 by simp] at Z
  obtain ⟨Z0, Z1, Z2, Z3, Z4, Z5, Z6, Z7, Z8, Z9, Z10⟩ := Z
  clear s3
  go_wp2_with fail
  refine (eqTable_true ([], []) ([], []) true true 0 0 0 0 _ _ _ (HasTab.none_ _ _ _ _) (HasTab.none_ _ _ _ _) (SameT.refl _) (by simp) (by simp)).mono ?_
  rintro _ w4 ⟨rfl, s4⟩
  obtain ⟨Y9, Y10⟩ : w4.cell? ⟨w.heap.size, 9, none⟩ = some (.int .i64 c) ∧ w4.cell? ⟨w.heap.size, 10, none⟩ = some (.int .i64 f) := by
    have e := s4.block w.heap.size (World.block_lt_of_cell? w3 _ Y9) (by omega)
    exact ⟨(World.cell?_of_block (w := w3) e).trans Y9, (World.cell?_of_block (w := w3) e).trans Y10⟩
  obtain ⟨Z9, Z10⟩ : w4.cell? ⟨w.heap.size + 1, 9, none⟩ = some (.int .i64 c) ∧ w4.cell? ⟨w.heap.size + 1, 10, none⟩ = some (.int .i64 f) := by
    have e := s4.block (w.heap.size + 1) (World.block_lt_of_cell? w3 _ Z9) (by omega)
    exact ⟨(World.cell?_of_block (w := w3) e).trans Z9, (World.cell?_of_block (w := w3) e).trans Z10⟩
  have HS := Lib.hid (HS.out.trans s4)
  clear s4
  go_wp2_with fail
  go_ret
  exact ⟨rfl, HS.out⟩

/-- What marking a module gives. -/
def MarksM0 (lo hi : Nat) (v : Value) (m : Md) (k : Nat) (w : World) (e : Ending) (w' : World) : Prop :=
  e = .returned (.int .i64 ((k + m.ring.store.length : Nat) : Int)) ∧ HasM0 true lo hi w' v { m with ring := { m.ring with store := marksC m.ring.store.length k } } ∧ Span lo hi w w'

set_option maxRecDepth 100000 in
set_option maxHeartbeats 4000000 in
theorem markModule_any (m : Md) (lo hi k : Nat) (v : Value) (w : World) (hx : HasM0 true lo hi w v m) (hhi : hi ≤ w.heap.size) (h1 : m.ring.store.length ≤ 1048576) (hk : k ≤ 1048576) :
    Calls Try.prog 42 #[v, .int .i64 (k : Int)] w (MarksM0 lo hi v m k w) := by
  obtain ⟨b1, vS, rfl, g1⟩ := hx
  obtain ⟨A, cap, rfl, _⟩ := id g1
  go_enter Try.func42, Try.ntmps42
  go_wp2_with fail
  refine (markRing_any m.ring lo hi k _ _ ⟨b1, _, rfl, g1.alloc _⟩ (by simp; omega) (by omega) (by omega)).mono ?_
  rintro _ w1 ⟨rfl, m1, s1⟩
  have Y := s1.block w.heap.size (by simp) (by omega)
  have Y7 : w1.cell? ⟨w.heap.size, 7, none⟩ = some (.slice none 0 0) := (World.cell?_of_block (w := w.alloc _) Y).trans (by rw [World.cell?_alloc_new]; rfl)
  have Y8 : w1.cell? ⟨w.heap.size, 8, none⟩ = some (.slice none 0 0) := (World.cell?_of_block (w := w.alloc _) Y).trans (by rw [World.cell?_alloc_new]; rfl)
  have HS := Lib.hid (s1.after ((Span.refl 0 0 w).alloc _))
  clear s1 Y
  obtain ⟨b2, vS2, e2, g2⟩ := m1
  injection e2 with e2
  injection e2 with e2
  injection e2 with e2 _
  subst e2
  go_wp2_with fail
  refine (markTable_any ([], []) 0 0 (k + m.ring.store.length) _ w1 (HasTab.none_ _ _ _ _) (by omega) (by simp) (by simp) (by omega)).mono ?_
  rintro _ w2 ⟨rfl, _, s2⟩
  have HS := Lib.hid (HS.out.trans (s2.wide (fun _ _ h => by omega)))
  have g2 := g2.span s2 (by omega)
  clear s2
  go_wp2_with fail
  go_ret
  exact ⟨rfl, ⟨b2, _, rfl, g2⟩, HS.out⟩

set_option maxRecDepth 100000 in
set_option maxHeartbeats 4000000 in
theorem heldModule_any (n : Nat) (m : Md) (o : Bool) (lo hi k : Nat) (v : Value) (w : World) (hx : HasM0 o lo hi w v m) (hr : m.ring.store = marksC n k) (h1 : n ≤ 1048576) (hk : k ≤ 1048576) :
    Calls Try.prog 43 #[v, .int .i64 (k : Int)] w (Num0 ((k + n : Nat) : Int) w) := by
  obtain ⟨b1, vS, rfl, g1⟩ := hx
  obtain ⟨A, cap, rfl, _⟩ := id g1
  have HR := Lib.hid hr
  clear hr
  go_enter Try.func43, Try.ntmps43
  go_wp2_with fail
  refine (heldRing_any n m.ring o lo hi k _ _ ⟨b1, _, rfl, g1.alloc _⟩ HR.out (by omega) (by omega)).mono ?_
  rintro _ w1 ⟨rfl, s1⟩
  have Y := s1.block w.heap.size (by simp) (by omega)
  have Y7 : w1.cell? ⟨w.heap.size, 7, none⟩ = some (.slice none 0 0) := (World.cell?_of_block (w := w.alloc _) Y).trans (by rw [World.cell?_alloc_new]; rfl)
  have Y8 : w1.cell? ⟨w.heap.size, 8, none⟩ = some (.slice none 0 0) := (World.cell?_of_block (w := w.alloc _) Y).trans (by rw [World.cell?_alloc_new]; rfl)
  have HS := Lib.hid (s1.after ((Span.refl 0 0 w).alloc _))
  clear s1 Y
  go_wp2_with fail
  refine (heldTable_any ([], []) true 0 0 (k + n) _ w1 (HasTab.none_ _ _ _ _) (by simp) (by simp) (by omega)).mono ?_
  rintro _ w2 ⟨rfl, s2⟩
  have HS := Lib.hid (HS.out.trans s2)
  clear s2
  go_wp2_with fail
  go_ret
  exact ⟨rfl, HS.out⟩

theorem HasM0.form {own : Bool} {lo hi : Nat} {w : World} {v : Value} {t : Md} (h : HasM0 own lo hi w v t) : ∃ A c, v = .agg #[.int .i64 t.kind, .complex .f32 t.turn.1 t.turn.2, .complex .f32 t.state.1 t.state.2, .float .f32 t.level, .slice A t.ring.store.length c, .int .i64 t.ring.at_, .int .i64 t.ring.cnt, .slice none 0 0, .slice none 0 0, .int .i64 t.count, .int .i64 t.left] := by
  obtain ⟨b1, vS, rfl, h1⟩ := h
  obtain ⟨A, c, rfl, _⟩ := h1
  exact ⟨A, c, rfl⟩

def zeroModule : Md := ⟨0, (0, 0), (0, 0), 0, ⟨[], 0, 0⟩, 0, 0⟩
/-- A module that is made, or none. -/
def GivesM (o : Option Md) (w : World) (e : Ending) (w' : World) : Prop :=
  ∃ v, e = .returned (.tuple #[v, .bool o.isSome]) ∧ HasM0 true w.heap.size w'.heap.size w' v (o.getD zeroModule) ∧ Span 0 0 w w'
/-- A module that is made. -/
def MakesM (m : Md) (w : World) (e : Ending) (w' : World) : Prop :=
  ∃ v, e = .returned v ∧ HasM0 true w.heap.size w'.heap.size w' v m ∧ Span 0 0 w w'
theorem HasM0.plain (own : Bool) (lo hi : Nat) (w : World) (k : Int) (t s : Cx) (l : Nat) (c f : Int) :
    HasM0 own lo hi w (.agg #[.int .i64 k, .complex .f32 t.1 t.2, .complex .f32 s.1 s.2, .float .f32 l, .slice none 0 0, .int .i64 0, .int .i64 0, .slice none 0 0, .slice none 0 0, .int .i64 c, .int .i64 f]) ⟨k, t, s, l, ⟨[], 0, 0⟩, c, f⟩ :=
  ⟨0, _, rfl, HasS.empty _ _ _ _ _ _ _ _⟩




end Go.Proofs.Ytocmppilihiehaa
