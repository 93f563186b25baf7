/- Modules without a table in memory: compared, marked, looked at. -/
import Derived.Test.YtghekafjccfjcaaJq41
namespace Go.Proofs.Ytghekafjccfjcaa
open Go.RowKit

/-- A module whose table is empty. -/
structure Md where
  kind : Int
  turn : Cx
  state : Cx
  level : Nat
  ring : Rg
  count : Int
  left : Int

def HasM0 (own : Bool) (lo hi : Nat) (w : World) (v : Value) (m : Md) : Prop :=
  ∃ b vS, v = .agg #[.int .i64 m.kind, cxV m.turn, cxV m.state, .float .f32 m.level, vS, .int .i64 m.ring.at_, .int .i64 m.ring.cnt, .slice none 0 0, .slice none 0 0, .int .i64 m.count, .int .i64 m.left] ∧ HasS cxV own b lo hi w vS m.ring.store

theorem HasM0.span {own : Bool} {lo hi l r : Nat} {w w' : World} {v : Value} {t : Md} (h : HasM0 own lo hi w v t) (hs : Span l r w w') (hd : r ≤ l ∨ hi ≤ l ∨ r ≤ lo) : HasM0 own lo hi w' v t := by
  obtain ⟨b1, vS, rfl, h1⟩ := h
  exact ⟨b1, vS, rfl, h1.span hs (by omega)⟩
theorem HasM0.weak {own : Bool} {lo hi lo' hi' : Nat} {w : World} {v : Value} {t : Md} (h : HasM0 own lo hi w v t) (h1 : lo' ≤ lo) (h2 : hi ≤ hi' ∨ w.heap.size ≤ hi') : HasM0 own lo' hi' w v t := by
  obtain ⟨b1, vS, rfl, g1⟩ := h
  exact ⟨b1, vS, rfl, g1.weak h1 h2⟩

def SameM0 (m n : Md) : Prop := m.kind = n.kind ∧ (FE .f32 m.turn.1 n.turn.1 ∧ FE .f32 m.turn.2 n.turn.2) ∧ (FE .f32 m.state.1 n.state.1 ∧ FE .f32 m.state.2 n.state.2) ∧ FE .f32 m.level n.level ∧ SameR m.ring n.ring ∧ m.count = n.count ∧ m.left = n.left
theorem SameM0.refl (m : Md) : SameM0 m m := ⟨rfl, ⟨FE.refl _ _, FE.refl _ _⟩, ⟨FE.refl _ _, FE.refl _ _⟩, FE.refl _ _, SameR.refl _, rfl, rfl⟩


theorem Span.undrawn {lo hi n : Nat} {a c : World} (h : Span lo hi (a.drewN n) c) : Span lo hi a c := ⟨h.os, h.tape, h.output, h.size, h.block⟩

/-- A box of 11 cells. -/
def Box11 (b : Nat) (u0 u1 u2 u3 u4 u5 u6 u7 u8 u9 u10 : Value) (w : World) : Prop := w.cell? ⟨b, 0, none⟩ = some u0 ∧ w.cell? ⟨b, 1, none⟩ = some u1 ∧ w.cell? ⟨b, 2, none⟩ = some u2 ∧ w.cell? ⟨b, 3, none⟩ = some u3 ∧ w.cell? ⟨b, 4, none⟩ = some u4 ∧ w.cell? ⟨b, 5, none⟩ = some u5 ∧ w.cell? ⟨b, 6, none⟩ = some u6 ∧ w.cell? ⟨b, 7, none⟩ = some u7 ∧ w.cell? ⟨b, 8, none⟩ = some u8 ∧ w.cell? ⟨b, 9, none⟩ = some u9 ∧ w.cell? ⟨b, 10, none⟩ = some u10
theorem box11_mk {b : Nat} {u0 u1 u2 u3 u4 u5 u6 u7 u8 u9 u10 : Value} {w : World} (h0 : w.cell? ⟨b, 0, none⟩ = some u0) (h1 : w.cell? ⟨b, 1, none⟩ = some u1) (h2 : w.cell? ⟨b, 2, none⟩ = some u2) (h3 : w.cell? ⟨b, 3, none⟩ = some u3) (h4 : w.cell? ⟨b, 4, none⟩ = some u4) (h5 : w.cell? ⟨b, 5, none⟩ = some u5) (h6 : w.cell? ⟨b, 6, none⟩ = some u6) (h7 : w.cell? ⟨b, 7, none⟩ = some u7) (h8 : w.cell? ⟨b, 8, none⟩ = some u8) (h9 : w.cell? ⟨b, 9, none⟩ = some u9) (h10 : w.cell? ⟨b, 10, none⟩ = some u10) : Box11 b u0 u1 u2 u3 u4 u5 u6 u7 u8 u9 u10 w := ⟨h0, h1, h2, h3, h4, h5, h6, h7, h8, h9, h10⟩
theorem box11_span {lo hi b : Nat} {u0 u1 u2 u3 u4 u5 u6 u7 u8 u9 u10 : Value} {w w' : World} (h : Box11 b u0 u1 u2 u3 u4 u5 u6 u7 u8 u9 u10 w) (s : Span lo hi w w') (hb : b < w.heap.size) (hd : hi ≤ lo ∨ b < lo ∨ hi ≤ b) : Box11 b u0 u1 u2 u3 u4 u5 u6 u7 u8 u9 u10 w' := by
  have e := s.block b hb (by omega)
  exact ⟨(World.cell?_of_block (w := w) (a := ⟨b, 0, none⟩) e).trans h.1, (World.cell?_of_block (w := w) (a := ⟨b, 1, none⟩) e).trans h.2.1, (World.cell?_of_block (w := w) (a := ⟨b, 2, none⟩) e).trans h.2.2.1, (World.cell?_of_block (w := w) (a := ⟨b, 3, none⟩) e).trans h.2.2.2.1, (World.cell?_of_block (w := w) (a := ⟨b, 4, none⟩) e).trans h.2.2.2.2.1, (World.cell?_of_block (w := w) (a := ⟨b, 5, none⟩) e).trans h.2.2.2.2.2.1, (World.cell?_of_block (w := w) (a := ⟨b, 6, none⟩) e).trans h.2.2.2.2.2.2.1, (World.cell?_of_block (w := w) (a := ⟨b, 7, none⟩) e).trans h.2.2.2.2.2.2.2.1, (World.cell?_of_block (w := w) (a := ⟨b, 8, none⟩) e).trans h.2.2.2.2.2.2.2.2.1, (World.cell?_of_block (w := w) (a := ⟨b, 9, none⟩) e).trans h.2.2.2.2.2.2.2.2.2.1, (World.cell?_of_block (w := w) (a := ⟨b, 10, none⟩) e).trans h.2.2.2.2.2.2.2.2.2.2⟩
theorem box11_alloc {b : Nat} {u0 u1 u2 u3 u4 u5 u6 u7 u8 u9 u10 : Value} {w : World} (h : Box11 b u0 u1 u2 u3 u4 u5 u6 u7 u8 u9 u10 w) (hb : b < w.heap.size) : (∀ o, (w.alloc o).cell? ⟨b, 0, none⟩ = some u0) ∧ (∀ o, (w.alloc o).cell? ⟨b, 1, none⟩ = some u1) ∧ (∀ o, (w.alloc o).cell? ⟨b, 2, none⟩ = some u2) ∧ (∀ o, (w.alloc o).cell? ⟨b, 3, none⟩ = some u3) ∧ (∀ o, (w.alloc o).cell? ⟨b, 4, none⟩ = some u4) ∧ (∀ o, (w.alloc o).cell? ⟨b, 5, none⟩ = some u5) ∧ (∀ o, (w.alloc o).cell? ⟨b, 6, none⟩ = some u6) ∧ (∀ o, (w.alloc o).cell? ⟨b, 7, none⟩ = some u7) ∧ (∀ o, (w.alloc o).cell? ⟨b, 8, none⟩ = some u8) ∧ (∀ o, (w.alloc o).cell? ⟨b, 9, none⟩ = some u9) ∧ (∀ o, (w.alloc o).cell? ⟨b, 10, none⟩ = some u10) :=
  have k := fun o => box11_span h ((Span.refl 0 0 w).alloc o) hb (.inl (Nat.le_refl _))
  ⟨fun o => (k o).1, fun o => (k o).2.1, fun o => (k o).2.2.1, fun o => (k o).2.2.2.1, fun o => (k o).2.2.2.2.1, fun o => (k o).2.2.2.2.2.1, fun o => (k o).2.2.2.2.2.2.1, fun o => (k o).2.2.2.2.2.2.2.1, fun o => (k o).2.2.2.2.2.2.2.2.1, fun o => (k o).2.2.2.2.2.2.2.2.2.1, fun o => (k o).2.2.2.2.2.2.2.2.2.2⟩
theorem box11_new (w : World) (u0 u1 u2 u3 u4 u5 u6 u7 u8 u9 u10 : Value) (t : TypeId) : Box11 w.heap.size u0 u1 u2 u3 u4 u5 u6 u7 u8 u9 u10 (w.alloc (.cells #[u0, u1, u2, u3, u4, u5, u6, u7, u8, u9, u10] t)) :=
  ⟨(by rw [World.cell?_alloc_new]; rfl), (by rw [World.cell?_alloc_new]; rfl), (by rw [World.cell?_alloc_new]; rfl), (by rw [World.cell?_alloc_new]; rfl), (by rw [World.cell?_alloc_new]; rfl), (by rw [World.cell?_alloc_new]; rfl), (by rw [World.cell?_alloc_new]; rfl), (by rw [World.cell?_alloc_new]; rfl), (by rw [World.cell?_alloc_new]; rfl), (by rw [World.cell?_alloc_new]; rfl), (by rw [World.cell?_alloc_new]; rfl)⟩


/-- What marking a module gives. -/
def MarksM0 (lo hi : Nat) (v : Value) (m : Md) (k : Nat) (w : World) (e : Ending) (w' : World) : Prop :=
  e = .returned (.int .i64 ((k + m.ring.store.length : Nat) : Int)) ∧ HasM0 true lo hi w' v { m with ring := { m.ring with store := marksC m.ring.store.length k } } ∧ Span lo hi w w'

theorem HasM0.form {own : Bool} {lo hi : Nat} {w : World} {v : Value} {t : Md} (h : HasM0 own lo hi w v t) : ∃ A c, v = .agg #[.int .i64 t.kind, .complex .f32 t.turn.1 t.turn.2, .complex .f32 t.state.1 t.state.2, .float .f32 t.level, .slice A t.ring.store.length c, .int .i64 t.ring.at_, .int .i64 t.ring.cnt, .slice none 0 0, .slice none 0 0, .int .i64 t.count, .int .i64 t.left] := by
  obtain ⟨b1, vS, rfl, h1⟩ := h
  obtain ⟨A, c, rfl, _⟩ := h1
  exact ⟨A, c, rfl⟩

def zeroModule : Md := ⟨0, (0, 0), (0, 0), 0, ⟨[], 0, 0⟩, 0, 0⟩
/-- A module that is made, or none. -/
def GivesM (o : Option Md) (w : World) (e : Ending) (w' : World) : Prop :=
  ∃ v, e = .returned (.tuple #[v, .bool o.isSome]) ∧ HasM0 true w.heap.size w'.heap.size w' v (o.getD zeroModule) ∧ Span 0 0 w w'
/-- A module that is made. -/
def MakesM (m : Md) (w : World) (e : Ending) (w' : World) : Prop :=
  ∃ v, e = .returned v ∧ HasM0 true w.heap.size w'.heap.size w' v m ∧ Span 0 0 w w'
theorem HasM0.plain (own : Bool) (lo hi : Nat) (w : World) (k : Int) (t s : Cx) (l : Nat) (c f : Int) :
    HasM0 own lo hi w (.agg #[.int .i64 k, .complex .f32 t.1 t.2, .complex .f32 s.1 s.2, .float .f32 l, .slice none 0 0, .int .i64 0, .int .i64 0, .slice none 0 0, .slice none 0 0, .int .i64 c, .int .i64 f]) ⟨k, t, s, l, ⟨[], 0, 0⟩, c, f⟩ :=
  ⟨0, _, rfl, HasS.empty _ _ _ _ _ _ _ _⟩
end Go.Proofs.Ytghekafjccfjcaa
