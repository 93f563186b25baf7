/- Rings and modules in memory: compared, marked, looked at. -/
import Derived.Test.YtocmppilihiehaaG3
import Derived.Outline
namespace Go.Proofs.Ytocmppilihiehaa
open Go.RowKit

/-- A ring: its store, At and Count. -/
structure Rg where
  store : List Cx
  at_ : Int
  cnt : Int

def HasR (own : Bool) (lo hi : Nat) (w : World) (v : Value) (r : Rg) : Prop :=
  ∃ b vS, v = .agg #[vS, .int .i64 r.at_, .int .i64 r.cnt] ∧ HasS cxV own b lo hi w vS r.store

theorem HasR.span {own : Bool} {lo hi l r : Nat} {w w' : World} {v : Value} {t : Rg} (h : HasR own lo hi w v t) (hs : Span l r w w') (hd : r ≤ l ∨ hi ≤ l ∨ r ≤ lo) : HasR own lo hi w' v t := by
  obtain ⟨b1, vS, rfl, h1⟩ := h
  exact ⟨b1, vS, rfl, h1.span hs (by omega)⟩
theorem HasR.weak {own : Bool} {lo hi lo' hi' : Nat} {w : World} {v : Value} {t : Rg} (h : HasR own lo hi w v t) (h1 : lo' ≤ lo) (h2 : hi ≤ hi' ∨ w.heap.size ≤ hi') : HasR own lo' hi' w v t := by
  obtain ⟨b1, vS, rfl, g1⟩ := h
  exact ⟨b1, vS, rfl, g1.weak h1 h2⟩
theorem HasR.none_ (own : Bool) (lo hi : Nat) (w : World) : HasR own lo hi w (.agg #[.slice none 0 0, .int .i64 0, .int .i64 0]) ⟨[], 0, 0⟩ :=
  ⟨0, _, rfl, HasS.empty _ _ _ _ _ _ _ _⟩

def SameR (r s : Rg) : Prop := SameL r.store s.store ∧ r.at_ = s.at_ ∧ r.cnt = s.cnt
theorem SameR.refl (r : Rg) : SameR r r := ⟨SameL.refl _, rfl, rfl⟩

set_option maxHeartbeats 1000000 in
theorem eqRing_true (r s : Rg) (o o' : Bool) (lo lo' hi hi' : Nat) (v v' : Value) (w : World) (hx : HasR o lo hi w v r) (hx' : HasR o' lo' hi' w v' s) (hs : SameR r s) (h1 : r.store.length ≤ 4194304) :
    Calls Try.prog 37 #[v, v'] w (True0 w) := by
  obtain ⟨b1, vS, rfl, g1⟩ := hx
  obtain ⟨b1', vS', rfl, g1'⟩ := hx'
  obtain ⟨hs1, hs2, hs3⟩ := hs
  rw [hs2, hs3]
  obtain ⟨xs, a, c⟩ := r
  obtain ⟨ys, a', c'⟩ := s
  simp only at *
  clear hs2 hs3
  go_enter Try.func37, Try.ntmps37
  go_wp2_with fail
  refine (eqComplex64S_true _ _ _ _ _ _ _ _ _ _ _ _ _ ((g1.alloc _).alloc _) ((g1'.alloc _).alloc _) hs1 h1).mono ?_
  rintro _ _ ⟨n, rfl, rfl⟩
  go_wp2_with fail
  go_ret
  exact ⟨rfl, (((Span.refl _ _ _).alloc _).alloc _).drewN _⟩

/-- What marking a ring gives. -/
def MarksR (lo hi : Nat) (v : Value) (r : Rg) (k : Nat) (w : World) (e : Ending) (w' : World) : Prop :=
  e = .returned (.int .i64 ((k + r.store.length : Nat) : Int)) ∧ HasR true lo hi w' v { r with store := marksC r.store.length k } ∧ Span lo hi w w'

set_option maxHeartbeats 1000000 in
theorem markRing_any (r : Rg) (lo hi k : Nat) (v : Value) (w : World) (hx : HasR true lo hi w v r) (hhi : hi ≤ w.heap.size) (h1 : r.store.length ≤ 2097152) (hk : k ≤ 2097152) :
    Calls Try.prog 38 #[v, .int .i64 (k : Int)] w (MarksR lo hi v r k w) := by
  obtain ⟨b1, vS, rfl, g1⟩ := hx
  go_enter Try.func38, Try.ntmps38
  go_wp2_with fail
  refine (markComplex64S_any _ b1 lo hi k _ _ (g1.alloc _) (by omega) (by omega)).mono ?_
  rintro _ w1 ⟨rfl, m1, s1, s1', z1⟩
  have sA : Span lo hi w w1 := s1'.after ((Span.refl _ _ _).alloc _)
  clear s1 s1' z1
  go_wp2_with fail
  go_ret
  exact ⟨rfl, ⟨b1, vS, rfl, m1⟩, sA⟩

set_option maxHeartbeats 1000000 in
theorem heldRing_any (n : Nat) (r : Rg) (o : Bool) (lo hi k : Nat) (v : Value) (w : World) (hx : HasR o lo hi w v r) (hr : r.store = marksC n k) (h1 : n ≤ 2097152) (hk : k ≤ 2097152) :
    Calls Try.prog 39 #[v, .int .i64 (k : Int)] w (Num0 ((k + n : Nat) : Int) w) := by
  obtain ⟨b1, vS, rfl, g1⟩ := hx
  rw [hr] at g1
  go_enter Try.func39, Try.ntmps39
  go_wp2_with fail
  refine (heldComplex64S_any n k o b1 lo hi _ _ (g1.alloc _) (by omega) (by omega)).mono ?_
  rintro _ _ ⟨rfl, rfl⟩
  go_wp2_with fail
  go_ret
  exact ⟨rfl, (Span.refl _ _ _).alloc _⟩

end Go.Proofs.Ytocmppilihiehaa
