/- Rings and modules in memory: compared, marked, looked at. -/
import Derived.Test.YtghekafjccfjcaaJq21
import Derived.Outline
namespace Go.Proofs.Ytghekafjccfjcaa
open Go.RowKit

/-- A ring: its store, At and Count. -/
structure Rg where
  store : List Cx
  at_ : Int
  cnt : Int

def HasR (own : Bool) (lo hi : Nat) (w : World) (v : Value) (r : Rg) : Prop :=
  ∃ b vS, v = .agg #[vS, .int .i64 r.at_, .int .i64 r.cnt] ∧ HasS cxV own b lo hi w vS r.store

theorem HasR.span {own : Bool} {lo hi l r : Nat} {w w' : World} {v : Value} {t : Rg} (h : HasR own lo hi w v t) (hs : Span l r w w') (hd : r ≤ l ∨ hi ≤ l ∨ r ≤ lo) : HasR own lo hi w' v t := by
  obtain ⟨b1, vS, rfl, h1⟩ := h
  exact ⟨b1, vS, rfl, h1.span hs (by omega)⟩
theorem HasR.weak {own : Bool} {lo hi lo' hi' : Nat} {w : World} {v : Value} {t : Rg} (h : HasR own lo hi w v t) (h1 : lo' ≤ lo) (h2 : hi ≤ hi' ∨ w.heap.size ≤ hi') : HasR own lo' hi' w v t := by
  obtain ⟨b1, vS, rfl, g1⟩ := h
  exact ⟨b1, vS, rfl, g1.weak h1 h2⟩
theorem HasR.none_ (own : Bool) (lo hi : Nat) (w : World) : HasR own lo hi w (.agg #[.slice none 0 0, .int .i64 0, .int .i64 0]) ⟨[], 0, 0⟩ :=
  ⟨0, _, rfl, HasS.empty _ _ _ _ _ _ _ _⟩

def SameR (r s : Rg) : Prop := SameL r.store s.store ∧ r.at_ = s.at_ ∧ r.cnt = s.cnt
theorem SameR.refl (r : Rg) : SameR r r := ⟨SameL.refl _, rfl, rfl⟩

/-- What marking a ring gives. -/
def MarksR (lo hi : Nat) (v : Value) (r : Rg) (k : Nat) (w : World) (e : Ending) (w' : World) : Prop :=
  e = .returned (.int .i64 ((k + r.store.length : Nat) : Int)) ∧ HasR true lo hi w' v { r with store := marksC r.store.length k } ∧ Span lo hi w w'
end Go.Proofs.Ytghekafjccfjcaa
