/- Marks looked at; tables compared, marked, looked at. -/
import Derived.Test.YtihdpljkllpkaaaJq22
namespace Go.Proofs.Ytihdpljkllpkaaa
open Go.RowKit

/-- A number comes back, and nothing old is turned. -/
def Num0 (r : Int) (w : World) (e : Ending) (w' : World) : Prop := e = .returned (.int .i64 r) ∧ Span 0 0 w w'
def True0 (w : World) (e : Ending) (w' : World) : Prop := e = .returned (.bool true) ∧ Span 0 0 w w'

/-- A table: points and labels. -/
abbrev Tab := List Cx × List Int
def HasTab (own : Bool) (lo hi : Nat) (w : World) (v : Value) (t : Tab) : Prop :=
  ∃ b1 b2 vP vL, v = .agg #[vP, vL] ∧ b1 ≠ b2 ∧ HasS cxV own b1 lo hi w vP t.1 ∧ HasS intV own b2 lo hi w vL t.2

theorem HasTab.span {own : Bool} {lo hi l r : Nat} {w w' : World} {v : Value} {t : Tab} (h : HasTab own lo hi w v t) (hs : Span l r w w') (hd : r ≤ l ∨ hi ≤ l ∨ r ≤ lo) : HasTab own lo hi w' v t := by
  obtain ⟨b1, b2, vP, vL, rfl, hne, h1, h2⟩ := h
  exact ⟨b1, b2, vP, vL, rfl, hne, h1.span hs (by omega), h2.span hs (by omega)⟩

theorem HasTab.weak {own : Bool} {lo hi lo' hi' : Nat} {w : World} {v : Value} {t : Tab} (h : HasTab own lo hi w v t) (h1 : lo' ≤ lo) (h2 : hi ≤ hi' ∨ w.heap.size ≤ hi') : HasTab own lo' hi' w v t := by
  obtain ⟨b1, b2, vP, vL, rfl, hne, g1, g2⟩ := h
  exact ⟨b1, b2, vP, vL, rfl, hne, g1.weak h1 h2, g2.weak h1 h2⟩

def SameT (t t' : Tab) : Prop := SameL t.1 t'.1 ∧ t.2 = t'.2
theorem SameT.refl (t : Tab) : SameT t t := ⟨SameL.refl _, rfl⟩

/-- What marking a table gives. -/
def MarksT (lo hi : Nat) (v : Value) (t : Tab) (k : Nat) (w : World) (e : Ending) (w' : World) : Prop :=
  e = .returned (.int .i64 ((k + t.1.length + t.2.length : Nat) : Int)) ∧ HasTab true lo hi w' v t ∧ Span lo hi w w'

def marksT (t : Tab) (k : Nat) : Tab := (marksC t.1.length k, marksI t.2.length (k + t.1.length))

theorem HasS.lt {α : Type} {val : α → Value} {own : Bool} {b lo hi : Nat} {w : World} {v : Value} {xs : List α} (h : HasS val own b lo hi w v xs) (hp : 0 < xs.length) : b < w.heap.size := by
  obtain ⟨A, cap, rfl, hcap, hc⟩ := h
  obtain ⟨off, rfl, _, _, h3, _⟩ := hc hp
  exact h3
end Go.Proofs.Ytihdpljkllpkaaa
