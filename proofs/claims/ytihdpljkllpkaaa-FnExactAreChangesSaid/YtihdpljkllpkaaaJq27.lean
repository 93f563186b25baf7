/- Slices of structs in memory, of any number of cells each: lists of modules, of cables. -/
import Derived.Test.YtihdpljkllpkaaaJq8
import Derived.Test.YtihdpljkllpkaaaJq23
import Derived.Test.YtihdpljkllpkaaaJq26
import Derived.Outline
namespace Go.Proofs.Ytihdpljkllpkaaa
open Go.RowKit

/-- A slice that reads as a list whose elements hold s cells each. -/
def HasC {α : Type} (s : Nat) (fl : α → List Value) (b lo hi : Nat) (w : World) (v : Value) (L : List α) : Prop :=
  ∃ (A : Option Addr) (cap : Nat), v = .slice A L.length cap ∧ L.length ≤ cap ∧
    (0 < L.length → ∃ off, A = some ⟨b, off, none⟩ ∧ lo ≤ b ∧ b < hi ∧ b < w.heap.size ∧ ∀ (j : Nat) (x : α) (i : Nat) (u : Value), L[j]? = some x → (fl x)[i]? = some u → w.cell? ⟨b, off + j * s + i, none⟩ = some u)

theorem HasC.span {α : Type} {s : Nat} {fl : α → List Value} {b lo hi l r : Nat} {w w' : World} {v : Value} {L : List α} (h : HasC s fl b lo hi w v L) (hs : Span l r w w') (hd : r ≤ l ∨ hi ≤ l ∨ r ≤ lo ∨ b < l ∨ r ≤ b) : HasC s fl b lo hi w' v L := by
  obtain ⟨A, cap, rfl, hcap, hc⟩ := h
  refine ⟨A, cap, rfl, hcap, fun hp => ?_⟩
  obtain ⟨off, rfl, h1, h2, h3, h4⟩ := hc hp
  have g2 := hs.block b h3 (by omega)
  exact ⟨off, rfl, h1, h2, Nat.lt_of_lt_of_le h3 hs.size, fun j x i u hj hi => (World.cell?_of_block (w := w) g2).trans (h4 j x i u hj hi)⟩
theorem HasC.keep {α : Type} {s : Nat} {fl : α → List Value} {b lo hi : Nat} {w w' : World} {v : Value} {L : List α} (h : HasC s fl b lo hi w v L) (hs : Span 0 0 w w') : HasC s fl b lo hi w' v L := h.span hs (.inl (Nat.le_refl _))
theorem HasC.weak {α : Type} {s : Nat} {fl : α → List Value} {b lo hi lo' hi' : Nat} {w : World} {v : Value} {L : List α} (h : HasC s fl b lo hi w v L) (h1 : lo' ≤ lo) (h2 : hi ≤ hi' ∨ w.heap.size ≤ hi') : HasC s fl b lo' hi' w v L := by
  obtain ⟨A, cap, rfl, hcap, hc⟩ := h
  refine ⟨A, cap, rfl, hcap, fun hp => ?_⟩
  obtain ⟨off, rfl, g1, g2, g3, g4⟩ := hc hp
  exact ⟨off, rfl, by omega, by omega, g3, g4⟩
theorem HasC.empty {α : Type} (s : Nat) (fl : α → List Value) (b lo hi : Nat) (w : World) (A : Option Addr) (c : Nat) : HasC s fl b lo hi w (.slice A 0 c) [] :=
  ⟨A, c, rfl, Nat.zero_le _, fun h => absurd h (by simp)⟩
theorem HasC.addr {α : Type} {s : Nat} {fl : α → List Value} {b lo hi n c : Nat} {w : World} {A : Option Addr} {L : List α} (h : HasC s fl b lo hi w (.slice A n c) L) (hp : 0 < L.length) : ∃ off, A = some ⟨b, off, none⟩ := by
  obtain ⟨A', c', e, _, hc⟩ := h
  injection e with e1 e2 e3
  subst e1
  obtain ⟨off, rfl, _⟩ := hc hp
  exact ⟨off, rfl⟩
theorem HasC.at_ {α : Type} {s : Nat} {fl : α → List Value} {b b' off lo hi n c j : Nat} {w : World} {L : List α} {x : α} (h : HasC s fl b lo hi w (.slice (some ⟨b', off, none⟩) n c) L) (hj : L[j]? = some x) {i : Nat} {u : Value} (hu : (fl x)[i]? = some u) : w.cell? ⟨b', off + j * s + i, none⟩ = some u := by
  obtain ⟨A', c', e, _, hc⟩ := h
  injection e with e1 e2 e3
  obtain ⟨off', e4, _, _, _, h4⟩ := hc (Nat.lt_of_le_of_lt (Nat.zero_le _) (List.getElem?_eq_some_iff.1 hj).1)
  rw [e4] at e1
  injection e1 with e1; injection e1 with e5 e6
  subst e5; subst e6
  exact h4 j x i u hj hu
theorem HasC.len {α : Type} {s : Nat} {fl : α → List Value} {b lo hi n c : Nat} {w : World} {A : Option Addr} {L : List α} (h : HasC s fl b lo hi w (.slice A n c) L) : n = L.length ∧ n ≤ c := by
  obtain ⟨A', c', e, hc, _⟩ := h
  injection e with e1 e2 e3
  subst e2; subst e3
  exact ⟨rfl, hc⟩

/-- A cable, as its cells. -/
def cabC (c : Nat × Nat) : List Value := [.int .i64 (c.1 : Int), .int .i64 (c.2 : Int)]
def boolV (b : Bool) : Value := .bool b

/-- The cells of a module of 11 cells that begin at o. -/
def MAt (w : World) (b o : Nat) (u0 u1 u2 u3 u4 u5 u6 u7 u8 u9 u10 : Value) : Prop :=
  w.cell? ⟨b, o, none⟩ = some u0 ∧ w.cell? ⟨b, o + 1, none⟩ = some u1 ∧ w.cell? ⟨b, o + 2, none⟩ = some u2 ∧ w.cell? ⟨b, o + 3, none⟩ = some u3 ∧ w.cell? ⟨b, o + 4, none⟩ = some u4 ∧ w.cell? ⟨b, o + 5, none⟩ = some u5 ∧ w.cell? ⟨b, o + 6, none⟩ = some u6 ∧ w.cell? ⟨b, o + 7, none⟩ = some u7 ∧ w.cell? ⟨b, o + 8, none⟩ = some u8 ∧ w.cell? ⟨b, o + 9, none⟩ = some u9 ∧ w.cell? ⟨b, o + 10, none⟩ = some u10
theorem HasC.module {b b' off lo hi n c j : Nat} {w : World} {L : List (List Value)} {u0 u1 u2 u3 u4 u5 u6 u7 u8 u9 u10 : Value} (h : HasC 11 id b lo hi w (.slice (some ⟨b', off, none⟩) n c) L) (hj : L[j]? = some [u0, u1, u2, u3, u4, u5, u6, u7, u8, u9, u10]) : MAt w b' (off + j * 11) u0 u1 u2 u3 u4 u5 u6 u7 u8 u9 u10 :=
  ⟨h.at_ hj (i := 0) rfl, h.at_ hj (i := 1) rfl, h.at_ hj (i := 2) rfl, h.at_ hj (i := 3) rfl, h.at_ hj (i := 4) rfl, h.at_ hj (i := 5) rfl, h.at_ hj (i := 6) rfl, h.at_ hj (i := 7) rfl, h.at_ hj (i := 8) rfl, h.at_ hj (i := 9) rfl, h.at_ hj (i := 10) rfl⟩
theorem HasC.cable {b b' off lo hi n c j : Nat} {w : World} {L : List (Nat × Nat)} {x : Nat × Nat} (h : HasC 2 cabC b lo hi w (.slice (some ⟨b', off, none⟩) n c) L) (hj : L[j]? = some x) : w.cell? ⟨b', off + j * 2, none⟩ = some (.int .i64 (x.1 : Int)) ∧ w.cell? ⟨b', off + j * 2 + 1, none⟩ = some (.int .i64 (x.2 : Int)) :=
  ⟨h.at_ hj (i := 0) rfl, h.at_ hj (i := 1) rfl⟩

/-- The modules that wait for one that is not listed, and the listed ones. -/
def passOne (kinds : List Int) (listed : List Bool) (P : List Bool) (c : Nat × Nat) : List Bool :=
  if listed.getD c.1 false = false ∧ kinds.getD c.1 0 ≠ 4 then P.set c.2 true else P
def passed (kinds : List Int) (cables : List (Nat × Nat)) (listed : List Bool) : List Bool := cables.foldl (passOne kinds listed) listed
theorem passOne_len (kinds : List Int) (listed P : List Bool) (c : Nat × Nat) : (passOne kinds listed P c).length = P.length := by
  unfold passOne; split <;> simp
theorem passed_len (kinds : List Int) (cables : List (Nat × Nat)) (listed : List Bool) : (passed kinds cables listed).length = listed.length := by
  unfold passed
  have : ∀ (cs : List (Nat × Nat)) (P : List Bool), (cs.foldl (passOne kinds listed) P).length = P.length := by
    intro cs
    induction cs with
    | nil => intro P; rfl
    | cons c cs ih => intro P; rw [List.foldl_cons, ih, passOne_len]
  exact this cables listed
/-- The first one that is not passed. -/
def firstNo : List Bool → Int
  | [] => -1
  | false :: _ => 0
  | true :: l => if firstNo l < 0 then -1 else firstNo l + 1
end Go.Proofs.Ytihdpljkllpkaaa
