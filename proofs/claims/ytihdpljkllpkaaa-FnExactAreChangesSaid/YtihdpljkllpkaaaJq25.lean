/- The grid. -/
import Derived.Test.YtihdpljkllpkaaaJq23
import Derived.Test.YtihdpljkllpkaaaJq24
import Derived.Outline
namespace Go.Proofs.Ytihdpljkllpkaaa
open Go.RowKit

def gridP (n t : Nat) : List Cx := (List.range t).map fun j => (fi (2 * ((j / n : Nat) : Int) - n + 1), fi (2 * ((j % n : Nat) : Int) - n + 1))
def gridL (t : Nat) : List Int := (List.range t).map Int.ofNat
def gridT (n : Nat) : Tab := (gridP n (n * n), gridL (n * n))

theorem gridP_length (n t : Nat) : (gridP n t).length = t := by simp [gridP]
theorem gridL_length (t : Nat) : (gridL t).length = t := by simp [gridL]

theorem gridP_succ {n i k : Nat} (hk : k < n) : gridP n (i * n + k + 1) = gridP n (i * n + k) ++ [(fi (2 * (i : Int) - n + 1), fi (2 * (k : Int) - n + 1))] := by
  have h1 : (i * n + k) / n = i := by
    rw [Nat.mul_comm, Nat.mul_add_div (by omega), Nat.div_eq_of_lt hk, Nat.add_zero]
  have h2 : (i * n + k) % n = k := by
    rw [Nat.mul_comm, Nat.mul_add_mod, Nat.mod_eq_of_lt hk]
  simp only [gridP, List.range_succ, List.map_append, List.map_cons, List.map_nil, h1, h2]
theorem gridL_succ (t : Nat) : gridL (t + 1) = gridL t ++ [(t : Int)] := by
  simp only [gridL, List.range_succ, List.map_append, List.map_cons, List.map_nil]; rfl

theorem info_int : (Try.prog.info? 3).map (fun i => (i.zero, i.size, i.bytes)) = some (some (.int .i64 0), 1, 8) := by kernel_rfl

/-- What the call owns at two types lies in two blocks. -/
theorem owns_apart {w : World} {B B' : Nat} {e e' : TypeId} {s s' : Nat} {v v' : Value} {n n' : Nat} {xs xs' : List Value} (h : w.ownsRow B e s v n xs) (h' : w.ownsRow B' e' s' v' n' xs') (he : e ≠ e') : v.ownBlock = none ∨ v.ownBlock ≠ v'.ownBlock := by
  rcases h.2 with ⟨rfl, _⟩ | ⟨g, cap, cur, rfl, _, hg, _⟩
  · exact .inl rfl
  · right
    rcases h'.2 with ⟨rfl, _⟩ | ⟨g', cap', cur', rfl, _, hg', _⟩
    · simp [Value.ownBlock]
    · intro hh
      simp only [Value.ownBlock, Option.some.injEq] at hh
      rw [hh, hg'] at hg
      injection hg with hg
      injection hg with _ h2
      exact he h2.symm

theorem ownsRow_block_ge {w : World} {B : Nat} {e : TypeId} {s : Nat} {v : Value} {n : Nat} {xs : List Value} (h : w.ownsRow B e s v n xs) {k : Nat} (hk : k < B) : some k ≠ v.ownBlock := by
  intro hh
  have := (h.lt k hh.symm).1
  omega

/-- What a function that makes a table gives: a table that lies in new blocks, or none. -/
def GivesTab (o : Option Tab) (w : World) (e : Ending) (w' : World) : Prop :=
  (match o with
    | some t => ∃ v, e = .returned (.tuple #[v, .bool true]) ∧ HasTab true w.heap.size w'.heap.size w' v t
    | none => e = .returned (.tuple #[.agg #[.slice none 0 0, .slice none 0 0], .bool false])) ∧ Span 0 0 w w'
end Go.Proofs.Ytihdpljkllpkaaa
