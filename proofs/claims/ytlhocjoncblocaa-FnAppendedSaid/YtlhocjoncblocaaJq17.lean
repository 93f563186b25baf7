/- The grid. The grid, made by the program. The grid, made by the specification's program. -/
import Derived.Test.YtlhocjoncblocaaJq15
import Derived.Test.YtlhocjoncblocaaJq16
import Derived.Outline
import Derived.Test.YtlhocjoncblocaaJq11
namespace Go.Proofs.Ytlhocjoncblocaa
section
open Go.RowKit

def gridP (n t : Nat) : List Cx := (List.range t).map fun j => (fi (2 * ((j / n : Nat) : Int) - n + 1), fi (2 * ((j % n : Nat) : Int) - n + 1))
def gridL (t : Nat) : List Int := (List.range t).map Int.ofNat
def gridT (n : Nat) : Tab := (gridP n (n * n), gridL (n * n))

theorem gridP_length (n t : Nat) : (gridP n t).length = t := by simp [gridP]
theorem gridL_length (t : Nat) : (gridL t).length = t := by simp [gridL]

theorem gridP_succ {n i k : Nat} (hk : k < n) : gridP n (i * n + k + 1) = gridP n (i * n + k) ++ [(fi (2 * (i : Int) - n + 1), fi (2 * (k : Int) - n + 1))] := by
  have h1 : (i * n + k) / n = i := by
    rw [Nat.mul_comm, Nat.mul_add_div (by omega), Nat.div_eq_of_lt hk, Nat.add_zero]
  have h2 : (i * n + k) % n = k := by
    rw [Nat.mul_comm, Nat.mul_add_mod, Nat.mod_eq_of_lt hk]
  simp only [gridP, List.range_succ, List.map_append, List.map_cons, List.map_nil, h1, h2]
theorem gridL_succ (t : Nat) : gridL (t + 1) = gridL t ++ [(t : Int)] := by
  simp only [gridL, List.range_succ, List.map_append, List.map_cons, List.map_nil]; rfl

theorem info_c64 : (Try.prog.info? 48).map (fun i => (i.zero, i.size, i.bytes)) = some (some (.complex .f32 0 0), 1, 8) := by kernel_rfl
theorem info_int : (Try.prog.info? 3).map (fun i => (i.zero, i.size, i.bytes)) = some (some (.int .i64 0), 1, 8) := by kernel_rfl

/-- What the call owns at two types lies in two blocks. -/
theorem owns_apart {w : World} {B B' : Nat} {e e' : TypeId} {s s' : Nat} {v v' : Value} {n n' : Nat} {xs xs' : List Value} (h : w.ownsRow B e s v n xs) (h' : w.ownsRow B' e' s' v' n' xs') (he : e ≠ e') : v.ownBlock = none ∨ v.ownBlock ≠ v'.ownBlock := by
  rcases h.2 with ⟨rfl, _⟩ | ⟨g, cap, cur, rfl, _, hg, _⟩
  · exact .inl rfl
  · right
    rcases h'.2 with ⟨rfl, _⟩ | ⟨g', cap', cur', rfl, _, hg', _⟩
    · simp [Value.ownBlock]
    · intro hh
      simp only [Value.ownBlock, Option.some.injEq] at hh
      rw [hh, hg'] at hg
      injection hg with hg
      injection hg with _ h2
      exact he h2.symm

theorem ownsRow_block_ge {w : World} {B : Nat} {e : TypeId} {s : Nat} {v : Value} {n : Nat} {xs : List Value} (h : w.ownsRow B e s v n xs) {k : Nat} (hk : k < B) : some k ≠ v.ownBlock := by
  intro hh
  have := (h.lt k hh.symm).1
  omega

theorem owned_tab {w : World} {B : Nat} {vP vL : Value} {P : List Cx} {L : List Int} {n m : Nat} (hp : w.ownsRow B 48 1 vP n (P.map cxV)) (hl : w.ownsRow B 3 1 vL m (L.map intV)) : HasTab true B w.heap.size w (.agg #[vP, vL]) (P, L) := by
  obtain ⟨b1, h1, _, o1⟩ := ownsRow_hasS hp
  obtain ⟨b2, h2, _, o2⟩ := ownsRow_hasS hl
  by_cases hP : 0 < P.length
  · by_cases hL : 0 < L.length
    · refine ⟨b1, b2, vP, vL, rfl, ?_, h1, h2⟩
      rintro rfl
      rcases owns_apart hp hl (by decide) with h | h
      · rw [o1 hP] at h; cases h
      · exact h ((o1 hP).trans (o2 hL).symm)
    · have e : L = [] := by cases L with | nil => rfl | cons a l => simp at hL
      subst e
      obtain ⟨A, c, rfl, _⟩ := h2
      exact ⟨b1, b1 + 1, vP, _, rfl, by omega, h1, HasS.empty _ _ _ _ _ _ _ _⟩
  · have e : P = [] := by cases P with | nil => rfl | cons a l => simp at hP
    subst e
    obtain ⟨A, c, rfl, _⟩ := h1
    exact ⟨b2 + 1, b2, _, vL, rfl, by omega, HasS.empty _ _ _ _ _ _ _ _, h2⟩

/-- What a function that makes a table gives: a table that lies in new blocks, or none. -/
def GivesTab (o : Option Tab) (w : World) (e : Ending) (w' : World) : Prop :=
  (match o with
    | some t => ∃ v, e = .returned (.tuple #[v, .bool true]) ∧ HasTab true w.heap.size w'.heap.size w' v t
    | none => e = .returned (.tuple #[.agg #[.slice none 0 0, .slice none 0 0], .bool false])) ∧ Span 0 0 w w'
end
section
open Go.RowKit

theorem ownsRow_slice {w : World} {B : Nat} {e : TypeId} {s : Nat} {v : Value} {n : Nat} {xs : List Value} (h : w.ownsRow B e s v n xs) : ∃ A c, v = .slice A n c := by
  rcases h.2 with ⟨rfl, rfl⟩ | ⟨g, cap, cur, rfl, _⟩
  · exact ⟨_, _, rfl⟩
  · exact ⟨_, _, rfl⟩
theorem one_cell {u : Value} (h : u.oneCell' = true) : ∀ x ∈ [u], x.oneCell' = true := by
  intro x hx
  rw [List.mem_singleton.1 hx]; exact h
theorem one_new (w : World) (u : Value) (e : TypeId) : ∀ j x, [u][j]? = some x → (w.alloc (.cells #[u] e)).cell? ((⟨w.heap.size, 0, none⟩ : Addr).add j) = some x := by
  intro j x hj
  have hj0 : j = 0 := by
    have := (List.getElem?_eq_some_iff.1 hj).1
    simp at this
    exact this
  subst hj0
  simp only [List.getElem?_cons_zero, Option.some.injEq] at hj
  subst hj
  show (w.alloc (.cells #[u] e)).cell? ⟨w.heap.size, 0, none⟩ = _
  rw [World.cell?_alloc_new]; rfl
theorem one_new' (w : World) (a : Addr) (v u : Value) (e : TypeId) : ∀ j x, [u][j]? = some x → ((w.setCell a v).alloc (.cells #[u] e)).cell? ((⟨w.heap.size, 0, none⟩ : Addr).add j) = some x := by
  have h := one_new (w.setCell a v) u e
  simpa [World.setCell] using h
end
section
open Go.RowKit

def gridO (n : Int) : Option Tab := if 1 ≤ n ∧ n ≤ 8 then some (gridT n.toNat) else none

theorem HasTab.none_ (own : Bool) (lo hi : Nat) (w : World) : HasTab own lo hi w (.agg #[.slice none 0 0, .slice none 0 0]) ([], []) :=
  ⟨0, 1, _, _, rfl, by omega, HasS.empty _ _ _ _ _ _ _ _, HasS.empty _ _ _ _ _ _ _ _⟩

/-- The table that is given, or the zero value. -/
def okT (o : Option Tab) : Tab := o.getD ([], [])
def GivesTab' (o : Option Tab) (w : World) (e : Ending) (w' : World) : Prop :=
  ∃ v, e = .returned (.tuple #[v, .bool o.isSome]) ∧ HasTab true w.heap.size w'.heap.size w' v (okT o) ∧ Span 0 0 w w'
theorem GivesTab.plain {o : Option Tab} {w : World} {e : Ending} {w' : World} (h : GivesTab o w e w') : GivesTab' o w e w' := by
  obtain ⟨h1, h2⟩ := h
  cases o with
  | none => exact ⟨_, h1, HasTab.none_ _ _ _ _, h2⟩
  | some t => obtain ⟨v, rfl, h3⟩ := h1; exact ⟨v, rfl, h3, h2⟩

theorem gridO_len (n : Int) : (okT (gridO n)).1.length ≤ 64 ∧ (okT (gridO n)).2.length ≤ 64 := by
  unfold gridO okT
  by_cases h : 1 ≤ n ∧ n ≤ 8
  · rw [if_pos h]
    have : n.toNat * n.toNat ≤ 8 * 8 := Nat.mul_le_mul (by omega) (by omega)
    simp only [Option.getD_some, gridT, gridP_length, gridL_length]
    omega
  · rw [if_neg h]; simp

theorem HasTab.form {own : Bool} {lo hi : Nat} {w : World} {v : Value} {t : Tab} (h : HasTab own lo hi w v t) : ∃ A c A' c', v = .agg #[.slice A t.1.length c, .slice A' t.2.length c'] := by
  obtain ⟨b1, b2, vP, vL, rfl, hne, h1, h2⟩ := h
  obtain ⟨A, c, rfl, _⟩ := h1
  obtain ⟨A', c', rfl, _⟩ := h2
  exact ⟨A, c, A', c', rfl⟩

/-- A box of two cells stays. -/
theorem Span.box2 {lo hi b : Nat} {w w' : World} {u v : Value} (h : Span lo hi w w') (hb : b < w.heap.size) (hd : hi ≤ lo ∨ b < lo ∨ hi ≤ b) (hc : w.cell? ⟨b, 0, none⟩ = some u ∧ w.cell? ⟨b, 1, none⟩ = some v) :
    w'.cell? ⟨b, 0, none⟩ = some u ∧ w'.cell? ⟨b, 1, none⟩ = some v := by
  have e := h.block b hb (by omega)
  exact ⟨(World.cell?_of_block (w := w) (a := ⟨b, 0, none⟩) e).trans hc.1, (World.cell?_of_block (w := w) (a := ⟨b, 1, none⟩) e).trans hc.2⟩
theorem box2_alloc {w : World} {b : Nat} {u v : Value} (hc : w.cell? ⟨b, 0, none⟩ = some u ∧ w.cell? ⟨b, 1, none⟩ = some v) (hb : b < w.heap.size) :
    (∀ o, (w.alloc o).cell? ⟨b, 0, none⟩ = some u) ∧ (∀ o, (w.alloc o).cell? ⟨b, 1, none⟩ = some v) :=
  ⟨fun o => (((Span.refl 0 0 w).alloc o).box2 hb (.inl (Nat.le_refl _)) hc).1, fun o => (((Span.refl 0 0 w).alloc o).box2 hb (.inl (Nat.le_refl _)) hc).2⟩
theorem box2_new (w : World) (u v : Value) (t : TypeId) : (w.alloc (.cells #[u, v] t)).cell? ⟨w.heap.size, 0, none⟩ = some u ∧ (w.alloc (.cells #[u, v] t)).cell? ⟨w.heap.size, 1, none⟩ = some v := by
  constructor <;> rw [World.cell?_alloc_new] <;> rfl
end
end Go.Proofs.Ytlhocjoncblocaa
