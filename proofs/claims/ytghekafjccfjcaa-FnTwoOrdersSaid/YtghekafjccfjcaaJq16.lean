/- The grid. -/
import Derived.Test.YtghekafjccfjcaaJq15
import Derived.Test.YtghekafjccfjcaaJq12
import Derived.Outline
namespace Go.Proofs.Ytghekafjccfjcaa
open Go.RowKit

def gridP (n t : Nat) : List Cx := (List.range t).map fun j => (fi (2 * ((j / n : Nat) : Int) - n + 1), fi (2 * ((j % n : Nat) : Int) - n + 1))
def gridL (t : Nat) : List Int := (List.range t).map Int.ofNat
def gridT (n : Nat) : Tab := (gridP n (n * n), gridL (n * n))

theorem gridP_length (n t : Nat) : (gridP n t).length = t := by simp [gridP]
theorem gridL_length (t : Nat) : (gridL t).length = t := by simp [gridL]

theorem gridP_succ {n i k : Nat} (hk : k < n) : gridP n (i * n + k + 1) = gridP n (i * n + k) ++ [(fi (2 * (i : Int) - n + 1), fi (2 * (k : Int) - n + 1))] := by
  have h1 : (i * n + k) / n = i := by
    rw [Nat.mul_comm, Nat.mul_add_div (by omega), Nat.div_eq_of_lt hk, Nat.add_zero]
  have h2 : (i * n + k) % n = k := by
    rw [Nat.mul_comm, Nat.mul_add_mod, Nat.mod_eq_of_lt hk]
  simp only [gridP, List.range_succ, List.map_append, List.map_cons, List.map_nil, h1, h2]
theorem gridL_succ (t : Nat) : gridL (t + 1) = gridL t ++ [(t : Int)] := by
  simp only [gridL, List.range_succ, List.map_append, List.map_cons, List.map_nil]; rfl

theorem info_c64 : (Try.prog.info? 29).map (fun i => (i.zero, i.size, i.bytes)) = some (some (.complex .f32 0 0), 1, 8) := by kernel_rfl
theorem info_int : (Try.prog.info? 3).map (fun i => (i.zero, i.size, i.bytes)) = some (some (.int .i64 0), 1, 8) := by kernel_rfl

/-- What the call owns at two types lies in two blocks. -/
theorem owns_apart {w : World} {B B' : Nat} {e e' : TypeId} {s s' : Nat} {v v' : Value} {n n' : Nat} {xs xs' : List Value} (h : w.ownsRow B e s v n xs) (h' : w.ownsRow B' e' s' v' n' xs') (he : e ≠ e') : v.ownBlock = none ∨ v.ownBlock ≠ v'.ownBlock := by
  rcases h.2 with ⟨rfl, _⟩ | ⟨g, cap, cur, rfl, _, hg, _⟩
  · exact .inl rfl
  · right
    rcases h'.2 with ⟨rfl, _⟩ | ⟨g', cap', cur', rfl, _, hg', _⟩
    · simp [Value.ownBlock]
    · intro hh
      simp only [Value.ownBlock, Option.some.injEq] at hh
      rw [hh, hg'] at hg
      injection hg with hg
      injection hg with _ h2
      exact he h2.symm

/-- A table that is being made, in the cells of block G; R is where the result will lie. -/
structure Growing (R G B : Nat) (w : World) (P : List Cx) (L : List Int) (vP vL : Value) (wr : World) : Prop where
  g : wr.heap[G]? = some (.cells #[vP, vL] 35 (0, 0))
  r : wr.heap[R]? = some (.cells #[.slice none 0 0, .slice none 0 0] 35 (0, 0))
  p : wr.ownsRow B 29 1 vP P.length (P.map cxV)
  l : wr.ownsRow B 3 1 vL L.length (L.map intV)
  s : Span 0 0 w wr
  hB : B ≤ wr.heap.size

theorem ownsRow_block_ge {w : World} {B : Nat} {e : TypeId} {s : Nat} {v : Value} {n : Nat} {xs : List Value} (h : w.ownsRow B e s v n xs) {k : Nat} (hk : k < B) : some k ≠ v.ownBlock := by
  intro hh
  have := (h.lt k hh.symm).1
  omega

theorem Growing.points {R G B : Nat} {w : World} {P : List Cx} {L : List Int} {vP vL : Value} {wr w1 : World} (h : Growing R G B w P L vP vL wr) (hR : R < G) (hG : G < B) (hw : w.heap.size ≤ R) {o : Obj} {v' : Value} {z : Cx}
    (ho : w1.ownsRow B 29 1 v' (P.length + 1) (P.map cxV ++ [cxV z])) (hg : (wr.alloc o).grownBy w1 vP.ownBlock) :
    w1.cell? ⟨G, 0, none⟩ = some vP ∧ w1.cell? ⟨G, 1, none⟩ = some vL ∧ w1.frozen? ⟨G, 0, none⟩ = false ∧ Growing R G B w (P ++ [z]) L v' vL (w1.setCell ⟨G, 0, none⟩ v') := by
  have hGs : G < wr.heap.size := Nat.lt_of_lt_of_le hG h.hB
  have e1 : w1.heap[G]? = some (.cells #[vP, vL] 35 (0, 0)) := by
    rw [hg.block G (by simp; omega) (ownsRow_block_ge h.p hG), Below.heap_alloc _ _ _ hGs]; exact h.g
  have e2 : w1.heap[R]? = some (.cells #[.slice none 0 0, .slice none 0 0] 35 (0, 0)) := by
    rw [hg.block R (by simp; omega) (ownsRow_block_ge h.p (by omega)), Below.heap_alloc _ _ _ (by omega)]; exact h.r
  have l1 : w1.ownsRow B 3 1 vL L.length (L.map intV) := (h.l.alloc o).kept hg (owns_apart h.l h.p (by decide))
  have gs := grown_setCell w1 G 0 v'
  have s1 : Span 0 0 w w1 := (h.s.alloc o).grown hg (fun k hk => by have := (h.p.lt k hk).1; right; omega)
  refine ⟨by simp [World.cell?, e1], by simp [World.cell?, e1], by simp [World.frozen?, e1], ?_, ?_, ?_, l1.kept gs (.inr (ownsRow_block_ge l1 hG).symm), s1.setCell (.inr (by simp; omega)) _, ?_⟩
  · simp [World.setCell, Array.getElem?_modify, e1]
  · rw [Below.heap_setCell _ _ _ _ (by simp; omega)]; exact e2
  · have := ho.kept gs (.inr (ownsRow_block_ge ho hG).symm)
    simpa using this
  · have h1 := hg.size
    have h2 := h.hB
    simp [World.setCell] at h1 ⊢
    omega

theorem Growing.labels {R G B : Nat} {w : World} {P : List Cx} {L : List Int} {vP vL : Value} {wr w1 : World} (h : Growing R G B w P L vP vL wr) (hR : R < G) (hG : G < B) (hw : w.heap.size ≤ R) {o : Obj} {v' : Value} {z : Int}
    (ho : w1.ownsRow B 3 1 v' (L.length + 1) (L.map intV ++ [intV z])) (hg : (wr.alloc o).grownBy w1 vL.ownBlock) :
    w1.cell? ⟨G, 0, none⟩ = some vP ∧ w1.cell? ⟨G, 1, none⟩ = some vL ∧ w1.frozen? ⟨G, 1, none⟩ = false ∧ Growing R G B w P (L ++ [z]) vP v' (w1.setCell ⟨G, 1, none⟩ v') := by
  have hGs : G < wr.heap.size := Nat.lt_of_lt_of_le hG h.hB
  have e1 : w1.heap[G]? = some (.cells #[vP, vL] 35 (0, 0)) := by
    rw [hg.block G (by simp; omega) (ownsRow_block_ge h.l hG), Below.heap_alloc _ _ _ hGs]; exact h.g
  have e2 : w1.heap[R]? = some (.cells #[.slice none 0 0, .slice none 0 0] 35 (0, 0)) := by
    rw [hg.block R (by simp; omega) (ownsRow_block_ge h.l (by omega)), Below.heap_alloc _ _ _ (by omega)]; exact h.r
  have l1 : w1.ownsRow B 29 1 vP P.length (P.map cxV) := (h.p.alloc o).kept hg (owns_apart h.p h.l (by decide))
  have gs := grown_setCell w1 G 1 v'
  have s1 : Span 0 0 w w1 := (h.s.alloc o).grown hg (fun k hk => by have := (h.l.lt k hk).1; right; omega)
  refine ⟨by simp [World.cell?, e1], by simp [World.cell?, e1], by simp [World.frozen?, e1], ?_, ?_, l1.kept gs (.inr (ownsRow_block_ge l1 hG).symm), ?_, s1.setCell (.inr (by simp; omega)) _, ?_⟩
  · simp [World.setCell, Array.getElem?_modify, e1]
  · rw [Below.heap_setCell _ _ _ _ (by simp; omega)]; exact e2
  · have := ho.kept gs (.inr (ownsRow_block_ge ho hG).symm)
    simpa using this
  · have h1 := hg.size
    have h2 := h.hB
    simp [World.setCell] at h1 ⊢
    omega

theorem Growing.start (w : World) : Growing w.heap.size (w.heap.size + 1) (w.heap.size + 2) w [] [] (.slice none 0 0) (.slice none 0 0)
    ((w.alloc (.cells #[.slice none 0 0, .slice none 0 0] 35)).alloc (.cells #[.slice none 0 0, .slice none 0 0] 35)) := by
  refine ⟨?_, ?_, World.ownsRow_nil _ _ _ _, World.ownsRow_nil _ _ _ _, ((Span.refl _ _ _).alloc _).alloc _, by simp⟩
  · have e : w.heap.size + 1 = (w.alloc (.cells #[.slice none 0 0, .slice none 0 0] 35)).heap.size := by simp
    rw [e]; exact heap_alloc_new _ _
  · rw [Below.heap_alloc _ _ _ (by simp)]
    exact heap_alloc_new _ _

theorem Growing.cells {R G B : Nat} {w : World} {P : List Cx} {L : List Int} {vP vL : Value} {wr : World} (h : Growing R G B w P L vP vL wr) :
    wr.cell? ⟨G, 0, none⟩ = some vP ∧ wr.cell? ⟨G, 1, none⟩ = some vL ∧ wr.cell? ⟨R, 0, none⟩ = some (.slice none 0 0) ∧ wr.cell? ⟨R, 1, none⟩ = some (.slice none 0 0) ∧ wr.frozen? ⟨R, 0, none⟩ = false ∧ wr.frozen? ⟨R, 1, none⟩ = false := by
  simp [World.cell?, World.frozen?, h.g, h.r]

theorem owned_tab {w : World} {B : Nat} {vP vL : Value} {P : List Cx} {L : List Int} {n m : Nat} (hp : w.ownsRow B 29 1 vP n (P.map cxV)) (hl : w.ownsRow B 3 1 vL m (L.map intV)) : HasTab true B w.heap.size w (.agg #[vP, vL]) (P, L) := by
  obtain ⟨b1, h1, _, o1⟩ := ownsRow_hasS hp
  obtain ⟨b2, h2, _, o2⟩ := ownsRow_hasS hl
  by_cases hP : 0 < P.length
  · by_cases hL : 0 < L.length
    · refine ⟨b1, b2, vP, vL, rfl, ?_, h1, h2⟩
      rintro rfl
      rcases owns_apart hp hl (by decide) with h | h
      · rw [o1 hP] at h; cases h
      · exact h ((o1 hP).trans (o2 hL).symm)
    · have e : L = [] := by cases L with | nil => rfl | cons a l => simp at hL
      subst e
      obtain ⟨A, c, rfl, _⟩ := h2
      exact ⟨b1, b1 + 1, vP, _, rfl, by omega, h1, HasS.empty _ _ _ _ _ _ _ _⟩
  · have e : P = [] := by cases P with | nil => rfl | cons a l => simp at hP
    subst e
    obtain ⟨A, c, rfl, _⟩ := h1
    exact ⟨b2 + 1, b2, _, vL, rfl, by omega, HasS.empty _ _ _ _ _ _ _ _, h2⟩

/-- What a function that makes a table gives: a table that lies in new blocks, or none. -/
def GivesTab (o : Option Tab) (w : World) (e : Ending) (w' : World) : Prop :=
  (match o with
    | some t => ∃ v, e = .returned (.tuple #[v, .bool true]) ∧ HasTab true w.heap.size w'.heap.size w' v t
    | none => e = .returned (.tuple #[.agg #[.slice none 0 0, .slice none 0 0], .bool false])) ∧ Span 0 0 w w'
end Go.Proofs.Ytghekafjccfjcaa
