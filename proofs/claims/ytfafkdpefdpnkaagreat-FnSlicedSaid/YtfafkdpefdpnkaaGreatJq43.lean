/- Labels, and what they are encoded by and decided as. -/
import Derived.Test.YtfafkdpefdpnkaaGreatJq42
namespace Go.Proofs.YtfafkdpefdpnkaaGreat
open Go.RowKit

def lI (ls : List Nat) : List Int := ls.map Int.ofNat
def zsOf (n : Nat) (ls : List Nat) : List Cx := ls.map fun l => (gridP n (n * n)).getD l (0, 0)
def tsOf (n : Nat) (ls : List Nat) : List Cx := ls.map fun l => turnB ((gridP n (n * n)).getD l (0, 0))
def bkOf (n : Nat) (ls : List Nat) : List Int := ls.map fun l => ((back n l : Nat) : Int)

theorem map_get {α β : Type} {f : α → β} {ls : List α} {j : Nat} {y : β} (h : (ls.map f)[j]? = some y) : ∃ l, ls[j]? = some l ∧ y = f l := by
  rw [List.getElem?_map, Option.map_eq_some_iff] at h
  obtain ⟨l, h1, rfl⟩ := h
  exact ⟨l, h1, rfl⟩

theorem grid_at {n l : Nat} (h : l < n * n) : (gridP n (n * n))[l]? = some ((gridP n (n * n)).getD l (0, 0)) := by
  rw [List.getD_eq_getElem?_getD]
  obtain ⟨p, hp⟩ := getElem?_some (xs := gridP n (n * n)) (j := l) (by rw [gridP_length]; exact h)
  rw [hp]; rfl

theorem grid_encoded {n : Nat} {ls : List Nat} (h : ∀ l ∈ ls, l < n * n) : Encoded (gridT n) (lI ls) (zsOf n ls) := by
  refine ⟨by simp [lI, zsOf], fun j x hj => ?_⟩
  obtain ⟨l, hl, rfl⟩ := map_get hj
  have hlt := h l (List.mem_of_getElem? hl)
  refine ⟨l, _, gridL_get hlt, fun k hk he => ?_, grid_at hlt, ?_⟩
  · obtain ⟨_, e⟩ := gridL_get' he
    have : (l : Int) = (k : Int) := e
    omega
  · rw [zsOf, List.getElem?_map, hl]; rfl

theorem grid_decided {n : Nat} (hn : n ≤ 8) (h0 : 1 ≤ n) {ls : List Nat} (h : ∀ l ∈ ls, l < n * n) : Decided (gridT n) (zsOf n ls) (lI ls) := by
  refine ⟨by simp [lI, zsOf], fun j z hj => ?_⟩
  obtain ⟨l, hl, rfl⟩ := map_get hj
  have hlt := h l (List.mem_of_getElem? hl)
  refine ⟨l, _, _, (grid_placed hn h0).near (by rw [gridP_length]; exact hlt) ((grid_placed hn h0).whole l _ (grid_at hlt)), gridL_get hlt, ?_⟩
  rw [lI, List.getElem?_map, hl]; rfl

theorem turn_at {n l : Nat} (h : l < n * n) : (turnP (gridP n (n * n)))[l]? = some (turnB ((gridP n (n * n)).getD l (0, 0))) := by
  rw [turnP, List.getElem?_map, grid_at h]; rfl

theorem turn_decided {n : Nat} (hn : n ≤ 8) (h0 : 1 ≤ n) {ls : List Nat} (h : ∀ l ∈ ls, l < n * n) : Decided (turnP (gridP n (n * n)), gridL (n * n)) (tsOf n ls) (lI ls) := by
  refine ⟨by simp [lI, tsOf], fun j z hj => ?_⟩
  obtain ⟨l, hl, rfl⟩ := map_get hj
  have hlt := h l (List.mem_of_getElem? hl)
  refine ⟨l, _, _, (turn_placed hn h0).near (by simp [turnP, gridP_length]; exact hlt) ((turn_placed hn h0).whole l _ (turn_at hlt)), gridL_get hlt, ?_⟩
  rw [lI, List.getElem?_map, hl]; rfl

theorem turn_whole {n l : Nat} (hn : n ≤ 8) (h0 : 1 ≤ n) (hlt : l < n * n) : WholeC (turnB ((gridP n (n * n)).getD l (0, 0))) (gco n (back n l)) := by
  rw [back_co h0 hlt]
  exact (grid_turn hn h0 (grid_at hlt)).2

theorem back_decided {n : Nat} (hn : n ≤ 8) (h0 : 1 ≤ n) {ls : List Nat} (h : ∀ l ∈ ls, l < n * n) : Decided (gridT n) (tsOf n ls) (bkOf n ls) := by
  refine ⟨by simp [bkOf, tsOf], fun j z hj => ?_⟩
  obtain ⟨l, hl, rfl⟩ := map_get hj
  have hlt := h l (List.mem_of_getElem? hl)
  have hb := back_lt h0 hlt
  refine ⟨back n l, _, _, (grid_placed hn h0).near (by rw [gridP_length]; exact hb) (turn_whole hn h0 hlt), gridL_get hb, ?_⟩
  rw [bkOf, List.getElem?_map, hl]; rfl

theorem back_equal {n l : Nat} (hn : n ≤ 8) (h0 : 1 ≤ n) (hlt : l < n * n) : eqC ((gridP n (n * n)).getD (back n l) (0, 0)) (turnB ((gridP n (n * n)).getD l (0, 0))) = true := by
  rw [eq_whole ((grid_placed hn h0).whole _ _ (grid_at (back_lt h0 hlt))) (turn_whole hn h0 hlt)]
  simp

theorem turn_mul {n l : Nat} (hn : n ≤ 8) (h0 : 1 ≤ n) (hlt : l < n * n) : mulS ((gridP n (n * n)).getD l (0, 0)) (0, 1065353216) = some (turnB ((gridP n (n * n)).getD l (0, 0))) := (grid_turn hn h0 (grid_at hlt)).1

theorem HasS.addr {α : Type} {val : α → Value} {o : Bool} {b lo hi n c : Nat} {w : World} {A : Option Addr} {xs : List α} (h : HasS val o b lo hi w (.slice A n c) xs) (hp : 0 < xs.length) : ∃ off, A = some ⟨b, off, none⟩ := by
  obtain ⟨A', cap, e, _, hc⟩ := h
  obtain ⟨off, rfl, _⟩ := hc hp
  injection e with e1 _ _
  exact ⟨off, e1⟩
theorem HasS.at_ {α : Type} {val : α → Value} {o : Bool} {b b' off lo hi n c j : Nat} {w : World} {xs : List α} {x : α} (h : HasS val o b lo hi w (.slice (some ⟨b', off, none⟩) n c) xs) (hj : xs[j]? = some x) : w.cell? ⟨b', off + j, none⟩ = some (val x) := by
  obtain ⟨A', cap, e, _, hc⟩ := h
  obtain ⟨off', rfl, _, _, _, hcell, _⟩ := hc (by have := (List.getElem?_eq_some_iff.1 hj).1; omega)
  injection e with e1 _ _
  injection e1 with e1
  injection e1 with e2 e3
  subst e2
  subst e3
  exact hcell j x hj

theorem tsOf_snoc {n k l : Nat} {ls : List Nat} (h : ls[k]? = some l) : tsOf n (ls.take (k + 1)) = tsOf n (ls.take k) ++ [turnB ((gridP n (n * n)).getD l (0, 0))] := by
  rw [take_snoc_of h]; simp [tsOf]
theorem zsOf_get {n k l : Nat} {ls : List Nat} (h : ls[k]? = some l) : (zsOf n ls)[k]? = some ((gridP n (n * n)).getD l (0, 0)) := by
  rw [zsOf, List.getElem?_map, h]; rfl
theorem tsOf_get {n k l : Nat} {ls : List Nat} (h : ls[k]? = some l) : (tsOf n ls)[k]? = some (turnB ((gridP n (n * n)).getD l (0, 0))) := by
  rw [tsOf, List.getElem?_map, h]; rfl
theorem bkOf_get {n k l : Nat} {ls : List Nat} (h : ls[k]? = some l) : (bkOf n ls)[k]? = some ((back n l : Nat) : Int) := by
  rw [bkOf, List.getElem?_map, h]; rfl
theorem HasTab.points {own : Bool} {lo hi : Nat} {w : World} {vP vL : Value} {t : Tab} (h : HasTab own lo hi w (.agg #[vP, vL]) t) : ∃ b, HasS cxV own b lo hi w vP t.1 := by
  obtain ⟨b1, b2, uP, uL, e, _, h1, _⟩ := h
  injection e with e
  have := congrArg (fun a : Array Value => a[0]?) e
  simp at this
  subst this
  exact ⟨b1, h1⟩
theorem turnP_length (n t : Nat) : (turnP (gridP n t)).length = t := by simp [turnP, gridP_length]
end Go.Proofs.YtfafkdpefdpnkaaGreat
