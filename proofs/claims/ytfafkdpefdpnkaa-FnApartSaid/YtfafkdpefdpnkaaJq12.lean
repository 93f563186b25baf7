/- The grid. The grid, made by the program. The grid, made by the specification's program. Maps keyed by complex numbers; which tables are valid. -/
import Derived.Test.YtfafkdpefdpnkaaJq10
import Derived.Test.YtfafkdpefdpnkaaJq11
import Derived.Outline
import Derived.Test.YtfafkdpefdpnkaaJq8
import Derived.Maps.OwnOps
namespace Go.Proofs.Ytfafkdpefdpnkaa
section
open Go.RowKit

def gridP (n t : Nat) : List Cx := (List.range t).map fun j => (fi (2 * ((j / n : Nat) : Int) - n + 1), fi (2 * ((j % n : Nat) : Int) - n + 1))
def gridL (t : Nat) : List Int := (List.range t).map Int.ofNat
def gridT (n : Nat) : Tab := (gridP n (n * n), gridL (n * n))

theorem gridP_length (n t : Nat) : (gridP n t).length = t := by simp [gridP]
theorem gridL_length (t : Nat) : (gridL t).length = t := by simp [gridL]

theorem gridP_succ {n i k : Nat} (hk : k < n) : gridP n (i * n + k + 1) = gridP n (i * n + k) ++ [(fi (2 * (i : Int) - n + 1), fi (2 * (k : Int) - n + 1))] := by
  have h1 : (i * n + k) / n = i := by
    rw [Nat.mul_comm, Nat.mul_add_div (by omega), Nat.div_eq_of_lt hk, Nat.add_zero]
  have h2 : (i * n + k) % n = k := by
    rw [Nat.mul_comm, Nat.mul_add_mod, Nat.mod_eq_of_lt hk]
  simp only [gridP, List.range_succ, List.map_append, List.map_cons, List.map_nil, h1, h2]
theorem gridL_succ (t : Nat) : gridL (t + 1) = gridL t ++ [(t : Int)] := by
  simp only [gridL, List.range_succ, List.map_append, List.map_cons, List.map_nil]; rfl

theorem info_c64 : (Try.prog.info? 35).map (fun i => (i.zero, i.size, i.bytes)) = some (some (.complex .f32 0 0), 1, 8) := by kernel_rfl
theorem info_int : (Try.prog.info? 3).map (fun i => (i.zero, i.size, i.bytes)) = some (some (.int .i64 0), 1, 8) := by kernel_rfl

/-- What the call owns at two types lies in two blocks. -/
theorem owns_apart {w : World} {B B' : Nat} {e e' : TypeId} {s s' : Nat} {v v' : Value} {n n' : Nat} {xs xs' : List Value} (h : w.ownsRow B e s v n xs) (h' : w.ownsRow B' e' s' v' n' xs') (he : e ≠ e') : v.ownBlock = none ∨ v.ownBlock ≠ v'.ownBlock := by
  rcases h.2 with ⟨rfl, _⟩ | ⟨g, cap, cur, rfl, _, hg, _⟩
  · exact .inl rfl
  · right
    rcases h'.2 with ⟨rfl, _⟩ | ⟨g', cap', cur', rfl, _, hg', _⟩
    · simp [Value.ownBlock]
    · intro hh
      simp only [Value.ownBlock, Option.some.injEq] at hh
      rw [hh, hg'] at hg
      injection hg with hg
      injection hg with _ h2
      exact he h2.symm

theorem ownsRow_block_ge {w : World} {B : Nat} {e : TypeId} {s : Nat} {v : Value} {n : Nat} {xs : List Value} (h : w.ownsRow B e s v n xs) {k : Nat} (hk : k < B) : some k ≠ v.ownBlock := by
  intro hh
  have := (h.lt k hh.symm).1
  omega

theorem owned_tab {w : World} {B : Nat} {vP vL : Value} {P : List Cx} {L : List Int} {n m : Nat} (hp : w.ownsRow B 35 1 vP n (P.map cxV)) (hl : w.ownsRow B 3 1 vL m (L.map intV)) : HasTab true B w.heap.size w (.agg #[vP, vL]) (P, L) := by
  obtain ⟨b1, h1, _, o1⟩ := ownsRow_hasS hp
  obtain ⟨b2, h2, _, o2⟩ := ownsRow_hasS hl
  by_cases hP : 0 < P.length
  · by_cases hL : 0 < L.length
    · refine ⟨b1, b2, vP, vL, rfl, ?_, h1, h2⟩
      rintro rfl
      rcases owns_apart hp hl (by decide) with h | h
      · rw [o1 hP] at h; cases h
      · exact h ((o1 hP).trans (o2 hL).symm)
    · have e : L = [] := by cases L with | nil => rfl | cons a l => simp at hL
      subst e
      obtain ⟨A, c, rfl, _⟩ := h2
      exact ⟨b1, b1 + 1, vP, _, rfl, by omega, h1, HasS.empty _ _ _ _ _ _ _ _⟩
  · have e : P = [] := by cases P with | nil => rfl | cons a l => simp at hP
    subst e
    obtain ⟨A, c, rfl, _⟩ := h1
    exact ⟨b2 + 1, b2, _, vL, rfl, by omega, HasS.empty _ _ _ _ _ _ _ _, h2⟩

/-- What a function that makes a table gives: a table that lies in new blocks, or none. -/
def GivesTab (o : Option Tab) (w : World) (e : Ending) (w' : World) : Prop :=
  (match o with
    | some t => ∃ v, e = .returned (.tuple #[v, .bool true]) ∧ HasTab true w.heap.size w'.heap.size w' v t
    | none => e = .returned (.tuple #[.agg #[.slice none 0 0, .slice none 0 0], .bool false])) ∧ Span 0 0 w w'
end
section
open Go.RowKit

theorem ownsRow_slice {w : World} {B : Nat} {e : TypeId} {s : Nat} {v : Value} {n : Nat} {xs : List Value} (h : w.ownsRow B e s v n xs) : ∃ A c, v = .slice A n c := by
  rcases h.2 with ⟨rfl, rfl⟩ | ⟨g, cap, cur, rfl, _⟩
  · exact ⟨_, _, rfl⟩
  · exact ⟨_, _, rfl⟩
theorem one_cell {u : Value} (h : u.oneCell' = true) : ∀ x ∈ [u], x.oneCell' = true := by
  intro x hx
  rw [List.mem_singleton.1 hx]; exact h
theorem one_new (w : World) (u : Value) (e : TypeId) : ∀ j x, [u][j]? = some x → (w.alloc (.cells #[u] e)).cell? ((⟨w.heap.size, 0, none⟩ : Addr).add j) = some x := by
  intro j x hj
  have hj0 : j = 0 := by
    have := (List.getElem?_eq_some_iff.1 hj).1
    simp at this
    exact this
  subst hj0
  simp only [List.getElem?_cons_zero, Option.some.injEq] at hj
  subst hj
  show (w.alloc (.cells #[u] e)).cell? ⟨w.heap.size, 0, none⟩ = _
  rw [World.cell?_alloc_new]; rfl
theorem one_new' (w : World) (a : Addr) (v u : Value) (e : TypeId) : ∀ j x, [u][j]? = some x → ((w.setCell a v).alloc (.cells #[u] e)).cell? ((⟨w.heap.size, 0, none⟩ : Addr).add j) = some x := by
  have h := one_new (w.setCell a v) u e
  simpa [World.setCell] using h
end
section
open Go.RowKit

def gridO (n : Int) : Option Tab := if 1 ≤ n ∧ n ≤ 8 then some (gridT n.toNat) else none

theorem HasTab.none_ (own : Bool) (lo hi : Nat) (w : World) : HasTab own lo hi w (.agg #[.slice none 0 0, .slice none 0 0]) ([], []) :=
  ⟨0, 1, _, _, rfl, by omega, HasS.empty _ _ _ _ _ _ _ _, HasS.empty _ _ _ _ _ _ _ _⟩

/-- The table that is given, or the zero value. -/
def okT (o : Option Tab) : Tab := o.getD ([], [])
def GivesTab' (o : Option Tab) (w : World) (e : Ending) (w' : World) : Prop :=
  ∃ v, e = .returned (.tuple #[v, .bool o.isSome]) ∧ HasTab true w.heap.size w'.heap.size w' v (okT o) ∧ Span 0 0 w w'
theorem GivesTab.plain {o : Option Tab} {w : World} {e : Ending} {w' : World} (h : GivesTab o w e w') : GivesTab' o w e w' := by
  obtain ⟨h1, h2⟩ := h
  cases o with
  | none => exact ⟨_, h1, HasTab.none_ _ _ _ _, h2⟩
  | some t => obtain ⟨v, rfl, h3⟩ := h1; exact ⟨v, rfl, h3, h2⟩

theorem gridO_len (n : Int) : (okT (gridO n)).1.length ≤ 64 ∧ (okT (gridO n)).2.length ≤ 64 := by
  unfold gridO okT
  by_cases h : 1 ≤ n ∧ n ≤ 8
  · rw [if_pos h]
    have : n.toNat * n.toNat ≤ 8 * 8 := Nat.mul_le_mul (by omega) (by omega)
    simp only [Option.getD_some, gridT, gridP_length, gridL_length]
    omega
  · rw [if_neg h]; simp

theorem HasTab.form {own : Bool} {lo hi : Nat} {w : World} {v : Value} {t : Tab} (h : HasTab own lo hi w v t) : ∃ A c A' c', v = .agg #[.slice A t.1.length c, .slice A' t.2.length c'] := by
  obtain ⟨b1, b2, vP, vL, rfl, hne, h1, h2⟩ := h
  obtain ⟨A, c, rfl, _⟩ := h1
  obtain ⟨A', c', rfl, _⟩ := h2
  exact ⟨A, c, A', c', rfl⟩

/-- A box of two cells stays. -/
theorem Span.box2 {lo hi b : Nat} {w w' : World} {u v : Value} (h : Span lo hi w w') (hb : b < w.heap.size) (hd : hi ≤ lo ∨ b < lo ∨ hi ≤ b) (hc : w.cell? ⟨b, 0, none⟩ = some u ∧ w.cell? ⟨b, 1, none⟩ = some v) :
    w'.cell? ⟨b, 0, none⟩ = some u ∧ w'.cell? ⟨b, 1, none⟩ = some v := by
  have e := h.block b hb (by omega)
  exact ⟨(World.cell?_of_block (w := w) (a := ⟨b, 0, none⟩) e).trans hc.1, (World.cell?_of_block (w := w) (a := ⟨b, 1, none⟩) e).trans hc.2⟩
theorem box2_alloc {w : World} {b : Nat} {u v : Value} (hc : w.cell? ⟨b, 0, none⟩ = some u ∧ w.cell? ⟨b, 1, none⟩ = some v) (hb : b < w.heap.size) :
    (∀ o, (w.alloc o).cell? ⟨b, 0, none⟩ = some u) ∧ (∀ o, (w.alloc o).cell? ⟨b, 1, none⟩ = some v) :=
  ⟨fun o => (((Span.refl 0 0 w).alloc o).box2 hb (.inl (Nat.le_refl _)) hc).1, fun o => (((Span.refl 0 0 w).alloc o).box2 hb (.inl (Nat.le_refl _)) hc).2⟩
theorem box2_new (w : World) (u v : Value) (t : TypeId) : (w.alloc (.cells #[u, v] t)).cell? ⟨w.heap.size, 0, none⟩ = some u ∧ (w.alloc (.cells #[u, v] t)).cell? ⟨w.heap.size, 1, none⟩ = some v := by
  constructor <;> rw [World.cell?_alloc_new] <;> rfl
end
section
open Go.RowKit Go.MapKept

def ordEq (x y : Nat) : Bool := FloatKind.f32.format.order x y == some .eq
/-- Equal numbers. -/
def eqC (a b : Cx) : Bool := ordEq a.1 b.1 && ordEq a.2 b.2

section
variable {P : Program} (w : World)

theorem run_equalIn_cx (d : Nat) {K : TypeId} (hK : P.underlying K = some (.complex .f32)) (a b : Cx) : (Op.equalIn (d + 1) K (cxV a) (cxV b)).run P w = .ok (eqC a b) w := by
  simp [Op.equalIn, run_underlying hK, cxV, Op.floatEq, eqC, ordEq]
theorem run_equal_cx {K : TypeId} (hK : P.underlying K = some (.complex .f32)) (a b : Cx) : (Op.equal K (cxV a) (cxV b)).run P w = .ok (eqC a b) w := by
  exact run_equalIn_cx w 9999 hK a b

theorem run_findAsking_none {K : TypeId} (hK : P.underlying K = some (.complex .f32)) (z : Cx) : ∀ (es : List MapEntry) (i : Nat), (∀ e ∈ es, ∃ z', e.key = cxV z' ∧ eqC z z' = false) →
    (Instr.findAsking K (cxV z) es i).run P w = .ok none w
  | [], _, _ => rfl
  | e :: es, i, h => by
    obtain ⟨z', h1, h2⟩ := h e (by simp)
    have ih := run_findAsking_none hK z es (i + 1) (fun e he => h e (by simp [he]))
    simp [Instr.findAsking, h1, run_equal_cx w hK, h2, Result.andThen, ih]

theorem findNow_cx (k : FloatKind) (z : Value) : ∀ (es : List MapEntry) (i : Nat), es ≠ [] → Instr.findNow (.complex k) z es i = none
  | [], _, h => absurd rfl h
  | e :: es, i, _ => by simp [Instr.findNow, Instr.sameNow]

theorem run_findKey_none {K : TypeId} (hK : P.underlying K = some (.complex .f32)) (z : Cx) (es : List MapEntry) (h : ∀ e ∈ es, ∃ z', e.key = cxV z' ∧ eqC z z' = false) :
    (Instr.findKey K (cxV z) es).run P w = .ok none w := by
  by_cases he : es = []
  · subst he
    simp [Instr.findKey, run_underlying hK, Instr.findNow]
  · simp [Instr.findKey, run_underlying hK, findNow_cx _ _ _ _ he, run_findAsking_none w hK z es 0 h]

theorem run_checkKey_cx {K : TypeId} (hK : P.underlying K = some (.complex .f32)) (z : Cx) (e : Bool) : (Instr.checkKey e 10000 K (cxV z)).run P w = .ok () w := by
  unfold Instr.checkKey
  simp only [Sem.run_bind, run_underlying hK, Result.andThen]
  rfl

theorem run_mapUpdate_new {T K E : TypeId} (hT : P.underlying T = some (.map K E)) (hK : P.underlying K = some (.complex .f32)) {r : Nat} {es : Array MapEntry} {clock : Nat} (hb : w.heap[r]? = some (.map es clock)) (z : Cx) (v : Value)
    (h : ∀ e ∈ es.toList, ∃ z', e.key = cxV z' ∧ eqC z z' = false) :
    (Instr.mapUpdate T (.map (some r)) (cxV z) v).run P w = .ok () { w with heap := w.heap.setIfInBounds r (.map (es.push ⟨cxV z, v, clock⟩) (clock + 1)) } := by
  simp [Instr.mapUpdate, run_underlying hT, MapKept.run_getObj_map hb, run_checkKey_cx w hK, run_findKey_none w hK z es.toList h, run_setObj_map _ hb, Result.andThen]

@[go_sem] theorem run_makeMap_hint {T K E : TypeId} (hT : P.underlying T = some (.map K E)) (k : IntKind) (n : Int) : (Instr.makeMap T (some (.int k n))).run P w = .ok (.map (some w.heap.size)) (w.alloc (.map #[] 0)) := by
  simp [Instr.makeMap, run_underlying hT, asInt, newObj, Result.andThen]
  rfl
end

theorem wpList_mapUpdate_new {P : Program} (w : World) {ops : Array Oper} {rest : List Oper} {o : Oper} {a : Act} {Q : Exit → Act → World → Prop}
    (hg : o.guard = none) (m x v : Operand) (t : TypeId) (hop : o.op = Op.mapUpdate t m x v) (k e : TypeId) (ht : P.underlying t = some (.map k e)) (hk : P.underlying k = some (.complex .f32))
    (b : Nat) (es : Array MapEntry) (clock : Nat) (hm : a.eval m = .map (some b)) (hb : w.heap[b]? = some (.map es clock)) (z : Cx) (val : Value) (hx : a.eval x = cxV z) (hv : a.eval v = val)
    (hne : ∀ e ∈ es.toList, ∃ z', e.key = cxV z' ∧ eqC z z' = false)
    (hK : ∀ w', w'.heap[b]? = some (.map (es.push ⟨cxV z, val, clock⟩) (clock + 1)) → w.grownBy w' (some b) → wpList P ops Q rest (a.put o.dst undef) w') :
    wpList P ops Q (o :: rest) a w := by
  refine wpList_plain hg fun K' hK' => ?_
  have hrun := run_mapUpdate_new w ht hk hb z val hne
  have hlt : b < w.heap.size := by
    by_cases h : b < w.heap.size
    · exact h
    · rw [Array.getElem?_eq_none (by omega)] at hb; cases hb
  unfold Oper.wp
  simp [execOp, hop, hm, hx, hv, hrun, Result.andThen]
  refine hK' _ _ (hK _ ?_ ⟨rfl, rfl, rfl, by simp, fun i _ hne => ?_⟩)
  · show (w.heap.setIfInBounds b _)[b]? = _
    rw [Array.getElem?_setIfInBounds_self_of_lt hlt]
  · show (w.heap.setIfInBounds b _)[i]? = _
    rw [Array.getElem?_setIfInBounds_ne (by rintro rfl; exact hne rfl)]

/-- The entries of the map from points to their places. -/
def entries (Q : List Cx) : Array MapEntry := (Q.zipIdx.map fun p => (⟨cxV p.1, .int .i64 (p.2 : Nat), p.2⟩ : MapEntry)).toArray
theorem entries_snoc (Q : List Cx) (z : Cx) : entries (Q ++ [z]) = (entries Q).push ⟨cxV z, .int .i64 (Q.length : Nat), Q.length⟩ := by
  simp [entries, List.zipIdx_append]
theorem entries_size (Q : List Cx) : (entries Q).size = Q.length := by simp [entries]
theorem entries_mem {Q : List Cx} {e : MapEntry} (h : e ∈ (entries Q).toList) : ∃ z ∈ Q, e.key = cxV z := by
  simp only [entries, List.mem_map] at h
  obtain ⟨⟨z, i⟩, h1, rfl⟩ := h
  exact ⟨z, (List.mem_zipIdx h1).2.2 ▸ List.getElem_mem _, rfl⟩

/-- No point is equal to an earlier one. -/
def Apart (Q : List Cx) : Prop := Q.Pairwise fun a b => eqC b a = false

theorem Apart.new {Q : List Cx} {k : Nat} {z : Cx} (h : Apart Q) (hz : Q[k]? = some z) : ∀ z' ∈ Q.take k, eqC z z' = false := by
  intro z' hz'
  obtain ⟨j, hj, rfl⟩ := List.mem_iff_getElem.1 hz'
  rw [List.length_take] at hj
  obtain ⟨hk, rfl⟩ := List.getElem?_eq_some_iff.1 hz
  have := (List.pairwise_iff_getElem.1 h) j k (by omega) hk (by omega)
  simpa using this

def MakesMap (Q : List Cx) (w : World) (e : Ending) (w' : World) : Prop := ∃ r, e = .returned (.map (some r)) ∧ w.heap.size ≤ r ∧ w'.heap[r]? = some (.map (entries Q) Q.length) ∧ Span 0 0 w w'

theorem take_snoc_of {α : Type} {xs : List α} {k : Nat} {x : α} (h : xs[k]? = some x) : xs.take (k + 1) = xs.take k ++ [x] := by
  obtain ⟨hk, rfl⟩ := List.getElem?_eq_some_iff.1 h
  rw [List.take_succ_eq_append_getElem hk]
end
end Go.Proofs.Ytfafkdpefdpnkaa
