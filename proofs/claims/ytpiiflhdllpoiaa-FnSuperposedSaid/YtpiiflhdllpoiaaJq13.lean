/- The grid, made by the specification's program. Maps keyed by complex numbers; which tables are valid. -/
import Derived.Test.YtpiiflhdllpoiaaJq12
import Derived.Test.YtpiiflhdllpoiaaJq9
import Derived.Outline
import Derived.Maps.OwnOps
namespace Go.Proofs.Ytpiiflhdllpoiaa
section
open Go.RowKit

def gridO (n : Int) : Option Tab := if 1 ≤ n ∧ n ≤ 8 then some (gridT n.toNat) else none

theorem HasTab.none_ (own : Bool) (lo hi : Nat) (w : World) : HasTab own lo hi w (.agg #[.slice none 0 0, .slice none 0 0]) ([], []) :=
  ⟨0, 1, _, _, rfl, by omega, HasS.empty _ _ _ _ _ _ _ _, HasS.empty _ _ _ _ _ _ _ _⟩

/-- The table that is given, or the zero value. -/
def okT (o : Option Tab) : Tab := o.getD ([], [])
def GivesTab' (o : Option Tab) (w : World) (e : Ending) (w' : World) : Prop :=
  ∃ v, e = .returned (.tuple #[v, .bool o.isSome]) ∧ HasTab true w.heap.size w'.heap.size w' v (okT o) ∧ Span 0 0 w w'
theorem GivesTab.plain {o : Option Tab} {w : World} {e : Ending} {w' : World} (h : GivesTab o w e w') : GivesTab' o w e w' := by
  obtain ⟨h1, h2⟩ := h
  cases o with
  | none => exact ⟨_, h1, HasTab.none_ _ _ _ _, h2⟩
  | some t => obtain ⟨v, rfl, h3⟩ := h1; exact ⟨v, rfl, h3, h2⟩

theorem gridO_len (n : Int) : (okT (gridO n)).1.length ≤ 64 ∧ (okT (gridO n)).2.length ≤ 64 := by
  unfold gridO okT
  by_cases h : 1 ≤ n ∧ n ≤ 8
  · rw [if_pos h]
    have : n.toNat * n.toNat ≤ 8 * 8 := Nat.mul_le_mul (by omega) (by omega)
    simp only [Option.getD_some, gridT, gridP_length, gridL_length]
    omega
  · rw [if_neg h]; simp

theorem HasTab.form {own : Bool} {lo hi : Nat} {w : World} {v : Value} {t : Tab} (h : HasTab own lo hi w v t) : ∃ A c A' c', v = .agg #[.slice A t.1.length c, .slice A' t.2.length c'] := by
  obtain ⟨b1, b2, vP, vL, rfl, hne, h1, h2⟩ := h
  obtain ⟨A, c, rfl, _⟩ := h1
  obtain ⟨A', c', rfl, _⟩ := h2
  exact ⟨A, c, A', c', rfl⟩

/-- A box of two cells stays. -/
theorem Span.box2 {lo hi b : Nat} {w w' : World} {u v : Value} (h : Span lo hi w w') (hb : b < w.heap.size) (hd : hi ≤ lo ∨ b < lo ∨ hi ≤ b) (hc : w.cell? ⟨b, 0, none⟩ = some u ∧ w.cell? ⟨b, 1, none⟩ = some v) :
    w'.cell? ⟨b, 0, none⟩ = some u ∧ w'.cell? ⟨b, 1, none⟩ = some v := by
  have e := h.block b hb (by omega)
  exact ⟨(World.cell?_of_block (w := w) (a := ⟨b, 0, none⟩) e).trans hc.1, (World.cell?_of_block (w := w) (a := ⟨b, 1, none⟩) e).trans hc.2⟩
theorem box2_alloc {w : World} {b : Nat} {u v : Value} (hc : w.cell? ⟨b, 0, none⟩ = some u ∧ w.cell? ⟨b, 1, none⟩ = some v) (hb : b < w.heap.size) :
    (∀ o, (w.alloc o).cell? ⟨b, 0, none⟩ = some u) ∧ (∀ o, (w.alloc o).cell? ⟨b, 1, none⟩ = some v) :=
  ⟨fun o => (((Span.refl 0 0 w).alloc o).box2 hb (.inl (Nat.le_refl _)) hc).1, fun o => (((Span.refl 0 0 w).alloc o).box2 hb (.inl (Nat.le_refl _)) hc).2⟩
theorem box2_new (w : World) (u v : Value) (t : TypeId) : (w.alloc (.cells #[u, v] t)).cell? ⟨w.heap.size, 0, none⟩ = some u ∧ (w.alloc (.cells #[u, v] t)).cell? ⟨w.heap.size, 1, none⟩ = some v := by
  constructor <;> rw [World.cell?_alloc_new] <;> rfl
end
section
open Go.RowKit Go.MapKept

def ordEq (x y : Nat) : Bool := FloatKind.f32.format.order x y == some .eq
/-- Equal numbers. -/
def eqC (a b : Cx) : Bool := ordEq a.1 b.1 && ordEq a.2 b.2

section
variable {P : Program} (w : World)

theorem run_equalIn_cx (d : Nat) {K : TypeId} (hK : P.underlying K = some (.complex .f32)) (a b : Cx) : (Op.equalIn (d + 1) K (cxV a) (cxV b)).run P w = .ok (eqC a b) w := by
  simp [Op.equalIn, run_underlying hK, cxV, Op.floatEq, eqC, ordEq]
theorem run_equal_cx {K : TypeId} (hK : P.underlying K = some (.complex .f32)) (a b : Cx) : (Op.equal K (cxV a) (cxV b)).run P w = .ok (eqC a b) w := by
  exact run_equalIn_cx w 9999 hK a b

theorem run_findAsking_none {K : TypeId} (hK : P.underlying K = some (.complex .f32)) (z : Cx) : ∀ (es : List MapEntry) (i : Nat), (∀ e ∈ es, ∃ z', e.key = cxV z' ∧ eqC z z' = false) →
    (Instr.findAsking K (cxV z) es i).run P w = .ok none w
  | [], _, _ => rfl
  | e :: es, i, h => by
    obtain ⟨z', h1, h2⟩ := h e (by simp)
    have ih := run_findAsking_none hK z es (i + 1) (fun e he => h e (by simp [he]))
    simp [Instr.findAsking, h1, run_equal_cx w hK, h2, Result.andThen, ih]

theorem findNow_cx (k : FloatKind) (z : Value) : ∀ (es : List MapEntry) (i : Nat), es ≠ [] → Instr.findNow (.complex k) z es i = none
  | [], _, h => absurd rfl h
  | e :: es, i, _ => by simp [Instr.findNow, Instr.sameNow]

theorem run_findKey_none {K : TypeId} (hK : P.underlying K = some (.complex .f32)) (z : Cx) (es : List MapEntry) (h : ∀ e ∈ es, ∃ z', e.key = cxV z' ∧ eqC z z' = false) :
    (Instr.findKey K (cxV z) es).run P w = .ok none w := by
  by_cases he : es = []
  · subst he
    simp [Instr.findKey, run_underlying hK, Instr.findNow]
  · simp [Instr.findKey, run_underlying hK, findNow_cx _ _ _ _ he, run_findAsking_none w hK z es 0 h]

theorem run_checkKey_cx {K : TypeId} (hK : P.underlying K = some (.complex .f32)) (z : Cx) (e : Bool) : (Instr.checkKey e 10000 K (cxV z)).run P w = .ok () w := by
  unfold Instr.checkKey
  simp only [Sem.run_bind, run_underlying hK, Result.andThen]
  rfl

theorem run_mapUpdate_new {T K E : TypeId} (hT : P.underlying T = some (.map K E)) (hK : P.underlying K = some (.complex .f32)) {r : Nat} {es : Array MapEntry} {clock : Nat} (hb : w.heap[r]? = some (.map es clock)) (z : Cx) (v : Value)
    (h : ∀ e ∈ es.toList, ∃ z', e.key = cxV z' ∧ eqC z z' = false) :
    (Instr.mapUpdate T (.map (some r)) (cxV z) v).run P w = .ok () { w with heap := w.heap.setIfInBounds r (.map (es.push ⟨cxV z, v, clock⟩) (clock + 1)) } := by
  simp [Instr.mapUpdate, run_underlying hT, MapKept.run_getObj_map hb, run_checkKey_cx w hK, run_findKey_none w hK z es.toList h, run_setObj_map _ hb, Result.andThen]

@[go_sem] theorem run_makeMap_hint {T K E : TypeId} (hT : P.underlying T = some (.map K E)) (k : IntKind) (n : Int) : (Instr.makeMap T (some (.int k n))).run P w = .ok (.map (some w.heap.size)) (w.alloc (.map #[] 0)) := by
  simp [Instr.makeMap, run_underlying hT, asInt, newObj, Result.andThen]
  rfl
end

theorem wpList_mapUpdate_new {P : Program} (w : World) {ops : Array Oper} {rest : List Oper} {o : Oper} {a : Act} {Q : Exit → Act → World → Prop}
    (hg : o.guard = none) (m x v : Operand) (t : TypeId) (hop : o.op = Op.mapUpdate t m x v) (k e : TypeId) (ht : P.underlying t = some (.map k e)) (hk : P.underlying k = some (.complex .f32))
    (b : Nat) (es : Array MapEntry) (clock : Nat) (hm : a.eval m = .map (some b)) (hb : w.heap[b]? = some (.map es clock)) (z : Cx) (val : Value) (hx : a.eval x = cxV z) (hv : a.eval v = val)
    (hne : ∀ e ∈ es.toList, ∃ z', e.key = cxV z' ∧ eqC z z' = false)
    (hK : ∀ w', w'.heap[b]? = some (.map (es.push ⟨cxV z, val, clock⟩) (clock + 1)) → w.grownBy w' (some b) → wpList P ops Q rest (a.put o.dst undef) w') :
    wpList P ops Q (o :: rest) a w := by
  refine wpList_plain hg fun K' hK' => ?_
  have hrun := run_mapUpdate_new w ht hk hb z val hne
  have hlt : b < w.heap.size := by
    by_cases h : b < w.heap.size
    · exact h
    · rw [Array.getElem?_eq_none (by omega)] at hb; cases hb
  unfold Oper.wp
  simp [execOp, hop, hm, hx, hv, hrun, Result.andThen]
  refine hK' _ _ (hK _ ?_ ⟨rfl, rfl, rfl, by simp, fun i _ hne => ?_⟩)
  · show (w.heap.setIfInBounds b _)[b]? = _
    rw [Array.getElem?_setIfInBounds_self_of_lt hlt]
  · show (w.heap.setIfInBounds b _)[i]? = _
    rw [Array.getElem?_setIfInBounds_ne (by rintro rfl; exact hne rfl)]

/-- The entries of the map from points to their places. -/
def entries (Q : List Cx) : Array MapEntry := (Q.zipIdx.map fun p => (⟨cxV p.1, .int .i64 (p.2 : Nat), p.2⟩ : MapEntry)).toArray
theorem entries_snoc (Q : List Cx) (z : Cx) : entries (Q ++ [z]) = (entries Q).push ⟨cxV z, .int .i64 (Q.length : Nat), Q.length⟩ := by
  simp [entries, List.zipIdx_append]
theorem entries_size (Q : List Cx) : (entries Q).size = Q.length := by simp [entries]
theorem entries_mem {Q : List Cx} {e : MapEntry} (h : e ∈ (entries Q).toList) : ∃ z ∈ Q, e.key = cxV z := by
  simp only [entries, List.mem_map] at h
  obtain ⟨⟨z, i⟩, h1, rfl⟩ := h
  exact ⟨z, (List.mem_zipIdx h1).2.2 ▸ List.getElem_mem _, rfl⟩

/-- No point is equal to an earlier one. -/
def Apart (Q : List Cx) : Prop := Q.Pairwise fun a b => eqC b a = false

theorem Apart.new {Q : List Cx} {k : Nat} {z : Cx} (h : Apart Q) (hz : Q[k]? = some z) : ∀ z' ∈ Q.take k, eqC z z' = false := by
  intro z' hz'
  obtain ⟨j, hj, rfl⟩ := List.mem_iff_getElem.1 hz'
  rw [List.length_take] at hj
  obtain ⟨hk, rfl⟩ := List.getElem?_eq_some_iff.1 hz
  have := (List.pairwise_iff_getElem.1 h) j k (by omega) hk (by omega)
  simpa using this

def MakesMap (Q : List Cx) (w : World) (e : Ending) (w' : World) : Prop := ∃ r, e = .returned (.map (some r)) ∧ w.heap.size ≤ r ∧ w'.heap[r]? = some (.map (entries Q) Q.length) ∧ Span 0 0 w w'

theorem take_snoc_of {α : Type} {xs : List α} {k : Nat} {x : α} (h : xs[k]? = some x) : xs.take (k + 1) = xs.take k ++ [x] := by
  obtain ⟨hk, rfl⟩ := List.getElem?_eq_some_iff.1 h
  rw [List.take_succ_eq_append_getElem hk]

set_option maxRecDepth 100000 in
set_option maxHeartbeats 1000000 in
theorem placesOf_any (Q : List Cx) (o : Bool) (b lo hi : Nat) (v : Value) (w : World) (hx : HasS cxV o b lo hi w v Q) (hlen : Q.length ≤ 64) (hap : Apart Q) :
    Calls Try.prog 108 #[v] w (MakesMap Q w) := by
  obtain ⟨A, cap, rfl, hcap, hc⟩ := hx
  obtain ⟨len, hl⟩ : ∃ len, len = Q.length := ⟨_, rfl⟩
  have HL := Lib.hid hl
  rw [← hl] at hlen hcap ⊢
  clear hl
  have HC := Lib.hid hc; clear hc
  have HA := Lib.hid hap; clear hap
  have HR : Hid ((w.alloc (.map #[] 0)).heap[w.heap.size]? = some (.map (entries (Q.take 0)) 0)) := by
    unfold Hid; rw [heap_alloc_new]; rfl
  have hmk := run_makeMap_hint (P := Try.prog) w Try.underlying172 .i64 (len : Int)
  go_enter Try.func108, Try.ntmps108
  go_wp2_with fail
  clear hmk
  go_loopw [11] (fun c wr => ∃ k : Nat, k ≤ len ∧ c = .int .i64 k ∧ wr.heap[w.heap.size]? = some (.map (entries (Q.take k)) k) ∧ Span 0 0 w wr) (fun c _ => len - (intOf c).toNat)
  case atStart => exact ⟨0, Nat.zero_le _, rfl, HR.out, (Span.refl _ _ _).alloc _⟩
  case round =>
    clear HR
    obtain ⟨k, hk, rfl, hm, hs⟩ := hrel
    have HM := Lib.hid hm
    by_cases hlt : k < len
    · obtain ⟨off, rfl, _, _, hb, hcell, _⟩ := HC.out (by rw [← HL.out]; omega)
      obtain ⟨z, hz⟩ := getElem?_some (xs := Q) (j := k) (by rw [← HL.out]; exact hlt)
      have hck : wr.cell? ⟨b, off + k, none⟩ = some (.complex .f32 z.1 z.2) := (hs.cells (Nat.le_refl _)).1 b _ hb |>.trans (hcell k z hz)
      have HZ := Lib.hid hz
      have HS := Lib.hid hs
      clear hcell hm hz hs
      go_wp2_with (at_mapUpdate; refine wpList_mapUpdate_new _ rfl _ _ _ 172 rfl 24 3 Try.underlying172 Try.underlying24 w.heap.size _ _ rfl HM.out z (.int .i64 (k : Int)) rfl rfl ?c1 ?_; (case c1 => intro e he; obtain ⟨z', hz', e1⟩ := entries_mem he; exact ⟨z', e1, HA.out.new HZ.out z' hz'⟩); intro w1 hm1 hg1; have HM1 := Lib.hid hm1; have HG1 := Lib.hid hg1; clear hm1 hg1)
      go_roundw
      case rel =>
        refine ⟨k + 1, by omega, by go_num, ?_, HS.out.grown HG1.out (fun j hj => by injection hj with hj; right; omega)⟩
        have := HM1.out
        rw [take_snoc_of HZ.out, entries_snoc, List.length_take, Nat.min_eq_left (by rw [← HL.out]; omega)]
        exact this
      case measure => simp [intOf]; omega
    · have hke : k = len := by omega
      have HK := Lib.hid hke
      have HS := Lib.hid hs
      clear hke hm hs
      go_wp2_with fail
      go_ret
      refine ⟨_, rfl, Nat.le_refl _, ?_, HS.out⟩
      have := HM.out
      rw [HK.out, HL.out, List.take_length] at this
      exact this
end
end Go.Proofs.Ytpiiflhdllpoiaa
