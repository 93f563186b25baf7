/- Maps keyed by complex numbers; which tables are valid. A valid table is found valid. Distances, and the nearest point. Deciding and encoding. Encoding, and places in lists. -/
import Derived.Test.YtkjlodoppmipfaaGreatJg11
import Derived.Outline
import Derived.Maps.OwnOps
namespace Go.Proofs.YtkjlodoppmipfaaGreat
section
open Go.RowKit Go.MapKept

def ordEq (x y : Nat) : Bool := FloatKind.f32.format.order x y == some .eq
/-- Equal numbers. -/
def eqC (a b : Cx) : Bool := ordEq a.1 b.1 && ordEq a.2 b.2

section
variable {P : Program} (w : World)

theorem run_equalIn_cx (d : Nat) {K : TypeId} (hK : P.underlying K = some (.complex .f32)) (a b : Cx) : (Op.equalIn (d + 1) K (cxV a) (cxV b)).run P w = .ok (eqC a b) w := by
  simp [Op.equalIn, run_underlying hK, cxV, Op.floatEq, eqC, ordEq]
theorem run_equal_cx {K : TypeId} (hK : P.underlying K = some (.complex .f32)) (a b : Cx) : (Op.equal K (cxV a) (cxV b)).run P w = .ok (eqC a b) w := by
  exact run_equalIn_cx w 9999 hK a b

theorem run_findAsking_none {K : TypeId} (hK : P.underlying K = some (.complex .f32)) (z : Cx) : ∀ (es : List MapEntry) (i : Nat), (∀ e ∈ es, ∃ z', e.key = cxV z' ∧ eqC z z' = false) →
    (Instr.findAsking K (cxV z) es i).run P w = .ok none w
  | [], _, _ => rfl
  | e :: es, i, h => by
    obtain ⟨z', h1, h2⟩ := h e (by simp)
    have ih := run_findAsking_none hK z es (i + 1) (fun e he => h e (by simp [he]))
    simp [Instr.findAsking, h1, run_equal_cx w hK, h2, Result.andThen, ih]

theorem findNow_cx (k : FloatKind) (z : Value) : ∀ (es : List MapEntry) (i : Nat), es ≠ [] → Instr.findNow (.complex k) z es i = none
  | [], _, h => absurd rfl h
  | e :: es, i, _ => by simp [Instr.findNow, Instr.sameNow]

theorem run_findKey_none {K : TypeId} (hK : P.underlying K = some (.complex .f32)) (z : Cx) (es : List MapEntry) (h : ∀ e ∈ es, ∃ z', e.key = cxV z' ∧ eqC z z' = false) :
    (Instr.findKey K (cxV z) es).run P w = .ok none w := by
  by_cases he : es = []
  · subst he
    simp [Instr.findKey, run_underlying hK, Instr.findNow]
  · simp [Instr.findKey, run_underlying hK, findNow_cx _ _ _ _ he, run_findAsking_none w hK z es 0 h]

theorem run_checkKey_cx {K : TypeId} (hK : P.underlying K = some (.complex .f32)) (z : Cx) (e : Bool) : (Instr.checkKey e 10000 K (cxV z)).run P w = .ok () w := by
  unfold Instr.checkKey
  simp only [Sem.run_bind, run_underlying hK, Result.andThen]
  rfl

theorem run_mapUpdate_new {T K E : TypeId} (hT : P.underlying T = some (.map K E)) (hK : P.underlying K = some (.complex .f32)) {r : Nat} {es : Array MapEntry} {clock : Nat} (hb : w.heap[r]? = some (.map es clock)) (z : Cx) (v : Value)
    (h : ∀ e ∈ es.toList, ∃ z', e.key = cxV z' ∧ eqC z z' = false) :
    (Instr.mapUpdate T (.map (some r)) (cxV z) v).run P w = .ok () { w with heap := w.heap.setIfInBounds r (.map (es.push ⟨cxV z, v, clock⟩) (clock + 1)) } := by
  simp [Instr.mapUpdate, run_underlying hT, MapKept.run_getObj_map hb, run_checkKey_cx w hK, run_findKey_none w hK z es.toList h, run_setObj_map _ hb, Result.andThen]

@[go_sem] theorem run_makeMap_hint {T K E : TypeId} (hT : P.underlying T = some (.map K E)) (k : IntKind) (n : Int) : (Instr.makeMap T (some (.int k n))).run P w = .ok (.map (some w.heap.size)) (w.alloc (.map #[] 0)) := by
  simp [Instr.makeMap, run_underlying hT, asInt, newObj, Result.andThen]
  rfl
end

theorem wpList_mapUpdate_new {P : Program} (w : World) {ops : Array Oper} {rest : List Oper} {o : Oper} {a : Act} {Q : Exit → Act → World → Prop}
    (hg : o.guard = none) (m x v : Operand) (t : TypeId) (hop : o.op = Op.mapUpdate t m x v) (k e : TypeId) (ht : P.underlying t = some (.map k e)) (hk : P.underlying k = some (.complex .f32))
    (b : Nat) (es : Array MapEntry) (clock : Nat) (hm : a.eval m = .map (some b)) (hb : w.heap[b]? = some (.map es clock)) (z : Cx) (val : Value) (hx : a.eval x = cxV z) (hv : a.eval v = val)
    (hne : ∀ e ∈ es.toList, ∃ z', e.key = cxV z' ∧ eqC z z' = false)
    (hK : ∀ w', w'.heap[b]? = some (.map (es.push ⟨cxV z, val, clock⟩) (clock + 1)) → w.grownBy w' (some b) → wpList P ops Q rest (a.put o.dst undef) w') :
    wpList P ops Q (o :: rest) a w := by
  refine wpList_plain hg fun K' hK' => ?_
  have hrun := run_mapUpdate_new w ht hk hb z val hne
  have hlt : b < w.heap.size := by
    by_cases h : b < w.heap.size
    · exact h
    · rw [Array.getElem?_eq_none (by omega)] at hb; cases hb
  unfold Oper.wp
  simp [execOp, hop, hm, hx, hv, hrun, Result.andThen]
  refine hK' _ _ (hK _ ?_ ⟨rfl, rfl, rfl, by simp, fun i _ hne => ?_⟩)
  · show (w.heap.setIfInBounds b _)[b]? = _
    rw [Array.getElem?_setIfInBounds_self_of_lt hlt]
  · show (w.heap.setIfInBounds b _)[i]? = _
    rw [Array.getElem?_setIfInBounds_ne (by rintro rfl; exact hne rfl)]

/-- The entries of the map from points to their places. -/
def entries (Q : List Cx) : Array MapEntry := (Q.zipIdx.map fun p => (⟨cxV p.1, .int .i64 (p.2 : Nat), p.2⟩ : MapEntry)).toArray
theorem entries_snoc (Q : List Cx) (z : Cx) : entries (Q ++ [z]) = (entries Q).push ⟨cxV z, .int .i64 (Q.length : Nat), Q.length⟩ := by
  simp [entries, List.zipIdx_append]
theorem entries_size (Q : List Cx) : (entries Q).size = Q.length := by simp [entries]
theorem entries_mem {Q : List Cx} {e : MapEntry} (h : e ∈ (entries Q).toList) : ∃ z ∈ Q, e.key = cxV z := by
  simp only [entries, List.mem_map] at h
  obtain ⟨⟨z, i⟩, h1, rfl⟩ := h
  exact ⟨z, (List.mem_zipIdx h1).2.2 ▸ List.getElem_mem _, rfl⟩

/-- No point is equal to an earlier one. -/
def Apart (Q : List Cx) : Prop := Q.Pairwise fun a b => eqC b a = false

theorem Apart.new {Q : List Cx} {k : Nat} {z : Cx} (h : Apart Q) (hz : Q[k]? = some z) : ∀ z' ∈ Q.take k, eqC z z' = false := by
  intro z' hz'
  obtain ⟨j, hj, rfl⟩ := List.mem_iff_getElem.1 hz'
  rw [List.length_take] at hj
  obtain ⟨hk, rfl⟩ := List.getElem?_eq_some_iff.1 hz
  have := (List.pairwise_iff_getElem.1 h) j k (by omega) hk (by omega)
  simpa using this

def MakesMap (Q : List Cx) (w : World) (e : Ending) (w' : World) : Prop := ∃ r, e = .returned (.map (some r)) ∧ w.heap.size ≤ r ∧ w'.heap[r]? = some (.map (entries Q) Q.length) ∧ Span 0 0 w w'

theorem take_snoc_of {α : Type} {xs : List α} {k : Nat} {x : α} (h : xs[k]? = some x) : xs.take (k + 1) = xs.take k ++ [x] := by
  obtain ⟨hk, rfl⟩ := List.getElem?_eq_some_iff.1 h
  rw [List.take_succ_eq_append_getElem hk]

set_option maxRecDepth 100000 in
set_option maxHeartbeats 1000000 in
theorem placesOf_any (Q : List Cx) (o : Bool) (b lo hi : Nat) (v : Value) (w : World) (hx : HasS cxV o b lo hi w v Q) (hlen : Q.length ≤ 64) (hap : Apart Q) :
    Calls Tryz.prog 175 #[v] w (MakesMap Q w) := by
  obtain ⟨A, cap, rfl, hcap, hc⟩ := hx
  obtain ⟨len, hl⟩ : ∃ len, len = Q.length := ⟨_, rfl⟩
  have HL := Lib.hid hl
  rw [← hl] at hlen hcap ⊢
  clear hl
  have HC := Lib.hid hc; clear hc
  have HA := Lib.hid hap; clear hap
  have HR : Hid ((w.alloc (.map #[] 0)).heap[w.heap.size]? = some (.map (entries (Q.take 0)) 0)) := by
    unfold Hid; rw [heap_alloc_new]; rfl
  have hmk := run_makeMap_hint (P := Tryz.prog) w Tryz.underlying205 .i64 (len : Int)
  go_enter Tryz.func175, Tryz.ntmps175
  go_wp2_with fail
  clear hmk
  go_loopw [11] (fun c wr => ∃ k : Nat, k ≤ len ∧ c = .int .i64 k ∧ wr.heap[w.heap.size]? = some (.map (entries (Q.take k)) k) ∧ Span 0 0 w wr) (fun c _ => len - (intOf c).toNat)
  case atStart => exact ⟨0, Nat.zero_le _, rfl, HR.out, (Span.refl _ _ _).alloc _⟩
  case round =>
    clear HR
    obtain ⟨k, hk, rfl, hm, hs⟩ := hrel
    have HM := Lib.hid hm
    by_cases hlt : k < len
    · obtain ⟨off, rfl, _, _, hb, hcell, _⟩ := HC.out (by rw [← HL.out]; omega)
      obtain ⟨z, hz⟩ := getElem?_some (xs := Q) (j := k) (by rw [← HL.out]; exact hlt)
      have hck : wr.cell? ⟨b, off + k, none⟩ = some (.complex .f32 z.1 z.2) := (hs.cells (Nat.le_refl _)).1 b _ hb |>.trans (hcell k z hz)
      have HZ := Lib.hid hz
      have HS := Lib.hid hs
      clear hcell hm hz hs
      go_wp2_with (at_mapUpdate; refine wpList_mapUpdate_new _ rfl _ _ _ 205 rfl 23 3 Tryz.underlying205 Tryz.underlying23 w.heap.size _ _ rfl HM.out z (.int .i64 (k : Int)) rfl rfl ?c1 ?_; (case c1 => intro e he; obtain ⟨z', hz', e1⟩ := entries_mem he; exact ⟨z', e1, HA.out.new HZ.out z' hz'⟩); intro w1 hm1 hg1; have HM1 := Lib.hid hm1; have HG1 := Lib.hid hg1; clear hm1 hg1)
      go_roundw
      case rel =>
        refine ⟨k + 1, by omega, by go_num, ?_, HS.out.grown HG1.out (fun j hj => by injection hj with hj; right; omega)⟩
        have := HM1.out
        rw [take_snoc_of HZ.out, entries_snoc, List.length_take, Nat.min_eq_left (by rw [← HL.out]; omega)]
        exact this
      case measure => simp [intOf]; omega
    · have hke : k = len := by omega
      have HK := Lib.hid hke
      have HS := Lib.hid hs
      clear hke hm hs
      go_wp2_with fail
      go_ret
      refine ⟨_, rfl, Nat.le_refl _, ?_, HS.out⟩
      have := HM.out
      rw [HK.out, HL.out, List.take_length] at this
      exact this
end
section
open Go.RowKit

def finX (x : Nat) : Prop := x < 4294967296 ∧ rungOf Ieee.single x < 2139095040
def finC (z : Cx) : Prop := finX z.1 ∧ finX z.2
structure Valid (t : Tab) : Prop where
  len : t.2.length = t.1.length
  most : t.1.length ≤ 64
  fin : ∀ z ∈ t.1, finC z
  apart : Apart t.1

theorem impl_isFinite_true (z : Cx) (h : finC z) (w : World) : Calls Tryz.prog 174 #[.complex .f32 z.1 z.2] w (SaysTrue w) := by
  obtain ⟨⟨h1, h2⟩, ⟨h3, h4⟩⟩ := h
  have H2 := Lib.hid h2
  have H4 := Lib.hid h4
  clear h2 h4
  go_enter Tryz.func174, Tryz.ntmps174
  go_wp2_with fail
  refine (impl_stepsOf z.1 h1 _).mono ?_
  rintro _ _ ⟨n, rfl, rfl⟩
  rw [if_pos H2.out]
  go_wp2_with fail
  refine (impl_stepsOf z.2 h3 _).mono ?_
  rintro _ _ ⟨m, rfl, rfl⟩
  rw [if_pos H4.out]
  go_wp2_with fail
  go_ret
  exact ⟨_, rfl, rfl⟩

set_option maxRecDepth 100000 in
set_option maxHeartbeats 1000000 in
theorem impl_isTable_true (t : Tab) (o : Bool) (lo hi : Nat) (v : Value) (w : World) (hx : HasTab o lo hi w v t) (ht : Valid t) :
    Calls Tryz.prog 172 #[v] w (True0 w) := by
  obtain ⟨b1, b2, vP, vL, rfl, hne, g1, g2⟩ := hx
  have G1 := Lib.hid g1
  obtain ⟨A, cap, rfl, hcap, hc⟩ := g1
  obtain ⟨A', cap', rfl, hcap', _⟩ := g2
  have HV := Lib.hid ht
  obtain ⟨len, hl⟩ : ∃ len, len = t.1.length := ⟨_, rfl⟩
  rw [ht.len] at hcap' ⊢
  have h64 := ht.most
  have HL := Lib.hid hl
  have G2 : Hid (HasS cxV o b1 lo hi w (.slice A len cap) t.1) := by unfold Hid; rw [hl]; exact G1.out
  rw [← hl] at hcap hcap' h64 ⊢
  clear hl ht G1
  have HC := Lib.hid hc; clear hc
  have i1 : decide ((64 : Int) < (len : Int)) = false := by rw [decide_eq_false_iff_not]; omega
  have hmu : Tryz.prog.underlying 205 = some (.map (Tryz.prog.mapKeyOf 205) (Tryz.prog.mapElemOf 205)) := by kernel_rfl
  have HMU := Lib.hid hmu
  clear hmu
  go_enter Tryz.func172, Tryz.ntmps172
  go_wp2_with fail
  obtain ⟨y1, y2⟩ := box2_new w (.slice A len cap) (.slice A' len cap') 30
  have HS := Lib.hid ((Span.refl 0 0 w).alloc (.cells #[.slice A len cap, .slice A' len cap'] 30))
  generalize w.alloc (.cells #[.slice A len cap, .slice A' len cap'] 30) = w0 at *
  have HB : Hid (w.heap.size < w0.heap.size) := by
    unfold Hid
    exact World.block_lt_of_cell? w0 ⟨w.heap.size, 0, none⟩ y1
  go_loopw [21] (fun c wr => ∃ (k m : Nat), k ≤ len ∧ c = .int .i64 k ∧ wr = w0.drewN m) (fun c _ => len - (intOf c).toNat)
  case atStart => exact ⟨0, 0, Nat.zero_le _, rfl, rfl⟩
  case round =>
    obtain ⟨k, m, hk, rfl, rfl⟩ := hrel
    by_cases hlt : k < len
    · obtain ⟨off, rfl, _, _, hb, hcell, _⟩ := HC.out (by rw [← HL.out]; omega)
      obtain ⟨z, hz⟩ := getElem?_some (xs := t.1) (j := k) (by rw [← HL.out]; exact hlt)
      have hck : w0.cell? ⟨b1, off + k, none⟩ = some (.complex .f32 z.1 z.2) := (HS.out.cells (Nat.le_refl _)).1 b1 _ hb |>.trans (hcell k z hz)
      have hfz := Lib.hid (HV.out.fin z (List.mem_of_getElem? hz))
      clear hcell hz
      go_wp2_with fail
      refine (impl_isFinite_true z hfz.out _).mono ?_
      rintro _ _ ⟨m2, rfl, rfl⟩
      go_wp2_with fail
      go_roundw
      case rel => exact ⟨k + 1, _, by omega, by go_num, rfl⟩
      case measure => simp [intOf]; omega
    · have hke : k = len := by omega
      have HK := Lib.hid hke
      clear hke
      go_wp2_with fail
      go_region_with (go_at_call 175; go_loud ((refine (placesOf_any t.1 o b1 lo hi _ _ ((G2.out.span HS.out (.inl (Nat.le_refl _))).drewN _) HV.out.most HV.out.apart).mono ?_; rintro _ w1 ⟨r, rfl, hr, hm, hs⟩; have y3 := hs.box2 (b := w.heap.size) (u := .slice A len cap) (v := .slice A' len cap') HB.out (.inl (Nat.le_refl _)) ⟨y1, y2⟩; obtain ⟨y4, y5⟩ := y3; have hlen := run_len_map (P := Tryz.prog) w1 205 3 r _ _ HMU.out hm; rw [entries_size, ← HL.out] at hlen; clear hm; have HS1 := Lib.hid hs; clear hs)))
      all_goals
        go_wp2_with fail
        go_ret
        first | exact ⟨rfl, HS1.out.after (HS.out.drewN _)⟩ | exact ⟨rfl, (HS1.out.after (HS.out.drewN _)).drewN _⟩ | exact ⟨rfl, (HS1.out.after (HS.out.drewN _)).drew⟩ | exact ⟨by simp, HS1.out.after (HS.out.drewN _)⟩ | exact ⟨by simp, (HS1.out.after (HS.out.drewN _)).drewN _⟩
end
section
open Go.RowKit

def distC (a b : Cx) : Nat := fC .add .f32 (fC .mul .f32 (fC .sub .f32 a.1 b.1) (fC .sub .f32 a.1 b.1)) (fC .mul .f32 (fC .sub .f32 a.2 b.2) (fC .sub .f32 a.2 b.2))

set_option maxHeartbeats 400000 in
theorem impl_distanceOf (a b : Cx) (w : World) : Calls Tryz.prog 176 #[.complex .f32 a.1 a.2, .complex .f32 b.1 b.2] w (GivesF w .f32 (distC a b)) := by
  obtain ⟨a1, a2⟩ := a
  obtain ⟨b1, b2⟩ := b
  simp only
  go_enter Tryz.func176, Tryz.ntmps176
  go_wp2
  go_ret
  refine ⟨_, _, rfl, rfl, ?_⟩
  unfold distC
  repeat' first | exact FE.refl _ _ | refine FE.arC _ ?_ ?_

theorem isNaN_any (x : Nat) (w : World) : Calls Tryz.prog 111 #[.float .f64 x] w fun e w' => e = .returned (.bool (nanB .f64 x)) ∧ w = w' := by
  have h := order_self .f64 x
  have e : (FloatKind.f64.format.order x x != some .eq) = nanB .f64 x := by rw [h]; cases nanB .f64 x <;> rfl
  clear h
  go_enter Tryz.func111, Tryz.ntmps111
  go_wp2
  go_ret
  exact ⟨rfl, rfl⟩

theorem widen_nan (x : Nat) (w : World) : nanB .f64 (fCv .f32 .f64 x w) = nanB .f32 x := by
  cases h : nanB .f32 x with
  | true => exact nanB_of_cv w (by simp) h
  | false =>
    rcases Nat.lt_trichotomy (rungOf Ieee.single x) Ieee.single.infRung with h1 | h1 | h1
    · obtain ⟨m, g, h2, _⟩ := read_isU (widen_fin w h1)
      show (Ieee.double.read _).isNaN = false
      rw [h2]; rfl
    · have hi := widen_inf w (read_inf Ieee.single s_eb h1)
      show (Ieee.double.read _).isNaN = false
      rw [hi]; rfl
    · have := nan_of_rung (by rw [s_inf] at h1; exact h1)
      rw [h] at this; cases this

def nearStep (z : Cx) (best : Option (Nat × Nat)) (i : Nat) (p : Cx) : Option (Nat × Nat) :=
  if nanB .f32 (distC p z) then best else
  match best with
  | none => some (i, distC p z)
  | some (j, m) => if FloatKind.f32.format.order (distC p z) m == some .lt then some (i, distC p z) else some (j, m)
def nearC (Q : List Cx) (z : Cx) : Option (Nat × Nat) := Q.zipIdx.foldl (fun b p => nearStep z b p.2 p.1) none

theorem nearC_snoc (Q : List Cx) (p z : Cx) : nearC (Q ++ [p]) z = nearStep z (nearC Q z) Q.length p := by
  simp [nearC, List.zipIdx_append]

def GivesNear (r : Option (Nat × Nat)) (w : World) (e : Ending) (w' : World) : Prop :=
  ∃ n, e = .returned (.tuple #[.int .i64 (((r.map (·.1)).getD 0 : Nat) : Int), .bool r.isSome]) ∧ w' = w.drewN n

set_option maxRecDepth 100000 in
set_option maxHeartbeats 1000000 in
theorem nearestIn_any (Q : List Cx) (z : Cx) (o : Bool) (b lo hi : Nat) (v : Value) (w : World) (hx : HasS cxV o b lo hi w v Q) (hlen : Q.length ≤ 4194304) :
    Calls Tryz.prog 173 #[v, .complex .f32 z.1 z.2] w (GivesNear (nearC Q z) w) := by
  obtain ⟨A, cap, rfl, hcap, hc⟩ := hx
  obtain ⟨len, hl⟩ : ∃ len, len = Q.length := ⟨_, rfl⟩
  have HL := Lib.hid hl
  rw [← hl] at hlen hcap ⊢
  clear hl
  have HC := Lib.hid hc; clear hc
  go_enter Tryz.func173, Tryz.ntmps173
  go_wp2_with fail
  go_loopw [6, 7, 8, 14] (fun a q f c wr => ∃ (k n : Nat) (s : Option (Nat × Nat)), k ≤ len ∧ nearC (Q.take k) z = s ∧ c = .int .i64 k ∧ a = .int .i64 (((s.map (·.1)).getD 0 : Nat) : Int) ∧ q = .float .f32 ((s.map (·.2)).getD 0) ∧ f = .bool s.isSome ∧ wr = w.drewN n) (fun _ _ _ c _ => len - (intOf c).toNat)
  case atStart => exact ⟨0, 0, none, Nat.zero_le _, rfl, rfl, rfl, rfl, rfl, rfl⟩
  case round =>
    obtain ⟨k, n, s, hk, hs, rfl, rfl, rfl, rfl, rfl⟩ := hrel
    by_cases hlt : k < len
    · obtain ⟨off, rfl, _, _, _, hcell, _⟩ := HC.out (by rw [← HL.out]; omega)
      obtain ⟨p, hp⟩ := getElem?_some (xs := Q) (j := k) (by rw [← HL.out]; exact hlt)
      have hck : w.cell? ⟨b, off + k, none⟩ = some (.complex .f32 p.1 p.2) := hcell k p hp
      have hst : nearC (Q.take (k + 1)) z = nearStep z s k p := by
        rw [take_snoc_of hp, nearC_snoc, hs, List.length_take, Nat.min_eq_left (by rw [← HL.out]; omega)]
      clear hcell hp hs
      cases hn : nanB .f32 (distC p z) with
      | true =>
        have HST : Hid (nearC (Q.take (k + 1)) z = s) := by unfold Hid; rw [hst]; unfold nearStep; rw [hn]; rfl
        have HN := Lib.hid hn
        clear hst hn
        go_wp2_with fail
        refine (impl_distanceOf p z _).mono ?_
        rintro _ _ ⟨r, m, rfl, rfl, hr⟩
        have hrn : nanB .f32 r = true := by
          rcases hr with rfl | h
          · exact HN.out
          · exact h.1
        have HR := Lib.hid hrn
        clear hr hrn
        go_wp2_with fail
        refine (isNaN_any _ _).mono ?_
        rintro _ _ ⟨rfl, rfl⟩
        rw [widen_nan, HR.out]
        go_wp2_with fail
        go_roundw
        case rel => exact ⟨k + 1, _, s, by omega, HST.out, by go_num, rfl, rfl, rfl, rfl⟩
        case measure => simp [intOf]; omega
      | false =>
        have HN := Lib.hid hn
        have HST := Lib.hid hst
        clear hst hn
        cases s with
        | none =>
          simp only [Option.map_none, Option.getD_none, Option.isSome_none]
          go_wp2_with fail
          refine (impl_distanceOf p z _).mono ?_
          rintro _ _ ⟨r, m, rfl, rfl, hr⟩
          obtain rfl : r = distC p z := by
            rcases hr with h | h
            · exact h
            · have := HN.out; rw [h.2] at this; cases this
          clear hr
          go_wp2_with fail
          refine (isNaN_any _ _).mono ?_
          rintro _ _ ⟨rfl, rfl⟩
          rw [widen_nan, HN.out]
          go_wp2_with fail
          go_roundw
          case rel => exact ⟨k + 1, _, some (k, distC p z), by omega, by rw [HST.out]; unfold nearStep; rw [HN.out]; rfl, by go_num, rfl, rfl, rfl, rfl⟩
          case measure => simp [intOf]; omega
        | some jm =>
          obtain ⟨j, mm⟩ := jm
          simp only [Option.map_some, Option.getD_some, Option.isSome_some]
          cases ho : FloatKind.f32.format.order (distC p z) mm == some .lt with
          | true =>
            have HO := Lib.hid ho
            go_wp2_with fail
            refine (impl_distanceOf p z _).mono ?_
            rintro _ _ ⟨r, m, rfl, rfl, hr⟩
            obtain rfl : r = distC p z := by
              rcases hr with h | h
              · exact h
              · have := HN.out; rw [h.2] at this; cases this
            clear hr
            go_wp2_with fail
            refine (isNaN_any _ _).mono ?_
            rintro _ _ ⟨rfl, rfl⟩
            rw [widen_nan, HN.out]
            go_wp2_with fail
            go_roundw
            case rel => exact ⟨k + 1, _, some (k, distC p z), by omega, by rw [HST.out]; unfold nearStep; rw [HN.out]; simp only [HO.out]; rfl, by go_num, rfl, rfl, rfl, rfl⟩
            case measure => simp [intOf]; omega
          | false =>
            have HO := Lib.hid ho
            go_wp2_with fail
            refine (impl_distanceOf p z _).mono ?_
            rintro _ _ ⟨r, m, rfl, rfl, hr⟩
            obtain rfl : r = distC p z := by
              rcases hr with h | h
              · exact h
              · have := HN.out; rw [h.2] at this; cases this
            clear hr
            go_wp2_with fail
            refine (isNaN_any _ _).mono ?_
            rintro _ _ ⟨rfl, rfl⟩
            rw [widen_nan, HN.out]
            go_wp2_with fail
            go_roundw
            case rel => exact ⟨k + 1, _, some (j, mm), by omega, by rw [HST.out]; unfold nearStep; rw [HN.out]; simp only [HO.out]; rfl, by go_num, rfl, rfl, rfl, rfl⟩
            case measure => simp [intOf]; omega
    · have hke : k = len := by omega
      have HK := Lib.hid hke
      have HS := Lib.hid hs
      clear hke hs
      go_wp2_with fail
      go_ret2
      refine ⟨n, ?_, rfl⟩
      have := HS.out
      rw [HK.out, HL.out, List.take_length] at this
      rw [this]
      rfl
end
section
open Go.RowKit

/-- A list of numbers in new memory, and true. -/
def GivesL {α : Type} (val : α → Value) (xs : List α) (w : World) (e : Ending) (w' : World) : Prop :=
  ∃ v b, e = .returned (.tuple #[v, .bool true]) ∧ HasS val true b w.heap.size w'.heap.size w' v xs ∧ Span 0 0 w w'

theorem Filled.setOther {w : World} {g : Nat} {e : TypeId} {n k : Nat} {f : Nat → Value} (h : Filled w g e n k f) (n' : Nat) : Filled (w.drewN n') g e n k f := h

/-- How each sample is decided. -/
def Decided (t : Tab) (zs : List Cx) (ls : List Int) : Prop :=
  ls.length = zs.length ∧ ∀ (j : Nat) (z : Cx), zs[j]? = some z → ∃ (i m : Nat) (l : Int), nearC t.1 z = some (i, m) ∧ t.2[i]? = some l ∧ ls[j]? = some l
end
section
open Go.RowKit

/-- How each label is encoded. -/
def Encoded (t : Tab) (ns : List Int) (zs : List Cx) : Prop :=
  zs.length = ns.length ∧ ∀ (j : Nat) (n : Int), ns[j]? = some n → ∃ (i : Nat) (z : Cx), t.2[i]? = some n ∧ (∀ k, k < i → t.2[k]? ≠ some n) ∧ t.1[i]? = some z ∧ zs[j]? = some z
end
end Go.Proofs.YtkjlodoppmipfaaGreat
