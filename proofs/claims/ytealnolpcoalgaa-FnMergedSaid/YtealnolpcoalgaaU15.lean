/- Tables merged: plain mathematics; a look-up at complex keys. -/
import Derived.Test.YtealnolpcoalgaaU13
namespace Go.Proofs.Ytealnolpcoalgaa
open Go.RowKit

/-- The first k points of b are put into a. -/
structure Merged (a b : Tab) (k : Nat) (M : Tab) : Prop where
  valid : Valid M
  len : a.1.length ≤ M.1.length ∧ M.1.length ≤ a.1.length + k
  pre : ∃ N, M.1 = a.1 ++ N ∧ ∀ p ∈ N, ∃ j, j < k ∧ b.1[j]? = some p
  lab : ∀ q, finC q → labelT M q = (labelT (b.1.take k, b.2.take k) q).or (labelT a q)

theorem Merged.zero {a : Tab} (b : Tab) (h : Valid a) : Merged a b 0 a := by
  refine ⟨h, ⟨Nat.le_refl _, Nat.le_refl _⟩, ⟨[], by simp, fun p hp => absurd hp (by simp)⟩, fun q _ => ?_⟩
  rw [List.take_zero, List.take_zero]
  rfl

theorem Valid.take {t : Tab} (h : Valid t) (k : Nat) : Valid (t.1.take k, t.2.take k) := by
  refine ⟨?_, ?_, fun z hz => h.fin z (List.mem_of_mem_take hz), List.Pairwise.sublist (List.take_sublist _ _) h.apart⟩
  · show (t.2.take k).length = (t.1.take k).length
    rw [List.length_take, List.length_take, h.len]
  · have := h.most
    show (t.1.take k).length ≤ 64
    rw [List.length_take]; omega

theorem atC_append {Q N : List Cx} {z : Cx} {i : Nat} (h : atC Q z = some i) : atC (Q ++ N) z = some i := by
  obtain ⟨p, hp, h1, h2⟩ := atC_some h
  have hi := (List.getElem?_eq_some_iff.1 hp).1
  refine atC_take (k := i) (fun j q hj hq => h2 j q hj ?_) (p := p) (by rw [List.getElem?_append_left hi]; exact hp) h1
  rw [List.getElem?_append_left (by omega)] at hq
  exact hq

theorem Valid.key {t : Tab} (h : Valid t) {i j : Nat} {p q : Cx} (hi : t.1[i]? = some p) (hj : t.1[j]? = some q) (e : keyC p = keyC q) : i = j := by
  have h1 := (atC_key h.fin h.apart (h.fin q (List.mem_of_getElem? hj)) hi).2 e
  have h2 := (atC_key h.fin h.apart (h.fin q (List.mem_of_getElem? hj)) hj).2 rfl
  rw [h1] at h2
  injection h2

theorem Merged.at_none {a b M : Tab} {k : Nat} (h : Merged a b k M) (hb : Valid b) {z : Cx} (hz : b.1[k]? = some z) (ha : atC a.1 z = none) : atC M.1 z = none := by
  obtain ⟨N, hN, hN2⟩ := h.pre
  have hfz := hb.fin z (List.mem_of_getElem? hz)
  rw [atC_none] at ha ⊢
  intro p hp
  rw [hN] at hp
  rcases List.mem_append.1 hp with g | g
  · exact ha p g
  · obtain ⟨j, hj, hj2⟩ := hN2 p g
    rw [eqC_fin (hb.fin p (List.mem_of_getElem? hj2)) hfz, decide_eq_false_iff_not]
    intro e
    have := hb.key hj2 hz e
    omega

theorem Merged.at_some {a b M : Tab} {k : Nat} (h : Merged a b k M) {z : Cx} {i : Nat} (ha : atC a.1 z = some i) : atC M.1 z = some i := by
  obtain ⟨N, hN, _⟩ := h.pre
  rw [hN]
  exact atC_append ha

theorem Merged.step {a b M : Tab} {k : Nat} (h : Merged a b k M) (hb : Valid b) (hl : a.1.length + b.1.length ≤ 64) {z : Cx} {n : Int} (hz : b.1[k]? = some z) (hn : b.2[k]? = some n) :
    ∃ M', putT M z n = some M' ∧ Merged a b (k + 1) M' ∧ (∀ i, atC a.1 z = some i → M' = (M.1, M.2.set i n)) ∧ (atC a.1 z = none → M' = (M.1 ++ [z], M.2 ++ [n])) := by
  have hfz := hb.fin z (List.mem_of_getElem? hz)
  have hk := (List.getElem?_eq_some_iff.1 hz).1
  have hM : M.1.length < 64 := by have := h.len.2; omega
  have hB : putT (b.1.take k, b.2.take k) z n = some (b.1.take (k + 1), b.2.take (k + 1)) := by
    have hno : atC (b.1.take k) z = none := by
      rw [atC_none]
      intro p hp
      obtain ⟨j, hj⟩ := List.mem_iff_getElem?.1 hp
      have hjk : j < k := by have := (List.getElem?_eq_some_iff.1 hj).1; rw [List.length_take] at this; omega
      rw [List.getElem?_take_of_lt hjk] at hj
      rw [eqC_fin (hb.fin p (List.mem_of_getElem? hj)) hfz, decide_eq_false_iff_not]
      intro e
      have := hb.key hj hz e
      omega
    unfold putT
    simp only []
    rw [hno]
    simp only []
    rw [if_pos (finB_of hfz), take_snoc_of hz, take_snoc_of hn]
  have hBl : (b.1.take k, b.2.take k).1.length < 64 := by show (b.1.take k).length < 64; rw [List.length_take]; omega
  obtain ⟨M', hM', hsh⟩ : ∃ M', putT M z n = some M' ∧ ((∀ i, atC a.1 z = some i → M' = (M.1, M.2.set i n)) ∧ (atC a.1 z = none → M' = (M.1 ++ [z], M.2 ++ [n]))) := by
    unfold putT
    cases ha : atC a.1 z with
    | some i =>
      rw [h.at_some ha]
      exact ⟨_, rfl, (fun j hj => by injection hj with hj; rw [hj]), (fun hj => by cases hj)⟩
    | none =>
      rw [h.at_none hb hz ha]
      simp only []
      rw [if_pos (finB_of hfz)]
      exact ⟨_, rfl, (fun j hj => by cases hj), fun _ => rfl⟩
  obtain ⟨hv, hl1, hl2⟩ := h.valid.put ⟨hfz.1.1, hfz.2.1⟩ hM hM'
  refine ⟨M', hM', ⟨hv, ⟨by have := h.len.1; omega, by have := h.len.2; omega⟩, ?_, fun q hq => ?_⟩, hsh⟩
  · obtain ⟨N, hN, hN2⟩ := h.pre
    cases ha : atC a.1 z with
    | some i =>
      rw [hsh.1 i ha]
      exact ⟨N, hN, fun p hp => (hN2 p hp).elim fun j hj => ⟨j, by omega, hj.2⟩⟩
    | none =>
      rw [hsh.2 ha]
      refine ⟨N ++ [z], by rw [hN, List.append_assoc], fun p hp => ?_⟩
      rcases List.mem_append.1 hp with g | g
      · exact (hN2 p g).elim fun j hj => ⟨j, by omega, hj.2⟩
      · rw [List.mem_singleton.1 g]; exact ⟨k, by omega, hz⟩
  · rw [label_put h.valid hfz hM hM' hq, label_put (hb.take k) hfz hBl hB hq, h.lab q hq]
    by_cases e : keyC q = keyC z
    · rw [if_pos e, if_pos e]; rfl
    · rw [if_neg e, if_neg e]

/-- The whole. -/
theorem Merged.whole {a b M : Tab} (h : Merged a b b.1.length M) (hb : Valid b) {q : Cx} (hq : finC q) : labelT M q = (labelT b q).or (labelT a q) := by
  have := h.lab q hq
  have e1 : b.1.take b.1.length = b.1 := List.take_length
  have e2 : b.2.take b.1.length = b.2 := by rw [← hb.len]; exact List.take_length
  rw [e1, e2] at this
  exact this

section
variable {P : Program} (w : World)
theorem run_findAsking_cx {K : TypeId} (hK : P.underlying K = some (.complex .f32)) (z : Cx) : ∀ (Q : List Cx) (k i : Nat),
    (Instr.findAsking K (cxV z) ((Q.zipIdx k).map fun p => (⟨cxV p.1, .int .i64 (p.2 : Nat), p.2⟩ : MapEntry)) i).run P w = .ok ((Q.findIdx? fun p => eqC z p).map fun j => (i + j, Value.int .i64 ((k + j : Nat) : Int))) w
  | [], _, _ => rfl
  | p :: Q, k, i => by
    have ih := run_findAsking_cx hK z Q (k + 1) (i + 1)
    simp only [List.zipIdx_cons, List.map_cons, Instr.findAsking, Sem.run_bind, run_equal_cx w hK, Result.andThen_ok, List.findIdx?_cons]
    cases h : eqC z p with
    | true => simp
    | false =>
      simp only [Bool.false_eq_true, if_false]
      rw [ih]
      congr 1
      cases Q.findIdx? fun p => eqC z p with
      | none => rfl
      | some j =>
        simp only [Option.map_some, Option.some.injEq, Prod.mk.injEq, Value.int.injEq, true_and]
        omega

theorem run_lookup_cx {T K E : TypeId} (hT : P.underlying T = some (.map K E)) (hK : P.underlying K = some (.complex .f32)) (hE : ∀ w, (zeroValue E).run P w = .ok (.int .i64 0) w) {r clock : Nat} {Q : List Cx} (hb : w.heap[r]? = some (.map (entries Q) clock)) (z : Cx) (hsym : ∀ p ∈ Q, eqC z p = eqC p z) :
    (Instr.lookup T (.map (some r)) (.complex .f32 z.1 z.2) true).run P w = .ok (.tuple #[.int .i64 (((atC Q z).getD 0 : Nat) : Int), .bool (atC Q z).isSome]) w := by
  have e : (Q.findIdx? fun p => eqC z p) = atC Q z := by
    unfold atC
    clear hb
    induction Q with
    | nil => rfl
    | cons p Q ih =>
      rw [List.findIdx?_cons, List.findIdx?_cons, hsym p (by simp), ih (fun q hq => hsym q (by simp [hq]))]
  have hf : (Instr.findKey K (.complex .f32 z.1 z.2) (entries Q).toList).run P w = .ok ((atC Q z).map fun j => (j, Value.int .i64 ((j : Nat) : Int))) w := by
    have h := run_findAsking_cx (P := P) w hK z Q 0 0
    simp only [Nat.zero_add, e] at h
    have hl : (entries Q).toList = Q.zipIdx.map fun p => (⟨cxV p.1, .int .i64 (p.2 : Nat), p.2⟩ : MapEntry) := rfl
    by_cases hq : Q = []
    · subst hq
      show (Instr.findKey K (.complex .f32 z.1 z.2) []).run P w = _
      simp [Instr.findKey, run_underlying hK, Instr.findNow, Result.andThen]
      rfl
    · have hne : (entries Q).toList ≠ [] := by
        rw [hl]
        cases Q with
        | nil => exact absurd rfl hq
        | cons p Q => simp
      simp only [Instr.findKey, Sem.run_bind, run_underlying hK, Result.andThen_ok, findNow_cx _ _ _ _ hne]
      rw [hl]
      exact h
  unfold Instr.lookup
  simp only [Sem.run_bind, run_underlying hT, Result.andThen_ok, MapKept.run_getObj_map hb, Sem.run_pure]
  have hck := run_checkKey_cx (P := P) w hK z (entries Q).isEmpty
  rw [show cxV z = .complex .f32 z.1 z.2 from rfl] at hck
  rw [hck]
  simp only [Result.andThen_ok, hf]
  cases atC Q z with
  | none => simp [hE, Result.andThen]
  | some i => simp [Result.andThen]
end

end Go.Proofs.Ytealnolpcoalgaa
