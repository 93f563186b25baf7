/- Frames counted: plain mathematics; maps keyed by frames. -/
import Derived.Test.YtfafkdpefdpnkaaJq26
import Derived.Outline
namespace Go.Proofs.Ytfafkdpefdpnkaa
open Go.RowKit Go.MapKept

/-- What is listed, and how often. -/
def countStep (K : List Fr × List Nat) (F : Fr) : List Fr × List Nat :=
  match atF K.1 F with
  | some i => (K.1, K.2.set i (K.2.getD i 0 + 1))
  | none => (K.1 ++ [F], K.2 ++ [1])
def countF (L : List Fr) : List Fr × List Nat := L.foldl countStep ([], [])
theorem countF_snoc (L : List Fr) (F : Fr) : countF (L ++ [F]) = countStep (countF L) F := by unfold countF; rw [List.foldl_append]; rfl

theorem atF_snoc (L : List Fr) (F G : Fr) : atF (L ++ [F]) G = (atF L G).or (if eqF G F then some L.length else none) := by
  unfold atF
  rw [List.findIdx?_append]
  cases L.findIdx? fun H => eqF G H with
  | some i => rfl
  | none =>
    simp only [Option.none_or, List.findIdx?_cons, List.findIdx?_nil]
    cases eqF G F <;> simp

/-- What is known of what is listed: P are the places at which it was met. -/
structure Counted (L : List Fr) (K : List Fr × List Nat) (P : List Nat) : Prop where
  len : K.1.length = K.2.length
  places : P.length = K.1.length
  sum : K.2.sum = L.length
  pos : ∀ c ∈ K.2, 1 ≤ c
  apart : ∀ (i j : Nat) (F G : Fr), i < j → K.1[i]? = some F → K.1[j]? = some G → eqF G F = false
  up : ∀ (i j p q : Nat), i < j → P[i]? = some p → P[j]? = some q → p < q
  low : ∀ p ∈ P, p < L.length
  at_ : ∀ (i : Nat) (F : Fr) (p : Nat), K.1[i]? = some F → P[i]? = some p → eqF F F = true → atF L F = some p
  all : ∀ F ∈ L, eqF F F = true → ∃ G ∈ K.1, eqF F G = true

theorem sum_set : ∀ (l : List Nat) (i c : Nat), l[i]? = some c → (l.set i (c + 1)).sum = l.sum + 1
  | [], i, c, h => by simp at h
  | a :: l, 0, c, h => by simp at h; subst h; simp; omega
  | a :: l, i + 1, c, h => by
    simp at h
    have := sum_set l i c h
    simp only [List.set_cons_succ, List.sum_cons]
    omega

theorem Counted.nil : Counted [] ([], []) [] := by
  refine ⟨rfl, rfl, rfl, (fun c h => by cases h), (fun i j F G _ h => by simp at h), (fun i j p q _ h => by simp at h), (fun p h => by cases h), (fun i F p h => by simp at h), (fun F h => by cases h)⟩

theorem Counted.step {L : List Fr} {K : List Fr × List Nat} {P : List Nat} (h : Counted L K P) (F : Fr) : ∃ P', Counted (L ++ [F]) (countStep K F) P' := by
  unfold countStep
  cases ha : atF K.1 F with
  | some i =>
    obtain ⟨G, hG, hFG, -⟩ := atF_some ha
    have hi : i < K.1.length := (List.getElem?_eq_some_iff.1 hG).1
    have hi2 : i < K.2.length := by rw [← h.len]; exact hi
    have hc : K.2[i]? = some K.2[i] := List.getElem?_eq_getElem hi2
    have hd : K.2.getD i 0 = K.2[i] := by rw [List.getD_eq_getElem?_getD, hc]; rfl
    refine ⟨P, ?_, h.places, ?_, ?_, h.apart, h.up, ?_, ?_, ?_⟩
    · simp only [List.length_set]; exact h.len
    · simp only []
      rw [hd, sum_set _ _ _ hc, h.sum, List.length_append, List.length_singleton]
    · intro c hc'
      simp only [] at hc'
      rcases List.mem_or_eq_of_mem_set hc' with h1 | h1
      · exact h.pos c h1
      · omega
    · intro p hp
      have := h.low p hp
      rw [List.length_append]; omega
    · intro j H p h1 h2 h3
      rw [atF_snoc, h.at_ j H p h1 h2 h3]; rfl
    · intro H hH hs
      rcases List.mem_append.1 hH with h1 | h1
      · exact h.all H h1 hs
      · rw [List.mem_singleton.1 h1]
        exact ⟨G, List.mem_of_getElem? hG, hFG⟩
  | none =>
    have hno := atF_none.1 ha
    refine ⟨P ++ [L.length], ?_, ?_, ?_, ?_, ?_, ?_, ?_, ?_, ?_⟩
    · simp only [List.length_append, List.length_singleton]; rw [h.len]
    · simp only [List.length_append, List.length_singleton]; rw [h.places]
    · simp only [List.sum_append, List.sum_cons, List.sum_nil, List.length_append, List.length_singleton]; rw [h.sum]; omega
    · intro c hc
      rcases List.mem_append.1 hc with h1 | h1
      · exact h.pos c h1
      · rw [List.mem_singleton.1 h1]; exact Nat.le_refl _
    · intro i j A B hij hA hB
      simp only [] at hA hB
      have hj : j < (K.1 ++ [F]).length := (List.getElem?_eq_some_iff.1 hB).1
      rw [List.length_append, List.length_singleton] at hj
      rw [List.getElem?_append_left (by omega)] at hA
      by_cases hjl : j < K.1.length
      · rw [List.getElem?_append_left hjl] at hB
        exact h.apart i j A B hij hA hB
      · rw [List.getElem?_append_right (by omega), show j - K.1.length = 0 by omega] at hB
        injection hB with hB
        rw [← hB]
        exact hno A (List.mem_of_getElem? hA)
    · intro i j p q hij hp hq
      have hj : j < (P ++ [L.length]).length := (List.getElem?_eq_some_iff.1 hq).1
      rw [List.length_append, List.length_singleton] at hj
      rw [List.getElem?_append_left (by omega)] at hp
      by_cases hjl : j < P.length
      · rw [List.getElem?_append_left hjl] at hq
        exact h.up i j p q hij hp hq
      · rw [List.getElem?_append_right (by omega), show j - P.length = 0 by omega] at hq
        injection hq with hq
        rw [← hq]
        exact h.low p (List.mem_of_getElem? hp)
    · intro p hp
      rw [List.length_append, List.length_singleton]
      rcases List.mem_append.1 hp with h1 | h1
      · have := h.low p h1; omega
      · rw [List.mem_singleton.1 h1]; omega
    · intro j H p h1 h2 h3
      simp only [] at h1
      have hj : j < (K.1 ++ [F]).length := (List.getElem?_eq_some_iff.1 h1).1
      rw [List.length_append, List.length_singleton] at hj
      by_cases hjl : j < K.1.length
      · rw [List.getElem?_append_left hjl] at h1
        rw [List.getElem?_append_left (by rw [h.places]; exact hjl)] at h2
        rw [atF_snoc, h.at_ j H p h1 h2 h3]; rfl
      · rw [List.getElem?_append_right (by omega), show j - K.1.length = 0 by omega] at h1
        rw [List.getElem?_append_right (by rw [h.places]; omega), h.places, show j - K.1.length = 0 by omega] at h2
        injection h1 with h1
        injection h2 with h2
        subst h1 h2
        have hn : atF L F = none := by
          rw [atF_none]
          intro G hG
          cases he : eqF F G with
          | false => rfl
          | true =>
            obtain ⟨G', hG', he'⟩ := h.all G hG (eqF_self (by rw [eqF_symm]; exact he))
            have := hno G' hG'
            rw [eqF_trans he he'] at this
            cases this
        rw [atF_snoc, hn, h3]; rfl
    · intro H hH hs
      rcases List.mem_append.1 hH with h1 | h1
      · obtain ⟨G, hG, he⟩ := h.all H h1 hs
        exact ⟨G, List.mem_append_left _ hG, he⟩
      · rw [List.mem_singleton.1 h1] at hs ⊢
        exact ⟨F, by simp, hs⟩

theorem counted (L : List Fr) : ∃ P, Counted L (countF L) P := by
  suffices h : ∀ n, ∃ P, Counted (L.take n) (countF (L.take n)) P by
    have := h L.length
    rwa [List.take_length] at this
  intro n
  induction n with
  | zero => exact ⟨[], Counted.nil⟩
  | succ n ih =>
    obtain ⟨P, hP⟩ := ih
    by_cases hn : n < L.length
    · rw [List.take_succ_eq_append_getElem hn, countF_snoc]
      exact hP.step _
    · rw [List.take_of_length_le (by omega)] at hP ⊢
      exact ⟨P, hP⟩

/-- What is listed is found first where it was listed. -/
theorem Counted.first {L : List Fr} {K : List Fr × List Nat} {P : List Nat} (h : Counted L K P) {i : Nat} {F : Fr} (hF : K.1[i]? = some F) (hs : eqF F F = true) : atF K.1 F = some i :=
  atF_take (fun j G hj hG => h.apart j i G F hj hG hF) hF hs
/-- A frame that is not equal to itself is nowhere. -/
theorem atF_odd {L : List Fr} {F : Fr} (h : eqF F F = false) : atF L F = none := by
  rw [atF_none]
  intro G _
  cases he : eqF F G with
  | false => rfl
  | true => rw [eqF_self he] at h; cases h

/-- The entries of the map from frames to their places. -/
def entriesF (Q : List Fr) : Array MapEntry := (Q.zipIdx.map fun p => (⟨frV p.1, .int .i64 (p.2 : Nat), p.2⟩ : MapEntry)).toArray
theorem entriesF_snoc (Q : List Fr) (z : Fr) : entriesF (Q ++ [z]) = (entriesF Q).push ⟨frV z, .int .i64 (Q.length : Nat), Q.length⟩ := by
  simp [entriesF, List.zipIdx_append]
theorem run_equal_fr (F G : Fr) (w : World) : (Op.equal 37 (frV F) (frV G)).run Try.prog w = .ok (eqF F G) w := by
  obtain ⟨⟨x0, x1⟩, ⟨x2, x3⟩, ⟨x4, x5⟩, ⟨x6, x7⟩, ⟨x8, x9⟩, ⟨x10, x11⟩, ⟨x12, x13⟩, ⟨x14, x15⟩⟩ := F
  obtain ⟨⟨y0, y1⟩, ⟨y2, y3⟩, ⟨y4, y5⟩, ⟨y6, y7⟩, ⟨y8, y9⟩, ⟨y10, y11⟩, ⟨y12, y13⟩, ⟨y14, y15⟩⟩ := G
  exact run_equalIn_fr x0 x1 x2 x3 x4 x5 x6 x7 x8 x9 x10 x11 x12 x13 x14 x15 y0 y1 y2 y3 y4 y5 y6 y7 y8 y9 y10 y11 y12 y13 y14 y15 w
theorem run_findAsking_fr (w : World) (z : Fr) : ∀ (Q : List Fr) (k i : Nat),
    (Instr.findAsking 37 (frV z) ((Q.zipIdx k).map fun p => (⟨frV p.1, .int .i64 (p.2 : Nat), p.2⟩ : MapEntry)) i).run Try.prog w = .ok ((atF Q z).map fun j => (i + j, Value.int .i64 ((k + j : Nat) : Int))) w
  | [], _, _ => rfl
  | p :: Q, k, i => by
    have ih := run_findAsking_fr w z Q (k + 1) (i + 1)
    unfold atF at ih ⊢
    simp only [List.zipIdx_cons, List.map_cons, Instr.findAsking, Sem.run_bind, run_equal_fr, Result.andThen_ok, List.findIdx?_cons]
    cases h : eqF z p with
    | true => simp
    | false =>
      simp only [Bool.false_eq_true, if_false]
      rw [ih]
      congr 1
      cases Q.findIdx? fun p => eqF z p with
      | none => rfl
      | some j =>
        simp only [Option.map_some, Option.some.injEq, Prod.mk.injEq, Value.int.injEq, true_and]
        omega

theorem run_findKey_fr (w : World) (z : Fr) (Q : List Fr) : (Instr.findKey 37 (frV z) (entriesF Q).toList).run Try.prog w = .ok ((atF Q z).map fun j => (j, Value.int .i64 ((j : Nat) : Int))) w := by
  have h := run_findAsking_fr w z Q 0 0
  simp only [Nat.zero_add] at h
  have hl : (entriesF Q).toList = Q.zipIdx.map fun p => (⟨frV p.1, .int .i64 (p.2 : Nat), p.2⟩ : MapEntry) := rfl
  cases Q with
  | nil =>
    show (Instr.findKey 37 (frV z) []).run Try.prog w = _
    simp [Instr.findKey, run_underlying Try.underlying37, Instr.findNow, Result.andThen]
    rfl
  | cons p Q =>
    have hn : Instr.findNow (.array 8 35) (frV z) (entriesF (p :: Q)).toList 0 = none := by
      rw [hl]
      simp [List.zipIdx_cons, Instr.findNow, Instr.sameNow]
    simp only [Instr.findKey, Sem.run_bind, run_underlying Try.underlying37, Result.andThen_ok, hn]
    rw [hl]
    exact h

theorem run_checkKey_fr (x0 x1 x2 x3 x4 x5 x6 x7 x8 x9 x10 x11 x12 x13 x14 x15 : Nat) (e : Bool) (w : World) : (Instr.checkKey e 10000 37 (.agg #[.complex .f32 x0 x1, .complex .f32 x2 x3, .complex .f32 x4 x5, .complex .f32 x6 x7, .complex .f32 x8 x9, .complex .f32 x10 x11, .complex .f32 x12 x13, .complex .f32 x14 x15])).run Try.prog w = .ok () w := by
  have a3 := Try.isAgg35
  have z3 := Try.sizeOf35
  have q : ∀ (a b : Nat) (w : World), (Instr.checkKey e 9999 35 (.complex .f32 a b)).run Try.prog w = .ok () w := fun a b w => by
    rw [show (9999 : Nat) = 9998 + 1 from rfl, Instr.checkKey]
    simp only [Sem.run_bind, run_underlying Try.underlying35, Result.andThen_ok]
    rfl
  rw [show (10000 : Nat) = 9999 + 1 from rfl, Instr.checkKey]
  simp only [Sem.run_bind, run_underlying Try.underlying37, Result.andThen_ok]
  simp only [Std.Legacy.Range.forIn_eq_forIn_range', Std.Legacy.Range.size, Nat.sub_zero, Nat.add_sub_cancel, Nat.div_one, List.range'_succ, List.range'_zero, List.forIn_cons, List.forIn_nil]
  go_simp

theorem run_checkKey_fr' (F : Fr) (e : Bool) (w : World) : (Instr.checkKey e 10000 37 (frV F)).run Try.prog w = .ok () w := by
  obtain ⟨⟨x0, x1⟩, ⟨x2, x3⟩, ⟨x4, x5⟩, ⟨x6, x7⟩, ⟨x8, x9⟩, ⟨x10, x11⟩, ⟨x12, x13⟩, ⟨x14, x15⟩⟩ := F
  exact run_checkKey_fr x0 x1 x2 x3 x4 x5 x6 x7 x8 x9 x10 x11 x12 x13 x14 x15 e w

theorem run_lookup_fr (w : World) {r clock : Nat} {Q : List Fr} (hb : w.heap[r]? = some (.map (entriesF Q) clock)) (F : Fr) :
    (Instr.lookup 60 (.map (some r)) (frV F) true).run Try.prog w = .ok (.tuple #[.int .i64 (((atF Q F).getD 0 : Nat) : Int), .bool (atF Q F).isSome]) w := by
  have hE := Try.zeroValue3
  unfold Instr.lookup
  simp only [Sem.run_bind, run_underlying Try.underlying60, Result.andThen_ok, MapKept.run_getObj_map hb, Sem.run_pure, run_checkKey_fr', run_findKey_fr]
  cases atF Q F with
  | none => simp [hE, Result.andThen]
  | some i => simp [Result.andThen]

theorem run_mapUpdate_fr (w : World) {r clock : Nat} {Q : List Fr} (hb : w.heap[r]? = some (.map (entriesF Q) clock)) (F : Fr) (v : Value) (h : atF Q F = none) :
    (Instr.mapUpdate 60 (.map (some r)) (frV F) v).run Try.prog w = .ok () { w with heap := w.heap.setIfInBounds r (.map ((entriesF Q).push ⟨frV F, v, clock⟩) (clock + 1)) } := by
  have hk := run_findKey_fr w F Q
  rw [h] at hk
  simp only [Option.map_none] at hk
  simp [Instr.mapUpdate, run_underlying Try.underlying60, MapKept.run_getObj_map hb, run_checkKey_fr', hk, run_setObj_map _ hb, Result.andThen]

theorem wpList_mapUpdate_fr (w : World) {ops : Array Oper} {rest : List Oper} {o : Oper} {a : Act} {Q : Exit → Act → World → Prop}
    (hg : o.guard = none) (m x v : Operand) (hop : o.op = Op.mapUpdate 60 m x v)
    (b : Nat) (K : List Fr) (hm : a.eval m = .map (some b)) (hb : w.heap[b]? = some (.map (entriesF K) K.length)) (F : Fr) (hx : a.eval x = frV F) (hv : a.eval v = .int .i64 (K.length : Int)) (hne : atF K F = none)
    (hK : ∀ w', w'.heap[b]? = some (.map (entriesF (K ++ [F])) (K ++ [F]).length) → w.grownBy w' (some b) → wpList Try.prog ops Q rest (a.put o.dst undef) w') :
    wpList Try.prog ops Q (o :: rest) a w := by
  refine wpList_plain hg fun K' hK' => ?_
  have hrun := run_mapUpdate_fr w hb F (.int .i64 (K.length : Int)) hne
  have hlt : b < w.heap.size := by
    by_cases h : b < w.heap.size
    · exact h
    · rw [Array.getElem?_eq_none (by omega)] at hb; cases hb
  unfold Oper.wp
  simp [execOp, hop, hm, hx, hv, hrun, Result.andThen]
  refine hK' _ _ (hK _ ?_ ⟨rfl, rfl, rfl, by simp, fun i _ hne => ?_⟩)
  · show (w.heap.setIfInBounds b _)[b]? = _
    rw [Array.getElem?_setIfInBounds_self_of_lt hlt, entriesF_snoc, List.length_append, List.length_singleton]
  · show (w.heap.setIfInBounds b _)[i]? = _
    rw [Array.getElem?_setIfInBounds_ne (by rintro rfl; exact hne rfl)]
end Go.Proofs.Ytfafkdpefdpnkaa
