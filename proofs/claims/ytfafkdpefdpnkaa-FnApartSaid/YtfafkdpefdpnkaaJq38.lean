/- Pools, plain mathematics: windows, appends, a pool made compact. -/
import Derived.Test.YtfafkdpefdpnkaaJq37
namespace Go.Proofs.Ytfafkdpefdpnkaa
open Go.RowKit

/-- What the holder of a lease sees. -/
def winP (p : Pl) (id : Nat) : Option (List Cx) := (lentAt p id).map fun x => (p.1.drop x.start).take x.count

theorem lentAt_eq {p : Pl} {id : Nat} {x : Ls} (h : p.2[id]? = some x) (hf : x.free = false) : lentAt p id = some x := by
  unfold lentAt; rw [h]; simp [hf]
theorem lentAt_free {p : Pl} {id : Nat} {x : Ls} (h : p.2[id]? = some x) (hf : x.free = true) : lentAt p id = none := by
  unfold lentAt; rw [h]; simp [hf]

/-- Two rooms have no sample in common. -/
theorem VP.apart {p : Pl} (h : VP p) {a b : Nat} {x y : Ls} (ha : p.2[a]? = some x) (hb : p.2[b]? = some y) (hab : a ≠ b) (i : Nat) (h1 : covers x i = true) : covers y i = false := by
  have e := cnt_set p.2 a x freeL i ha
  rw [h1, covers_free (x := freeL) rfl] at e
  have h2 := h.one i
  simp at e
  cases hc : covers y i with
  | false => rfl
  | true =>
    have : 0 < cnt (p.2.set a freeL) i := cnt_pos.2 ⟨y, List.mem_of_getElem? (i := b) (by rw [List.getElem?_set_ne hab]; exact hb), hc⟩
    omega

theorem overlay_get {S : List Cx} {i : Nat} {xs : List Cx} (h : i + xs.length ≤ S.length) (j : Nat) : (overlay S i xs)[j]? = if j < i then S[j]? else if j < i + xs.length then xs[j - i]? else S[j]? := by
  unfold overlay
  have hl : (S.take i).length = i := by simp; omega
  by_cases h1 : j < i
  · rw [if_pos h1, List.append_assoc, List.getElem?_append_left (by omega), List.getElem?_take_of_lt h1]
  · rw [if_neg h1]
    by_cases h2 : j < i + xs.length
    · rw [if_pos h2, List.append_assoc, List.getElem?_append_right (by omega), hl, List.getElem?_append_left (by omega)]
    · rw [if_neg h2, List.getElem?_append_right (by simp; omega), List.getElem?_drop]
      congr 1
      simp
      omega

/-- A part of a list, sample by sample. -/
theorem part_get (S : List Cx) (s c j : Nat) : ((S.drop s).take c)[j]? = if j < c then S[s + j]? else none := by
  by_cases h : j < c
  · rw [if_pos h, List.getElem?_take_of_lt h, List.getElem?_drop]
  · rw [if_neg h, List.getElem?_eq_none]; simp; omega

theorem part_eq {S T : List Cx} {s t c : Nat} (h : ∀ j, j < c → S[s + j]? = T[t + j]?) : (S.drop s).take c = (T.drop t).take c := by
  apply List.ext_getElem?
  intro j
  rw [part_get, part_get]
  by_cases hj : j < c
  · rw [if_pos hj, if_pos hj, h j hj]
  · rw [if_neg hj, if_neg hj]

theorem part_length {S : List Cx} {s c : Nat} (h : s + c ≤ S.length) : ((S.drop s).take c).length = c := by simp; omega

/-- Windows behind an append. -/
theorem VP.app_win {p u : Pl} {id : Nat} {xs : List Cx} (h : VP p) (hu : appP p id xs = some u) (k : Nat) :
    winP u k = if k = id then (winP p id).map (· ++ xs) else winP p k := by
  unfold appP at hu
  cases hl : lentAt p id with
  | none => rw [hl] at hu; cases hu
  | some x =>
    rw [hl] at hu
    simp only [Option.bind_some] at hu
    split at hu
    · rename_i hc
      injection hu with hu
      subst hu
      obtain ⟨hx, hf⟩ := lentAt_some hl
      obtain ⟨o1, o2, o3⟩ := (h.ok x (List.mem_of_getElem? hx)).lent hf
      have hid := (List.getElem?_eq_some_iff.1 hx).1
      by_cases hk : k = id
      · subst hk
        rw [if_pos rfl]
        unfold winP
        rw [hl, lentAt_eq (p := (overlay p.1 (x.start + x.count) xs, p.2.set k ⟨x.start, x.count + xs.length, x.room, false⟩)) (x := ⟨x.start, x.count + xs.length, x.room, false⟩) (by rw [List.getElem?_set_self hid]) rfl]
        simp only [Option.map_some, Option.some.injEq]
        apply List.ext_getElem?
        intro j
        rw [part_get]
        by_cases hj : j < x.count + xs.length
        · rw [if_pos hj, overlay_get (by omega)]
          by_cases h1 : j < x.count
          · rw [if_pos (by omega), List.getElem?_append_left (by rw [part_length (by omega)]; exact h1), part_get, if_pos h1]
          · rw [if_neg (by omega), if_pos (by omega), List.getElem?_append_right (by rw [part_length (by omega)]; omega), part_length (by omega)]
            congr 1; omega
        · rw [if_neg hj, List.getElem?_eq_none]
          rw [List.length_append, part_length (by omega)]; omega
      · rw [if_neg hk]
        unfold winP
        have hs : (p.2.set id ⟨x.start, x.count + xs.length, x.room, false⟩)[k]? = p.2[k]? := List.getElem?_set_ne (Ne.symm hk)
        have hl2 : lentAt (overlay p.1 (x.start + x.count) xs, p.2.set id ⟨x.start, x.count + xs.length, x.room, false⟩) k = lentAt p k := by unfold lentAt; rw [hs]
        rw [hl2]
        cases hlk : lentAt p k with
        | none => rfl
        | some y =>
          obtain ⟨hy, hfy⟩ := lentAt_some hlk
          obtain ⟨q1, q2, q3⟩ := (h.ok y (List.mem_of_getElem? hy)).lent hfy
          simp only [Option.map_some, Option.some.injEq]
          apply part_eq
          intro j hj
          rw [overlay_get (by omega)]
          by_cases h1 : y.start + j < x.start + x.count
          · rw [if_pos h1]
          · rw [if_neg h1]
            by_cases h2 : y.start + j < x.start + x.count + xs.length
            · exfalso
              have a := h.apart hx hy (Ne.symm hk) (y.start + j) ((covers_lent hf _).2 (by omega))
              rw [← Bool.not_eq_true, covers_lent hfy] at a
              omega
            · rw [if_neg h2]
    · cases hu

theorem appP_some {p : Pl} {id : Nat} {xs : List Cx} {u : Pl} (h : appP p id xs = some u) : ∃ x, lentAt p id = some x := by
  unfold appP at h
  cases hl : lentAt p id with
  | none => rw [hl] at h; cases h
  | some x => exact ⟨x, rfl⟩

/-- Leases that are moved to the front. -/
def compL : List Ls → Nat → List Nat → List Ls
  | L, _, [] => L
  | L, e, i :: o => match L[i]? with
    | some x => compL (L.set i ⟨e, x.count, x.room, x.free⟩) (e + x.room) o
    | none => compL L e o

/-- Their samples. -/
def compT (S : List Cx) (L : List Ls) : List Cx → Nat → List Nat → List Cx
  | T, _, [] => T
  | T, e, i :: o => match L[i]? with
    | some x => compT S L (overlay T e ((S.drop x.start).take x.room)) (e + x.room) o
    | none => compT S L T e o

def compP (p : Pl) (o : List Nat) : Pl := (compT p.1 p.2 (List.replicate p.1.length (0, 0)) 0 o, compL p.2 0 o)

theorem compL_length : ∀ (o : List Nat) (L : List Ls) (e : Nat), (compL L e o).length = L.length
  | [], L, e => rfl
  | i :: o, L, e => by
    unfold compL
    cases L[i]? with
    | none => exact compL_length o L e
    | some x => simp only; rw [compL_length o, List.length_set]

theorem compL_not : ∀ (o : List Nat) (L : List Ls) (e i : Nat), i ∉ o → (compL L e o)[i]? = L[i]?
  | [], L, e, i, _ => rfl
  | k :: o, L, e, i, h => by
    have h1 : k ≠ i := fun e => h (by simp [e])
    have h2 : i ∉ o := fun e => h (by simp [e])
    unfold compL
    cases L[k]? with
    | none => exact compL_not o L e i h2
    | some x => simp only; rw [compL_not o _ _ i h2, List.getElem?_set_ne h1]

theorem pickL_cons {L : List Ls} {i : Nat} {x : Ls} (o : List Nat) (h : L[i]? = some x) : pickL L (i :: o) = x :: pickL L o := by
  unfold pickL; rw [List.filterMap_cons, h]
theorem pickL_congr {L M : List Ls} : ∀ (o : List Nat), (∀ i ∈ o, L[i]? = M[i]?) → pickL L o = pickL M o
  | [], _ => rfl
  | i :: o, h => by
    unfold pickL
    have ih := pickL_congr o (fun j hj => h j (List.mem_cons_of_mem _ hj))
    unfold pickL at ih
    rw [List.filterMap_cons, List.filterMap_cons, h i (by simp), ih]

def packX : Nat → List Ls → List Ls
  | _, [] => []
  | e, x :: X => ⟨e, x.count, x.room, x.free⟩ :: packX (e + x.room) X

theorem compL_pick : ∀ (o : List Nat) (L : List Ls) (e : Nat), o.Nodup → (∀ i ∈ o, ∃ x, L[i]? = some x) → pickL (compL L e o) o = packX e (pickL L o)
  | [], L, e, _, _ => rfl
  | i :: o, L, e, hn, h => by
    rw [List.nodup_cons] at hn
    obtain ⟨x, hx⟩ := h i (by simp)
    have hil := (List.getElem?_eq_some_iff.1 hx).1
    have hc : compL L e (i :: o) = compL (L.set i ⟨e, x.count, x.room, x.free⟩) (e + x.room) o := by
      conv => lhs; unfold compL
      rw [hx]
    have hs : ∀ k ∈ o, (L.set i ⟨e, x.count, x.room, x.free⟩)[k]? = L[k]? := fun k hk => List.getElem?_set_ne (by rintro rfl; exact hn.1 hk)
    rw [hc, pickL_cons (x := ⟨e, x.count, x.room, x.free⟩) o (by rw [compL_not o _ _ i hn.1, List.getElem?_set_self hil]), pickL_cons o hx, packX,
      compL_pick o _ _ hn.2 (fun k hk => by rw [hs k hk]; exact h k (List.mem_cons_of_mem _ hk)), pickL_congr o hs]

theorem compL_free : ∀ (o : List Nat) (L : List Ls) (e i : Nat), ((compL L e o)[i]?).map Ls.free = (L[i]?).map Ls.free
  | [], L, e, i => rfl
  | k :: o, L, e, i => by
    unfold compL
    cases hk : L[k]? with
    | none => exact compL_free o L e i
    | some x =>
      simp only
      rw [compL_free o]
      by_cases h : k = i
      · subst h
        rw [List.getElem?_set_self (List.getElem?_eq_some_iff.1 hk).1, hk]; rfl
      · rw [List.getElem?_set_ne h]

theorem lentIds_congr {L M : List Ls} (hl : L.length = M.length) (h : ∀ i : Nat, (L[i]?).map Ls.free = (M[i]?).map Ls.free) : lentIds L = lentIds M := by
  unfold lentIds lentTo
  rw [hl]
  apply List.filter_congr
  intro i _
  have := h i
  cases hL : L[i]? with
  | none =>
    rw [hL] at this
    cases hM : M[i]? with
    | none => rfl
    | some y => rw [hM] at this; cases this
  | some x =>
    rw [hL] at this
    cases hM : M[i]? with
    | none => rw [hM] at this; cases this
    | some y => rw [hM] at this; simp at this; simp [this]

theorem packX_rooms : ∀ (X : List Ls) (e : Nat), roomsOf (packX e X) = roomsOf X
  | [], _ => rfl
  | x :: X, e => by rw [packX, roomsOf, packX_rooms X, roomsOf]

theorem packX_cnt : ∀ (X : List Ls) (e i : Nat), (∀ x ∈ X, x.free = false) → cnt (packX e X) i = if e ≤ i ∧ i < e + roomsOf X then 1 else 0
  | [], e, i, _ => by rw [packX, cnt_nil, if_neg]; simp [roomsOf]
  | x :: X, e, i, h => by
    rw [packX, cnt_cons, packX_cnt X _ i (fun y hy => h y (List.mem_cons_of_mem _ hy)), roomsOf]
    have hf := h x (by simp)
    by_cases h1 : e ≤ i ∧ i < e + x.room
    · rw [(covers_lent (x := ⟨e, x.count, x.room, x.free⟩) hf i).2 h1, if_neg (by omega), if_pos (by omega)]; rfl
    · rw [show covers ⟨e, x.count, x.room, x.free⟩ i = false by rw [← Bool.not_eq_true, covers_lent (x := ⟨e, x.count, x.room, x.free⟩) hf]; exact h1]
      by_cases h2 : e + x.room ≤ i ∧ i < e + x.room + roomsOf X
      · rw [if_pos h2, if_pos (by omega)]; rfl
      · rw [if_neg h2, if_neg (by omega)]; rfl

theorem packX_mem : ∀ (X : List Ls) (e : Nat) (y : Ls), y ∈ packX e X → ∃ x ∈ X, y.count = x.count ∧ y.room = x.room ∧ y.free = x.free ∧ y.start + y.room ≤ e + roomsOf X
  | [], e, y, h => by cases h
  | x :: X, e, y, h => by
    rw [packX, List.mem_cons] at h
    rcases h with rfl | h
    · exact ⟨x, by simp, rfl, rfl, rfl, by rw [roomsOf]; simp only; omega⟩
    · obtain ⟨z, hz, a, b, c, d⟩ := packX_mem X _ y h
      exact ⟨z, List.mem_cons_of_mem _ hz, a, b, c, by rw [roomsOf]; omega⟩

theorem compP_ord {p : Pl} {o : List Nat} (ho : IsOrd p.2 o) : o.Perm (lentIds (compL p.2 0 o)) := by
  rw [lentIds_congr (compL_length o p.2 0) (compL_free o p.2 0)]
  exact ho.perm

theorem compP_cnt {p : Pl} {o : List Nat} (h : VP p) (ho : IsOrd p.2 o) (i : Nat) : cnt (compP p o).2 i = if i < roomsOf p.2 then 1 else 0 := by
  show cnt (compL p.2 0 o) i = _
  have hp : (pickL (compL p.2 0 o) o).Perm (pickL (compL p.2 0 o) (lentIds (compL p.2 0 o))) := (compP_ord ho).filterMap _
  rw [← cnt_lentL, ← pick_lentIds, ← cnt_perm hp]
  rw [compL_pick o p.2 0 ho.nodup (fun i hi => (ho.mem.1 hi).elim fun x hx => ⟨x, hx.1⟩), packX_cnt _ _ _ (fun x hx => by
    have := ho.pick.mem_iff.1 hx
    unfold lentL at this
    rw [List.mem_filter] at this
    simpa using this.2), h.rooms ho]
  simp

theorem compT_length : ∀ (o : List Nat) (S : List Cx) (L : List Ls) (T : List Cx) (e : Nat), (∀ x ∈ pickL L o, x.start + x.room ≤ S.length) → e + roomsOf (pickL L o) ≤ T.length → (compT S L T e o).length = T.length
  | [], S, L, T, e, _, _ => rfl
  | i :: o, S, L, T, e, h, he => by
    unfold compT
    cases hx : L[i]? with
    | none =>
      simp only
      have hp : pickL L (i :: o) = pickL L o := by unfold pickL; rw [List.filterMap_cons, hx]
      rw [hp] at h he
      exact compT_length o S L T e h he
    | some x =>
      simp only
      rw [pickL_cons o hx] at h he
      rw [roomsOf] at he
      have hl := part_length (h x (by simp))
      have ho : (overlay T e ((S.drop x.start).take x.room)).length = T.length := overlay_length (by omega)
      rw [compT_length o S L _ _ (fun y hy => h y (List.mem_cons_of_mem _ hy)) (by rw [ho]; omega), ho]

/-- What stands ahead of e stays. -/
theorem compT_before : ∀ (o : List Nat) (S : List Cx) (L : List Ls) (T : List Cx) (e : Nat), (∀ x ∈ pickL L o, x.start + x.room ≤ S.length) → e + roomsOf (pickL L o) ≤ T.length → ∀ j, j < e → (compT S L T e o)[j]? = T[j]?
  | [], S, L, T, e, _, _, j, _ => rfl
  | i :: o, S, L, T, e, h, he, j, hj => by
    unfold compT
    cases hx : L[i]? with
    | none =>
      simp only
      have hp : pickL L (i :: o) = pickL L o := by unfold pickL; rw [List.filterMap_cons, hx]
      rw [hp] at h he
      exact compT_before o S L T e h he j hj
    | some x =>
      simp only
      rw [pickL_cons o hx] at h he
      rw [roomsOf] at he
      have hl := part_length (h x (by simp))
      have ho : (overlay T e ((S.drop x.start).take x.room)).length = T.length := overlay_length (by omega)
      rw [compT_before o S L _ _ (fun y hy => h y (List.mem_cons_of_mem _ hy)) (by rw [ho]; omega) j (by omega), overlay_get (by omega), if_pos hj]

/-- Where a lease comes to stand, and what stands there. -/
theorem comp_at : ∀ (o : List Nat) (S : List Cx) (L M : List Ls) (T : List Cx) (e : Nat), o.Nodup → (∀ i ∈ o, M[i]? = L[i]?) → (∀ x ∈ pickL L o, x.start + x.room ≤ S.length) → e + roomsOf (pickL L o) ≤ T.length →
    ∀ i x, i ∈ o → L[i]? = some x → ∃ s, (compL M e o)[i]? = some ⟨s, x.count, x.room, x.free⟩ ∧ ∀ j, j < x.room → (compT S L T e o)[s + j]? = S[x.start + j]?
  | [], S, L, M, T, e, _, _, _, _, i, x, h, _ => by cases h
  | k :: o, S, L, M, T, e, hn, hM, h, he, i, x, hi, hx => by
    rw [List.nodup_cons] at hn
    cases hk : L[k]? with
    | none =>
      have hMk : M[k]? = none := by rw [hM k (by simp)]; exact hk
      have hp : pickL L (k :: o) = pickL L o := by unfold pickL; rw [List.filterMap_cons, hk]
      rw [hp] at h he
      have hio : i ∈ o := by
        rcases List.mem_cons.1 hi with e | e
        · rw [e, hk] at hx; cases hx
        · exact e
      unfold compL compT
      rw [hk, hMk]
      exact comp_at o S L M T e hn.2 (fun j hj => hM j (List.mem_cons_of_mem _ hj)) h he i x hio hx
    | some y =>
      have hMk : M[k]? = some y := by rw [hM k (by simp)]; exact hk
      rw [pickL_cons o hk] at h he
      rw [roomsOf] at he
      have hl := part_length (h y (by simp))
      have ho : (overlay T e ((S.drop y.start).take y.room)).length = T.length := overlay_length (by omega)
      unfold compL compT
      rw [hk, hMk]
      simp only
      by_cases hik : i = k
      · subst hik
        rw [hk] at hx
        injection hx with hx
        subst hx
        refine ⟨e, by rw [compL_not o _ _ i hn.1, List.getElem?_set_self (List.getElem?_eq_some_iff.1 hMk).1], fun j hj => ?_⟩
        rw [compT_before o S L _ _ (fun z hz => h z (List.mem_cons_of_mem _ hz)) (by rw [ho]; omega) _ (by omega), overlay_get (by omega), if_neg (by omega), if_pos (by omega), part_get, if_pos (by omega)]
        congr 1; omega
      · have hio : i ∈ o := by
          rcases List.mem_cons.1 hi with e | e
          · exact absurd e hik
          · exact e
        exact comp_at o S L _ _ _ hn.2 (fun j hj => by
          rw [List.getElem?_set_ne (by rintro rfl; exact hn.1 hj)]
          exact hM j (List.mem_cons_of_mem _ hj)) (fun z hz => h z (List.mem_cons_of_mem _ hz)) (by rw [ho]; omega) i x hio hx

theorem comp_fits {p : Pl} {o : List Nat} (h : VP p) (ho : IsOrd p.2 o) : (∀ x ∈ pickL p.2 o, x.start + x.room ≤ p.1.length) ∧ 0 + roomsOf (pickL p.2 o) ≤ (List.replicate p.1.length ((0, 0) : Cx)).length ∧ roomsOf p.2 ≤ p.1.length := by
  have e := gaps_sum (h.asc ho)
  have hr := h.rooms ho
  refine ⟨fun x hx => ?_, by simp; omega, by omega⟩
  have := ho.pick.mem_iff.1 hx
  unfold lentL at this
  rw [List.mem_filter] at this
  exact ((h.ok x this.1).lent (by simpa using this.2)).2.2

theorem compP_sizes {p : Pl} {o : List Nat} (h : VP p) (ho : IsOrd p.2 o) : (compP p o).1.length = p.1.length ∧ (compP p o).2.length = p.2.length := by
  obtain ⟨f1, f2, f3⟩ := comp_fits h ho
  exact ⟨by show (compT _ _ _ _ _).length = _; rw [compT_length o _ _ _ _ f1 f2]; simp, compL_length ..⟩

theorem VP.comp {p : Pl} {o : List Nat} (h : VP p) (ho : IsOrd p.2 o) : VP (compP p o) := by
  obtain ⟨f1, f2, f3⟩ := comp_fits h ho
  obtain ⟨s1, s2⟩ := compP_sizes h ho
  refine ⟨by rw [s1]; exact h.size, by rw [s2]; exact h.most, fun x hx => ?_, fun i => by rw [compP_cnt h ho]; split <;> omega⟩
  rw [s1]
  obtain ⟨i, hi⟩ := List.mem_iff_getElem?.1 hx
  by_cases hio : i ∈ o
  · have hm : x ∈ pickL (compL p.2 0 o) o := List.mem_filterMap.2 ⟨i, hio, hi⟩
    rw [compL_pick o p.2 0 ho.nodup (fun i hi => (ho.mem.1 hi).elim fun x hx => ⟨x, hx.1⟩)] at hm
    obtain ⟨y, hy, a, b, c, d⟩ := packX_mem _ _ _ hm
    have hy2 := ho.pick.mem_iff.1 hy
    unfold lentL at hy2
    rw [List.mem_filter] at hy2
    have hyf : y.free = false := by simpa using hy2.2
    obtain ⟨q1, q2, q3⟩ := (h.ok y hy2.1).lent hyf
    rw [h.rooms ho] at d
    exact ⟨fun hf => (by rw [c, hyf] at hf; cases hf), fun _ => ⟨by omega, by omega, by omega⟩⟩
  · have : p.2[i]? = some x := by rw [← compL_not o p.2 0 i hio]; exact hi
    exact h.ok x (List.mem_of_getElem? this)

/-- All windows are kept. -/
theorem compP_win {p : Pl} {o : List Nat} (h : VP p) (ho : IsOrd p.2 o) (k : Nat) : winP (compP p o) k = winP p k := by
  obtain ⟨f1, f2, f3⟩ := comp_fits h ho
  unfold winP
  cases hl : lentAt p k with
  | some x =>
    obtain ⟨hx, hf⟩ := lentAt_some hl
    obtain ⟨q1, q2, q3⟩ := (h.ok x (List.mem_of_getElem? hx)).lent hf
    obtain ⟨s, a, b⟩ := comp_at o p.1 p.2 p.2 (List.replicate p.1.length (0, 0)) 0 ho.nodup (fun _ _ => rfl) f1 f2 k x (ho.mem.2 ⟨x, hx, hf⟩) hx
    rw [lentAt_eq (p := compP p o) (x := ⟨s, x.count, x.room, x.free⟩) a hf]
    simp only [Option.map_some, Option.some.injEq]
    exact part_eq fun j hj => b j (by omega)
  | none =>
    have : lentAt (compP p o) k = none := by
      have e := compL_free o p.2 0 k
      unfold lentAt at hl ⊢
      show ((compL p.2 0 o)[k]?).bind _ = none
      cases hx : (compL p.2 0 o)[k]? with
      | none => rfl
      | some y =>
        rw [hx] at e
        cases hz : p.2[k]? with
        | none => rw [hz] at e; cases e
        | some z =>
          rw [hz] at e hl
          simp at e hl
          simp [e, hl]
    rw [this]
    rfl

/-- In a compact pool all free samples stand in one gap. -/
theorem compP_gaps {p : Pl} {o o' : List Nat} (h : VP p) (ho : IsOrd p.2 o) (ho' : IsOrd (compP p o).2 o') :
    maxG (gapsX 0 (pickL (compP p o).2 o') (compP p o).1.length) = sumG (gapsX 0 (pickL (compP p o).2 o') (compP p o).1.length) ∧
      sumG (gapsX 0 (pickL (compP p o).2 o') (compP p o).1.length) = sumG (gapsX 0 (pickL p.2 o) p.1.length) := by
  have hq := h.comp ho
  have hR := gaps_full (R := roomsOf p.2) (hq.asc ho') (fun i _ => by rw [pick_cnt ho', compP_cnt h ho]; split <;> omega)
  have h1 := gaps_sum (h.asc ho)
  have h2 := gaps_sum (hq.asc ho')
  rw [hq.rooms ho', (compP_sizes h ho).1] at h2
  rw [h.rooms ho] at h1
  have hp : (pickL (compP p o).2 o').Perm (pickL (compL p.2 0 o) o) := (ho'.perm.trans (compP_ord ho).symm).filterMap _
  have h3 : roomsOf (compP p o).2 = roomsOf p.2 := by
    rw [← hq.rooms ho', roomsOf_perm hp, compL_pick o p.2 0 ho.nodup (fun i hi => (ho.mem.1 hi).elim fun x hx => ⟨x, hx.1⟩), packX_rooms, h.rooms ho]
  have := (comp_fits h ho).2.2
  rw [(compP_sizes h ho).1] at hR ⊢
  exact ⟨hR, by omega⟩
end Go.Proofs.Ytfafkdpefdpnkaa
