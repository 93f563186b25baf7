/- Pools, plain mathematics: lent again, cut, exhausted, appended one by one. The program's pools: where there is room, and how much is free. The program's pools: LendRoom. -/
import Derived.Test.YtfafkdpefdpnkaaJq38
import Derived.Test.YtfafkdpefdpnkaaJq48
import Derived.Test.YtfafkdpefdpnkaaJq47
import Derived.Lib.SliceRun
namespace Go.Proofs.Ytfafkdpefdpnkaa
section
open Go.RowKit

theorem run_ge {Y : List Ls} {s : Nat} : ∀ d, (∀ j, s ≤ j → j < s + d → cnt Y j = 0) → d ≤ runTo Y (s + d)
  | 0, _ => Nat.zero_le _
  | d + 1, h => by
    have ih := run_ge d (fun j a b => h j a (by omega))
    rw [← Nat.add_assoc, runTo, if_neg (by rw [h (s + d) (by omega) (by omega)]; omega)]
    omega

theorem run_hits {Y : List Ls} {room : Nat} (hr : 1 ≤ room) : ∀ i, room ≤ runTo Y i → ∃ j, j < i ∧ runTo Y (j + 1) = room
  | 0, h => by rw [runTo] at h; omega
  | i + 1, h => by
    by_cases e : runTo Y (i + 1) = room
    · exact ⟨i, by omega, e⟩
    · rw [runTo] at h e
      by_cases hc : 0 < cnt Y i
      · rw [if_pos hc] at h; omega
      · rw [if_neg hc] at h e
        obtain ⟨j, h1, h2⟩ := run_hits (Y := Y) hr i (by omega)
        exact ⟨j, by omega, h2⟩

theorem roomAt_some {p : Pl} {room s : Nat} (hr : 1 ≤ room) (hs : s + room ≤ p.1.length) (hf : ∀ j, s ≤ j → j < s + room → cnt p.2 j = 0) : ∃ i, roomAt p room = some i := by
  obtain ⟨j, h1, h2⟩ := run_hits hr (s + room) (run_ge room hf)
  cases h : roomAt p room with
  | some i => exact ⟨i, rfl⟩
  | none =>
    unfold roomAt at h
    rw [List.find?_eq_none] at h
    have := h j (List.mem_range.2 (by omega))
    simp [h2] at this

theorem roomAt_run {p : Pl} {room i : Nat} (h : roomAt p room = some i) : i < p.1.length ∧ runTo p.2 (i + 1) = room :=
  ⟨List.mem_range.1 (List.mem_of_find?_eq_some h), by simpa using List.find?_some h⟩

/-- The longest run of free samples. -/
def bestR (L : List Ls) : Nat → Nat
  | 0 => 0
  | i + 1 => max (bestR L i) (runTo L (i + 1))
/-- How many samples are free. -/
def freeR (L : List Ls) : Nat → Nat
  | 0 => 0
  | i + 1 => freeR L i + (if 0 < cnt L i then 0 else 1)

theorem bestR_ge (L : List Ls) : ∀ n i, i < n → runTo L (i + 1) ≤ bestR L n
  | 0, i, h => by omega
  | n + 1, i, h => by
    rw [bestR]
    by_cases e : i = n
    · rw [e]; exact Nat.le_max_right _ _
    · exact Nat.le_trans (bestR_ge L n i (by omega)) (Nat.le_max_left _ _)

theorem lendP_best {p q : Pl} {room id : Nat} (h : lendP p room = some (q, id)) : room ≤ bestR p.2 p.1.length := by
  unfold lendP at h
  cases hl : roomAt p room with
  | none => rw [hl] at h; cases h
  | some i =>
    obtain ⟨h1, h2⟩ := roomAt_run hl
    rw [← h2]
    exact bestR_ge _ _ _ h1

theorem putL_again {L L' : List Ls} {x y : Ls} {id : Nat} (h : putL L x = some (L', id)) : id < L'.length ∧ ∃ M, putL (L'.set id freeL) y = some (M, id) := by
  have hi := (putL_some h).2.2.2.2.2
  have hil := (List.getElem?_eq_some_iff.1 hi).1
  refine ⟨hil, (L'.set id freeL).set id y, ?_⟩
  unfold putL at h ⊢
  have key : (L'.set id freeL).findIdx? (·.free) = some id := by
    rw [List.findIdx?_eq_some_iff_getElem]
    refine ⟨by rw [List.length_set]; exact hil, by rw [List.getElem_set_self]; rfl, fun j hj => ?_⟩
    rw [List.getElem_set_ne (by omega)]
    cases hf : L.findIdx? (·.free) with
    | some k =>
      rw [hf] at h
      simp only [Option.some.injEq, Prod.mk.injEq] at h
      obtain ⟨rfl, rfl⟩ := h
      obtain ⟨g1, g2, g3⟩ := List.findIdx?_eq_some_iff_getElem.1 hf
      rw [List.getElem_set_ne (by omega)]
      exact g3 j hj
    | none =>
      rw [hf] at h
      simp only at h
      split at h
      · simp only [Option.some.injEq, Prod.mk.injEq] at h
        obtain ⟨rfl, rfl⟩ := h
        rw [List.getElem_append_left (by omega)]
        have := List.findIdx?_eq_none_iff.1 hf L[j] (List.getElem_mem _)
        simpa using this
      · cases h
  rw [key]

/-- What is lent, is given back, and is lent again. -/
theorem VP.lend_again {p q : Pl} {room id : Nat} (h : VP p) (hr : 1 ≤ room) (hq : lendP p room = some (q, id)) :
    winP q id = some [] ∧ ∃ b, giveP q id = some b ∧ ∃ a, lendP b room = some (a, id) := by
  have hvq := (h.lend hr hq).1
  have hql := (h.lend hr hq).2.1
  unfold lendP at hq
  cases hl : roomAt p room with
  | none => rw [hl] at hq; cases hq
  | some i =>
    rw [hl] at hq
    simp only [Option.bind_some] at hq
    obtain ⟨hi1, hi2⟩ := roomAt_run hl
    have hi3 := runTo_le p.2 (i + 1)
    cases hp : putL p.2 ⟨i + 1 - room, 0, room, false⟩ with
    | none => rw [hp] at hq; cases hq
    | some L' =>
      obtain ⟨L', id'⟩ := L'
      rw [hp] at hq
      simp only [Option.map_some, Option.some.injEq, Prod.mk.injEq] at hq
      obtain ⟨hq1, hq2⟩ := hq
      subst hq2
      have hid : q.2[id']? = some ⟨i + 1 - room, 0, room, false⟩ := by rw [← hq1]; exact (putL_some hp).2.2.2.2.2
      have hlt := lentAt_eq hid rfl
      refine ⟨by unfold winP; rw [hlt]; simp, (q.1, q.2.set id' freeL), by unfold giveP; rw [hlt]; rfl, ?_⟩
      have hfree : ∀ j, i + 1 - room ≤ j → j < i + 1 - room + room → cnt (q.2.set id' freeL) j = 0 := by
        intro j a b
        have e := cnt_set q.2 id' _ freeL j hid
        rw [(covers_lent (x := ⟨i + 1 - room, 0, room, false⟩) rfl j).2 ⟨a, b⟩, covers_free (x := freeL) rfl] at e
        have := hvq.one j
        simp at e
        omega
      obtain ⟨i2, hi⟩ := roomAt_some (p := (q.1, q.2.set id' freeL)) hr (s := i + 1 - room) (by show _ ≤ q.1.length; omega) hfree
      have hL : q.2 = L' := by rw [← hq1]
      obtain ⟨g1, M, hM⟩ := putL_again (y := ⟨i2 + 1 - room, 0, room, false⟩) hp
      rw [← hL] at hM
      unfold lendP
      rw [hi]
      simp only [Option.bind_some, hM, Option.map_some]
      exact ⟨_, rfl⟩

/-- What a lease saw that is cut, both see. -/
theorem cutP_win {p q : Pl} {k at' r : Nat} (hq : cutP p k at' = some (q, r)) : r ≠ k ∧ ∃ a b, winP q k = some a ∧ winP q r = some b ∧ winP p k = some (a ++ b) := by
  unfold cutP at hq
  cases hl : lentAt p k with
  | none => rw [hl] at hq; cases hq
  | some x =>
    rw [hl] at hq
    simp only [Option.bind_some] at hq
    split at hq
    · rename_i hc
      obtain ⟨hx, hf⟩ := lentAt_some hl
      have hk := (List.getElem?_eq_some_iff.1 hx).1
      have hm := hc.2
      rw [Nat.min_def] at hm
      cases hp : putL (p.2.set k ⟨x.start, at', at', false⟩) ⟨x.start + at', x.count - at', x.room - at', false⟩ with
      | none => rw [hp] at hq; cases hq
      | some L' =>
        obtain ⟨L', r'⟩ := L'
        rw [hp] at hq
        simp only [Option.map_some, Option.some.injEq, Prod.mk.injEq] at hq
        obtain ⟨rfl, rfl⟩ := hq
        have hr := (putL_some hp).2.2.2.2.2
        have hrk : r' ≠ k ∧ L'[k]? = some ⟨x.start, at', at', false⟩ := by
          unfold putL at hp
          cases hfi : (p.2.set k ⟨x.start, at', at', false⟩).findIdx? (·.free) with
          | some j =>
            rw [hfi] at hp
            simp only [Option.some.injEq, Prod.mk.injEq] at hp
            obtain ⟨rfl, rfl⟩ := hp
            obtain ⟨g1, g2, g3⟩ := List.findIdx?_eq_some_iff_getElem.1 hfi
            have hne : j ≠ k := by
              rintro rfl
              rw [List.getElem_set_self] at g2
              cases g2
            exact ⟨hne, by rw [List.getElem?_set_ne hne, List.getElem?_set_self hk]⟩
          | none =>
            rw [hfi] at hp
            simp only at hp
            split at hp
            · simp only [Option.some.injEq, Prod.mk.injEq] at hp
              obtain ⟨rfl, rfl⟩ := hp
              refine ⟨by rw [List.length_set]; omega, ?_⟩
              rw [List.getElem?_append_left (by rw [List.length_set]; exact hk), List.getElem?_set_self hk]
            · cases hp
        refine ⟨hrk.1, (p.1.drop x.start).take at', (p.1.drop (x.start + at')).take (x.count - at'), ?_, ?_, ?_⟩
        · unfold winP; rw [lentAt_eq (p := (p.1, L')) hrk.2 rfl]; rfl
        · unfold winP; rw [lentAt_eq (p := (p.1, L')) hr rfl]; rfl
        · unfold winP
          rw [hl, Option.map_some, Option.some.injEq]
          have e : x.count = at' + (x.count - at') := by split at hm <;> omega
          conv => lhs; rw [e]
          rw [List.take_add, List.drop_drop]
    · cases hq

/-- How many leases are lent. -/
def live (L : List Ls) : Nat := L.countP (!·.free)

theorem live_le (L : List Ls) : live L ≤ L.length := List.countP_le_length

theorem live_set : ∀ (L : List Ls) (id : Nat) (old x : Ls), L[id]? = some old → live (L.set id x) + (!old.free).toNat = live L + (!x.free).toNat
  | [], id, old, x, h => by simp at h
  | y :: L, 0, old, x, h => by
    simp at h; subst h
    unfold live
    rw [List.set_cons_zero, List.countP_cons, List.countP_cons]
    cases y.free <;> cases x.free <;> simp
  | y :: L, id + 1, old, x, h => by
    simp at h
    have := live_set L id old x h
    unfold live at this ⊢
    rw [List.set_cons_succ, List.countP_cons, List.countP_cons]; omega

theorem putL_live {L L' : List Ls} {x : Ls} {id : Nat} (h : putL L x = some (L', id)) (hx : x.free = false) : live L' = live L + 1 := by
  unfold putL at h
  cases hf : L.findIdx? (·.free) with
  | some i =>
    rw [hf] at h
    simp only [Option.some.injEq, Prod.mk.injEq] at h
    obtain ⟨rfl, rfl⟩ := h
    obtain ⟨hi, hp, _⟩ := List.findIdx?_eq_some_iff_getElem.1 hf
    have := live_set L i L[i] x (List.getElem?_eq_getElem hi)
    rw [hp, hx] at this
    simpa using this
  | none =>
    rw [hf] at h
    simp only at h
    split at h
    · simp only [Option.some.injEq, Prod.mk.injEq] at h
      obtain ⟨rfl, rfl⟩ := h
      unfold live
      rw [List.countP_append, List.countP_singleton, hx]; simp
    · cases h

theorem putL_none {L : List Ls} {x : Ls} (h : putL L x = none) : 16 ≤ live L := by
  unfold putL at h
  cases hf : L.findIdx? (·.free) with
  | some i => rw [hf] at h; cases h
  | none =>
    rw [hf] at h
    simp only at h
    split at h
    · cases h
    · have : live L = L.length := by
        unfold live
        rw [List.countP_eq_length]
        intro y hy
        have := List.findIdx?_eq_none_iff.1 hf y hy
        simpa using this
      omega

theorem lendP_live {p q : Pl} {room id : Nat} (h : lendP p room = some (q, id)) : live q.2 = live p.2 + 1 := by
  unfold lendP at h
  cases hl : roomAt p room with
  | none => rw [hl] at h; cases h
  | some i =>
    rw [hl] at h
    simp only [Option.bind_some] at h
    cases hp : putL p.2 ⟨i + 1 - room, 0, room, false⟩ with
    | none => rw [hp] at h; cases h
    | some L' =>
      rw [hp] at h
      simp only [Option.map_some, Option.some.injEq, Prod.mk.injEq] at h
      obtain ⟨rfl, rfl⟩ := h
      exact putL_live hp rfl

/-- Where nothing is lent, there is no room, or no lease. -/
theorem VP.lend_none {p : Pl} {o : List Nat} (h : VP p) (ho : IsOrd p.2 o) {room : Nat} (hr : 1 ≤ room) (hn : lendP p room = none) : maxG (gapsX 0 (pickL p.2 o) p.1.length) < room ∨ 16 ≤ live p.2 := by
  rw [h.lend_eq ho hr] at hn
  cases hf : findG (gapsX 0 (pickL p.2 o) p.1.length) room with
  | none =>
    have := findG_max (gapsX 0 (pickL p.2 o) p.1.length) room hr
    rw [hf] at this
    left
    simpa using this.symm
  | some s =>
    rw [hf] at hn
    simp only [Option.bind_some, Option.map_eq_none_iff] at hn
    exact .inr (putL_none hn)

/-- Samples appended one by one. -/
theorem appP_cons {p : Pl} {id : Nat} {z : Cx} {xs : List Cx} (h : VP p) {u : Pl} (hu : appP p id (z :: xs) = some u) : ∃ m, appP p id [z] = some m ∧ appP m id xs = some u := by
  unfold appP at hu
  cases hl : lentAt p id with
  | none => rw [hl] at hu; cases hu
  | some x =>
    rw [hl] at hu
    simp only [Option.bind_some] at hu
    split at hu
    · rename_i hc
      injection hu with hu
      subst hu
      obtain ⟨hx, hf⟩ := lentAt_some hl
      obtain ⟨o1, o2, o3⟩ := (h.ok x (List.mem_of_getElem? hx)).lent hf
      have hid := (List.getElem?_eq_some_iff.1 hx).1
      simp only [List.length_cons] at hc
      refine ⟨(overlay p.1 (x.start + x.count) [z], p.2.set id ⟨x.start, x.count + 1, x.room, false⟩), ?_, ?_⟩
      · unfold appP; rw [hl]; simp only [Option.bind_some, List.length_singleton]; rw [if_pos (by omega)]
      · unfold appP
        rw [lentAt_eq (p := (overlay p.1 (x.start + x.count) [z], p.2.set id ⟨x.start, x.count + 1, x.room, false⟩)) (x := ⟨x.start, x.count + 1, x.room, false⟩) (by rw [List.getElem?_set_self hid]) rfl]
        simp only [Option.bind_some]
        rw [if_pos (by omega), List.set_set]
        have e1 : x.count + 1 + xs.length = x.count + (z :: xs).length := by simp; omega
        have ol : (overlay p.1 (x.start + x.count) [z]).length = p.1.length := overlay_length (by simp; omega)
        rw [e1]
        have e2 : overlay (overlay p.1 (x.start + x.count) [z]) (x.start + (x.count + 1)) xs = overlay p.1 (x.start + x.count) (z :: xs) := by
          apply List.ext_getElem?
          intro j
          rw [overlay_get (by omega), overlay_get (by simp; omega), overlay_get (by simp; omega)]
          simp only [List.length_cons, List.length_nil]
          by_cases a : j < x.start + x.count
          · rw [if_pos (by omega), if_pos a, if_pos a]
          · rw [if_neg a, if_neg a]
            by_cases b : j = x.start + x.count
            · subst b
              rw [if_pos (by omega), if_pos (by omega), if_pos (by omega)]
              simp
            · rw [if_neg (by omega)]
              by_cases c : j < x.start + x.count + (xs.length + 1)
              · rw [if_pos (by omega), if_pos c, show j - (x.start + x.count) = (j - (x.start + (x.count + 1))) + 1 by omega, List.getElem?_cons_succ]
              · rw [if_neg (by omega), if_neg (by omega), if_neg c]
        rw [e2]
    · cases hu
end
section
open Go.RowKit

/-- A place is found, or none. -/
def PlaceS (p : Pl) (room : Nat) (w : World) (e : Ending) (w' : World) : Prop :=
  ∃ o r, IsOrd p.2 o ∧ r = findG (gapsX 0 (pickL p.2 o) p.1.length) room ∧ e = .returned (.tuple #[.int .i64 ((r.getD 0 : Nat) : Int), .bool r.isSome]) ∧ Span 0 0 w w'

theorem sumG_take (G : List (Nat × Nat)) (k : Nat) : sumG (G.take k) ≤ sumG G := by
  have := sumG_append (G.take k) (G.drop k)
  rw [List.take_append_drop] at this
  omega
theorem sumG_snoc {G : List (Nat × Nat)} {k : Nat} {g : Nat × Nat} (h : G[k]? = some g) : sumG (G.take (k + 1)) = sumG (G.take k) + g.2 := by
  rw [take_snoc_of h, sumG_append]; simp [sumG]
theorem maxG_snoc {G : List (Nat × Nat)} {k : Nat} {g : Nat × Nat} (h : G[k]? = some g) : maxG (G.take (k + 1)) = max (maxG (G.take k)) g.2 := by
  rw [take_snoc_of h, maxG_append]; simp [maxG]

/-- How much is free. -/
def FreeS (p : Pl) (w : World) (e : Ending) (w' : World) : Prop :=
  ∃ o, IsOrd p.2 o ∧ e = .returned (.tuple #[.int .i64 (sumG (gapsX 0 (pickL p.2 o) p.1.length) : Int), .int .i64 (maxG (gapsX 0 (pickL p.2 o) p.1.length) : Int)]) ∧ Span 0 0 w w'
end
section
open Go.RowKit

theorem overlay_cons {S : List Cx} {i : Nat} {x : Cx} {xs : List Cx} (h : i + (xs.length + 1) ≤ S.length) : overlay (S.set i x) (i + 1) xs = overlay S i (x :: xs) := by
  apply List.ext_getElem?
  intro j
  rw [overlay_get (by simp; omega), overlay_get (by simp; omega)]
  simp only [List.length_cons]
  by_cases h1 : j < i
  · rw [if_pos (by omega), if_pos h1, List.getElem?_set_ne (by omega)]
  · rw [if_neg h1]
    by_cases h2 : j = i
    · subst h2
      rw [if_pos (by omega), if_pos (by omega), List.getElem?_set_self (by omega)]
      simp
    · rw [if_neg (by omega)]
      by_cases h3 : j < i + (xs.length + 1)
      · rw [if_pos (by omega), if_pos h3, show j - i = (j - (i + 1)) + 1 by omega, List.getElem?_cons_succ]
      · rw [if_neg (by omega), if_neg h3, List.getElem?_set_ne (by omega)]

theorem overlay_nil (S : List Cx) (i : Nat) : overlay S i [] = S := by unfold overlay; simp

theorem Own.setSs {R T B : Nat} {w : World} {L : List Ls} {g q : Nat} {A' : Option Addr} {q' : Nat} (hR : R < B) (hw : w.heap.size ≤ B) : ∀ (xs : List Cx) (S : List Cx) (i : Nat) (wr : World), Own R T B w S L (some ⟨g, 0, none⟩) q A' q' wr → i + xs.length ≤ S.length →
    Own R T B w (overlay S i xs) L (some ⟨g, 0, none⟩) q A' q' (wr.setCells g i (xs.map cxV))
  | [], S, i, wr, h, _ => by rw [overlay_nil]; exact h
  | x :: xs, S, i, wr, h, hl => by
    have h1 := h.setS hR hw i x
    have := Own.setSs hR hw xs (S.set i x) (i + 1) _ h1 (by rw [List.length_set]; simp at hl; omega)
    rw [overlay_cons (by simpa using hl)] at this
    exact this

theorem Own.cellS {R T B : Nat} {w : World} {S : List Cx} {L : List Ls} {g q : Nat} {A' : Option Addr} {q' : Nat} {wr : World} (h : Own R T B w S L (some ⟨g, 0, none⟩) q A' q' wr) {j : Nat} (hj : j < S.length) : (wr.cell? ⟨g, j, none⟩).isSome = true := by
  obtain ⟨b, hb, _, _⟩ := ownsRow_hasS h.hs
  obtain ⟨A, c, e, _, hc⟩ := hb
  injection e with e1 e2 e3
  obtain ⟨off, e4, _, _, _, h4, _⟩ := hc (by omega)
  rw [← e1] at e4
  injection e4 with e4
  injection e4 with e4 e5
  subst e4 e5
  have := h4 j _ (List.getElem?_eq_getElem hj)
  rw [Nat.zero_add] at this
  rw [this]; rfl
end
end Go.Proofs.Ytfafkdpefdpnkaa
