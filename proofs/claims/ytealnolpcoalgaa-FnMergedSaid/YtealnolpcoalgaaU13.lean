/- The program's PutPoint, of finite points. An element is taken out of a slice that the call owns. The program's DropPoint. What the nearest point is. -/
import Derived.Test.YtealnolpcoalgaaU9
import Derived.Deep.AppendLies
import Derived.Test.YtealnolpcoalgaaSh3
namespace Go.Proofs.Ytealnolpcoalgaa
section
open Go.RowKit

end
section
open Go.RowKit Go.Sort

theorem ownsRow_holds {α : Type} [Inhabited α] {val : α → Value} {w : World} {B g cap : Nat} {e : TypeId} {xs : List α} (h : w.ownsRow B e 1 (.slice (some ⟨g, 0, none⟩) xs.length cap) xs.length (xs.map val)) : Holds val w g 0 xs.toArray := by
  intro j hj
  have hj' : j < xs.length := by simpa using hj
  refine ⟨?_, h.frozenAt _⟩
  rw [Nat.zero_add, h.cellAt j (by omega), List.getElem?_map, List.getElem?_eq_getElem hj']
  simp [hj']

/-- The row without its element i, and a zero behind it. -/
def cutRow {α : Type} (xs : List α) (i : Nat) (zr : α) : Array α := (xs.take i ++ xs.drop (i + 1) ++ List.replicate 1 zr).toArray

theorem cutRow_size {α : Type} {xs : List α} {i : Nat} (zr : α) (hi : i < xs.length) : (cutRow xs i zr).size = xs.length := by
  simp [cutRow]; omega

theorem span_putRow {α : Type} [Inhabited α] {val : α → Value} (w : World) (g off q : Nat) (D : Array α) : Span g (g + 1) w (putRow val (Sort.ahead w q) g off D) := by
  refine ⟨rfl, rfl, rfl, by simp, fun k _ hk => ?_⟩
  unfold putRow mapBlock
  simp only [heap_ahead, Array.getElem?_modify]
  rw [if_neg (by omega)]

theorem del_row {α : Type} [Inhabited α] {val : α → Value} {w : World} {B g cap : Nat} {e : TypeId} {xs : List α} (h : w.ownsRow B e 1 (.slice (some ⟨g, 0, none⟩) xs.length cap) xs.length (xs.map val)) {i : Nat} (hi : i < xs.length) (q : Nat) (zr : α) :
    HasS val true g g (g + 1) (putRow val (Sort.ahead w q) g 0 (cutRow xs i zr)) (.slice (some ⟨g, 0, none⟩) (xs.length - 1) cap) (xs.eraseIdx i) := by
  have hl : (xs.eraseIdx i).length = xs.length - 1 := List.length_eraseIdx_of_lt hi
  have hg := (h.lt g rfl).2
  have hcap : xs.length ≤ cap := by
    rcases h.2 with ⟨e, _⟩ | ⟨g', cap', cur, e, _, _, hc, _⟩
    · cases e
    · injection e with _ _ e3; omega
  have hH := holds_putRow val (Sort.ahead w q) g 0 xs.toArray (cutRow xs i zr) (holds_ahead val w q g 0 _ (ownsRow_holds h)) (by rw [cutRow_size zr hi]; simp)
  refine ⟨_, cap, by rw [hl], by omega, fun _ => ⟨0, rfl, Nat.le_refl _, Nat.lt_succ_self _, by simpa using hg, fun j x hj => ?_, fun _ j hj => ?_⟩⟩
  · have hjl := (List.getElem?_eq_some_iff.1 hj).1
    rw [hl] at hjl
    have hjs : j < (cutRow xs i zr).size := by rw [cutRow_size zr hi]; omega
    rw [(hH j hjs).1, getElem!_pos (cutRow xs i zr) j hjs]
    congr 2
    have : (cutRow xs i zr)[j]? = some x := by
      unfold cutRow
      rw [List.getElem?_toArray, ← List.eraseIdx_eq_take_drop_succ, List.getElem?_append_left (by rw [hl]; exact hjl)]
      exact hj
    rw [Array.getElem?_eq_getElem hjs] at this
    injection this
  · rw [hl] at hj
    exact (hH j (by rw [cutRow_size zr hi]; omega)).2

end
section
open Go.RowKit

/-- A table without its point i. -/
def dropT (t : Tab) (i : Nat) : Tab := (t.1.eraseIdx i, t.2.eraseIdx i)

theorem Valid.drop {t : Tab} (h : Valid t) (i : Nat) : Valid (dropT t i) := by
  refine ⟨?_, ?_, fun z hz => h.fin z (List.mem_of_mem_eraseIdx hz), List.Pairwise.sublist (List.eraseIdx_sublist _ _) h.apart⟩
  · show (t.2.eraseIdx i).length = (t.1.eraseIdx i).length
    rw [List.length_eraseIdx, List.length_eraseIdx, h.len]
  · show (t.1.eraseIdx i).length ≤ 64
    have := h.most
    rw [List.length_eraseIdx]
    split <;> omega

theorem drop_gone {t : Tab} (h : Valid t) {z : Cx} (hz : finC z) {i : Nat} (hi : atC t.1 z = some i) : labelT (dropT t i) z = none := by
  have : atC (dropT t i).1 z = none := by
    rw [atC_none]
    intro p hp
    have hp' : p ∈ t.1 := List.mem_of_mem_eraseIdx hp
    rw [eqC_fin (h.fin p hp') hz, decide_eq_false_iff_not]
    intro hk
    obtain ⟨j, hj⟩ := List.mem_iff_getElem?.1 hp
    obtain ⟨p0, hp0, _⟩ := atC_some hi
    have hj2 : (t.1.eraseIdx i)[j]? = some p := hj
    rw [List.getElem?_eraseIdx] at hj2
    by_cases hji : j < i
    · rw [if_pos hji] at hj2
      have := (atC_key h.fin h.apart hz hj2).2 hk
      rw [hi] at this; injection this with this; omega
    · rw [if_neg hji] at hj2
      have := (atC_key h.fin h.apart hz hj2).2 hk
      rw [hi] at this; injection this with this; omega
  unfold labelT; rw [this]; rfl

end
section
open Go.RowKit Ieee

theorem key_bound : ∃ K : Int, 0 < K ∧ ∀ x, rungOf Ieee.single x < 2139095040 → -K < keyX x ∧ keyX x < K := by
  obtain ⟨P, hP⟩ : ∃ P, P = 2 ^ 253 := ⟨_, rfl⟩
  have hP1 : 0 < P := by rw [hP]; exact Nat.two_pow_pos _
  refine ⟨((16777216 * P : Nat) : Int) + 1, by omega, fun x hx => ?_⟩
  obtain ⟨kept, E, hu, _, hk, _, hE⟩ := split_rung hx
  have h1 : 2 ^ E ≤ P := by rw [hP]; exact Nat.pow_le_pow_right (by decide) hE
  have h2 : kept * 2 ^ E ≤ 16777216 * P := Nat.mul_le_mul (by omega) h1
  unfold keyX
  rw [hu]
  generalize kept * 2 ^ E = U at *
  generalize 16777216 * P = V at *
  unfold sgn
  split <;> omega

theorem order_key : ∃ k : Nat → Int, ∀ x y, nanB .f32 x = false → nanB .f32 y = false → FloatKind.f32.format.order x y = some (compare (k x) (k y)) := by
  obtain ⟨K, hK, hb⟩ := key_bound
  refine ⟨fun x => if rungOf Ieee.single x = 2139095040 then (if negOf Ieee.single x then -K else K) else keyX x, fun x y hx hy => ?_⟩
  have hnx : rungOf Ieee.single x ≤ 2139095040 := by
    rcases Nat.lt_or_ge 2139095040 (rungOf Ieee.single x) with h | h
    · rw [nan_of_rung h] at hx; cases hx
    · exact h
  have hny : rungOf Ieee.single y ≤ 2139095040 := by
    rcases Nat.lt_or_ge 2139095040 (rungOf Ieee.single y) with h | h
    · rw [nan_of_rung h] at hy; cases hy
    · exact h
  simp only
  by_cases ex : rungOf Ieee.single x = 2139095040
  · have rx := read_inf Ieee.single (b := x) s_eb (by rw [s_inf]; exact ex)
    rw [if_pos ex]
    by_cases ey : rungOf Ieee.single y = 2139095040
    · have ry := read_inf Ieee.single (b := y) s_eb (by rw [s_inf]; exact ey)
      rw [if_pos ey]
      show (Ieee.single.read x).order (Ieee.single.read y) = _
      rw [rx, ry]
      cases negOf Ieee.single x <;> cases negOf Ieee.single y
      · show some (compare 0 0) = some (compare K K)
        rw [(cmp_eq (a := K) (b := K)).2 rfl]; rfl
      · show some (compare 1 0) = some (compare K (-K))
        rw [cmp_gt.2 (by omega : -K < K)]; rfl
      · show some (compare 0 1) = some (compare (-K) K)
        rw [cmp_lt.2 (by omega : -K < K)]; rfl
      · show some (compare 1 1) = some (compare (-K) (-K))
        rw [(cmp_eq (a := -K) (b := -K)).2 rfl]; rfl
    · rw [if_neg ey]
      obtain ⟨n, g, ry, _⟩ := read_fin Ieee.single (b := y) (by rw [s_inf]; omega)
      have h := order_inf_left (f := Ieee.single) (x := x) (y := y) rx ⟨_, _, _, ry⟩
      have h' : FloatKind.f32.format.order x y = _ := h
      obtain ⟨b1, b2⟩ := hb y (by omega)
      rw [h']
      cases negOf Ieee.single x
      · show some Ordering.gt = some (compare K (keyX y))
        rw [cmp_gt.2 b2]
      · show some Ordering.lt = some (compare (-K) (keyX y))
        rw [cmp_lt.2 b1]
  · rw [if_neg ex]
    obtain ⟨b1, b2⟩ := hb x (by omega)
    by_cases ey : rungOf Ieee.single y = 2139095040
    · have ry := read_inf Ieee.single (b := y) s_eb (by rw [s_inf]; exact ey)
      rw [if_pos ey]
      obtain ⟨n, g, rx, _⟩ := read_fin Ieee.single (b := x) (by rw [s_inf]; omega)
      have h := order_inf_right (f := Ieee.single) (x := x) (y := y) ⟨_, _, _, rx⟩ ry
      have h' : FloatKind.f32.format.order x y = _ := h
      rw [h']
      cases negOf Ieee.single y
      · show some Ordering.lt = some (compare (keyX x) K)
        rw [cmp_lt.2 b2]
      · show some Ordering.gt = some (compare (keyX x) (-K))
        rw [cmp_gt.2 b1]
    · rw [if_neg ey]
      exact order_rung Ieee.single (by rw [s_inf]; omega) (by rw [s_inf]; omega)

theorem order_turn {a b m : Nat} (ha : nanB .f32 a = false) (hb : nanB .f32 b = false) (hm : nanB .f32 m = false) (h1 : FloatKind.f32.format.order a m ≠ some .lt) (h2 : FloatKind.f32.format.order b m = some .lt) :
    FloatKind.f32.format.order a b ≠ some .lt ∧ FloatKind.f32.format.order a b ≠ some .eq := by
  obtain ⟨k, hk⟩ := order_key
  rw [hk a m ha hm] at h1
  rw [hk b m hb hm, Option.some.injEq, cmp_lt] at h2
  rw [hk a b ha hb]
  simp only [ne_eq, Option.some.injEq, cmp_lt, cmp_eq] at h1 ⊢
  omega

/-- What is known of the nearest among the first n points. -/
def NearTo (Q : List Cx) (z : Cx) (n : Nat) (s : Option (Nat × Nat)) : Prop :=
  match s with
  | none => ∀ j q, j < n → Q[j]? = some q → nanB .f32 (distC q z) = true
  | some (i, m) => i < n ∧ (∃ p, Q[i]? = some p ∧ distC p z = m) ∧ nanB .f32 m = false ∧
      ∀ j q, j < n → Q[j]? = some q → nanB .f32 (distC q z) = false → FloatKind.f32.format.order (distC q z) m ≠ some .lt ∧ (j < i → FloatKind.f32.format.order (distC q z) m ≠ some .eq)

theorem nearTo_take (Q : List Cx) (z : Cx) : ∀ n, n ≤ Q.length → NearTo Q z n (nearC (Q.take n) z)
  | 0, _ => by
    show NearTo Q z 0 (nearC (Q.take 0) z)
    rw [List.take_zero]
    intro j q hj
    omega
  | n + 1, hn => by
    have ih := nearTo_take Q z n (by omega)
    obtain ⟨p, hp⟩ := getElem?_some (xs := Q) (j := n) (by omega)
    rw [take_snoc_of hp, nearC_snoc, List.length_take, Nat.min_eq_left (by omega)]
    generalize nearC (Q.take n) z = s at *
    unfold nearStep
    cases hnan : nanB .f32 (distC p z) with
    | true =>
      rw [if_pos rfl]
      cases s with
      | none =>
        intro j q hj hq
        by_cases e : j = n
        · subst e; rw [hp] at hq; cases hq; exact hnan
        · exact ih j q (by omega) hq
      | some im =>
        obtain ⟨i, m⟩ := im
        obtain ⟨h1, h2, h3, h4⟩ := ih
        refine ⟨by omega, h2, h3, fun j q hj hq hqn => ?_⟩
        by_cases e : j = n
        · subst e; rw [hp] at hq; cases hq; rw [hnan] at hqn; cases hqn
        · exact h4 j q (by omega) hq hqn
    | false =>
      rw [if_neg (by simp)]
      cases s with
      | none =>
        refine ⟨by omega, ⟨p, hp, rfl⟩, hnan, fun j q hj hq hqn => ?_⟩
        by_cases e : j = n
        · subst e
          rw [hp] at hq; cases hq
          refine ⟨?_, fun h => absurd h (by omega)⟩
          rw [order_self, hnan]; simp
        · have := ih j q (by omega) hq
          rw [this] at hqn; cases hqn
      | some im =>
        obtain ⟨i, m⟩ := im
        obtain ⟨h1, h2, h3, h4⟩ := ih
        simp only
        by_cases ho : FloatKind.f32.format.order (distC p z) m = some .lt
        · rw [if_pos (by rw [ho]; rfl)]
          refine ⟨by omega, ⟨p, hp, rfl⟩, hnan, fun j q hj hq hqn => ?_⟩
          by_cases e : j = n
          · subst e
            rw [hp] at hq; cases hq
            refine ⟨?_, fun h => absurd h (by omega)⟩
            rw [order_self, hnan]; simp
          · obtain ⟨g1, _⟩ := h4 j q (by omega) hq hqn
            obtain ⟨t1, t2⟩ := order_turn hqn hnan h3 g1 ho
            exact ⟨t1, fun _ => t2⟩
        · rw [if_neg (by simpa using ho)]
          refine ⟨by omega, h2, h3, fun j q hj hq hqn => ?_⟩
          by_cases e : j = n
          · subst e; rw [hp] at hq; cases hq
            exact ⟨ho, fun h => absurd h (by omega)⟩
          · exact h4 j q (by omega) hq hqn

theorem nearC_to (Q : List Cx) (z : Cx) : NearTo Q z Q.length (nearC Q z) := by
  have := nearTo_take Q z Q.length (Nat.le_refl _)
  rw [List.take_length] at this
  exact this

/-- A nearest point is told. -/
def TellsN (s : Option (Nat × Nat)) (w : World) (e : Ending) (w' : World) : Prop := e = .returned (.tuple #[.int .i64 (((s.map (·.1)).getD 0 : Nat) : Int), .bool s.isSome]) ∧ Span 0 0 w w'

end
end Go.Proofs.Ytealnolpcoalgaa
