/- What the grids are. -/
import Derived.Test.YtfafkdpefdpnkaaGreatJq40
import Derived.Test.YtfafkdpefdpnkaaGreatJq41
namespace Go.Proofs.YtfafkdpefdpnkaaGreat
open Go.RowKit

/-- A point whose parts are these whole numbers. -/
def WholeC (p : Cx) (c : Int × Int) : Prop := Whole p.1 c.1 ∧ Whole p.2 c.2 ∧ c.1.natAbs ≤ 100 ∧ c.2.natAbs ≤ 100

def sqI (c d : Int × Int) : Int := (c.1 - d.1) * (c.1 - d.1) + (c.2 - d.2) * (c.2 - d.2)

theorem sq_small {a : Int} (h : a.natAbs ≤ 200) : (a * a).natAbs ≤ 40000 := by
  rw [Int.natAbs_mul]
  exact Nat.mul_le_mul h h

theorem sqI_zero {c d : Int × Int} : sqI c d = 0 ↔ c = d := by
  obtain ⟨a, b⟩ := c
  obtain ⟨e, f⟩ := d
  unfold sqI
  simp only [Prod.mk.injEq]
  have h1 : 0 ≤ (a - e) * (a - e) := by
    rcases Int.le_total 0 (a - e) with h | h
    · exact Int.mul_nonneg h h
    · exact Int.mul_nonneg_of_nonpos_of_nonpos h h
  have h2 : 0 ≤ (b - f) * (b - f) := by
    rcases Int.le_total 0 (b - f) with h | h
    · exact Int.mul_nonneg h h
    · exact Int.mul_nonneg_of_nonpos_of_nonpos h h
  constructor
  · intro h
    have e1 : (a - e) * (a - e) = 0 := by omega
    have e2 : (b - f) * (b - f) = 0 := by omega
    rcases Int.mul_eq_zero.1 e1 with h | h <;> rcases Int.mul_eq_zero.1 e2 with h' | h' <;> omega
  · rintro ⟨rfl, rfl⟩
    simp

theorem dist_whole {p q : Cx} {c d : Int × Int} (hp : WholeC p c) (hq : WholeC q d) : distC p q = fi (sqI c d) ∧ (sqI c d).natAbs < 16777216 ∧ 0 ≤ sqI c d := by
  obtain ⟨p1, p2, l1, l2⟩ := hp
  obtain ⟨q1, q2, m1, m2⟩ := hq
  have k1 : (c.1 - d.1).natAbs ≤ 200 := by omega
  have k2 : (c.2 - d.2).natAbs ≤ 200 := by omega
  have s1 := sq_small k1
  have s2 := sq_small k2
  obtain ⟨x, hx, wx⟩ := whole_sub p1 q1 (by omega)
  obtain ⟨y, hy, wy⟩ := whole_sub p2 q2 (by omega)
  have e1 := whole_square wx (by omega)
  have e2 := whole_square wy (by omega)
  have n1 : 0 ≤ (c.1 - d.1) * (c.1 - d.1) := by
    rcases Int.le_total 0 (c.1 - d.1) with h | h
    · exact Int.mul_nonneg h h
    · exact Int.mul_nonneg_of_nonpos_of_nonpos h h
  have n2 : 0 ≤ (c.2 - d.2) * (c.2 - d.2) := by
    rcases Int.le_total 0 (c.2 - d.2) with h | h
    · exact Int.mul_nonneg h h
    · exact Int.mul_nonneg_of_nonpos_of_nonpos h h
  have e3 := add_fi_some (a := (c.1 - d.1) * (c.1 - d.1)) (b := (c.2 - d.2) * (c.2 - d.2)) (by omega) (by omega) (by omega)
  refine ⟨?_, by unfold sqI; omega, by unfold sqI; omega⟩
  unfold distC
  rw [fC_of hx, fC_of hy, fC_of e1, fC_of e2, fC_of e3]
  rfl

theorem eq_whole {p q : Cx} {c d : Int × Int} (hp : WholeC p c) (hq : WholeC q d) : eqC p q = decide (c = d) := by
  obtain ⟨p1, p2, _, _⟩ := hp
  obtain ⟨q1, q2, _, _⟩ := hq
  unfold eqC ordEq
  rw [order_whole p1 q1, order_whole p2 q2]
  obtain ⟨a, b⟩ := c
  obtain ⟨e, f⟩ := d
  simp only [Prod.mk.injEq]
  rw [Bool.eq_iff_iff]
  simp [cmp_eq]

/-- Where one point is at distance 0, and all others are not, it is the nearest. -/
theorem near_exact {Q : List Cx} {z : Cx} {j : Nat} (hj : j < Q.length) (h : ∀ (i : Nat) (p : Cx), Q[i]? = some p → ∃ m : Int, distC p z = fi m ∧ m.natAbs < 16777216 ∧ 0 ≤ m ∧ (m = 0 ↔ i = j)) : nearC Q z = some (j, fi 0) := by
  have key : ∀ k, k ≤ Q.length → (k ≤ j → nearC (Q.take k) z = none ∨ ∃ i m, nearC (Q.take k) z = some (i, fi m) ∧ 0 < m ∧ m.natAbs < 16777216) ∧ (j < k → nearC (Q.take k) z = some (j, fi 0)) := by
    intro k
    induction k with
    | zero => intro _; exact ⟨fun _ => .inl rfl, fun h => absurd h (by omega)⟩
    | succ k ih =>
      intro hk
      obtain ⟨i1, i2⟩ := ih (by omega)
      obtain ⟨p, hp⟩ := getElem?_some (xs := Q) (j := k) (by omega)
      obtain ⟨m, hd, hm, h0, hz⟩ := h k p hp
      have hst : nearC (Q.take (k + 1)) z = nearStep z (nearC (Q.take k) z) k p := by
        rw [take_snoc_of hp, nearC_snoc, List.length_take, Nat.min_eq_left (by omega)]
      rw [hst]
      unfold nearStep
      rw [hd, nan_fi hm]
      refine ⟨fun hkj => ?_, fun hkj => ?_⟩
      · have hm0 : 0 < m := by
          have : m ≠ 0 := fun e => by have := hz.1 e; omega
          omega
        right
        rcases i1 (by omega) with h | ⟨i, m', h, hm', hm2⟩
        · rw [h]; exact ⟨k, m, rfl, hm0, hm⟩
        · rw [h]
          simp only [Bool.false_eq_true, if_false]
          split
          · exact ⟨k, m, rfl, hm0, hm⟩
          · exact ⟨i, m', rfl, hm', hm2⟩
      · by_cases e : j = k
        · subst e
          have hm0 : m = 0 := hz.2 rfl
          subst hm0
          rcases i1 (Nat.le_refl _) with h | ⟨i, m', h, hm', hm2⟩
          · rw [h]; rfl
          · rw [h]
            simp only [Bool.false_eq_true, if_false]
            rw [order_fi (by decide) hm2, (cmp_lt).2 hm']
            rfl
        · rw [i2 (by omega)]
          simp only [Bool.false_eq_true, if_false]
          rw [order_fi hm (by decide)]
          have : (some (compare m 0) == some Ordering.lt) = false := by
            rw [beq_eq_false_iff_ne]
            intro hc
            injection hc with hc
            have := cmp_lt.1 hc
            omega
          rw [this]; rfl
  have := (key Q.length (Nat.le_refl _)).2 hj
  rwa [List.take_length] at this

/-- Points that stand at these places, each at one of its own. -/
structure Placed (Q : List Cx) (co : Nat → Int × Int) : Prop where
  whole : ∀ (i : Nat) (p : Cx), Q[i]? = some p → WholeC p (co i)
  inj : ∀ i j, i < Q.length → j < Q.length → co i = co j → i = j

theorem Placed.near {Q : List Cx} {co : Nat → Int × Int} (h : Placed Q co) {z : Cx} {j : Nat} (hj : j < Q.length) (hz : WholeC z (co j)) : nearC Q z = some (j, fi 0) :=
  near_exact hj fun i p hp => by
    obtain ⟨h1, h2, h3⟩ := dist_whole (h.whole i p hp) hz
    refine ⟨_, h1, h2, h3, ?_⟩
    rw [sqI_zero]
    constructor
    · intro e; exact h.inj i j (List.getElem?_eq_some_iff.1 hp).1 hj e
    · rintro rfl; rfl

theorem Placed.apart {Q : List Cx} {co : Nat → Int × Int} (h : Placed Q co) : Apart Q := by
  unfold Apart
  rw [List.pairwise_iff_getElem]
  intro i j hi hj hij
  rw [eq_whole (h.whole j _ (List.getElem?_eq_getElem hj)) (h.whole i _ (List.getElem?_eq_getElem hi))]
  rw [decide_eq_false_iff_not]
  intro e
  have := h.inj j i hj hi e
  omega

theorem Placed.valid {Q : List Cx} {co : Nat → Int × Int} (h : Placed Q co) {L : List Int} (hl : L.length = Q.length) (hm : Q.length ≤ 64) : Valid (Q, L) := by
  refine ⟨hl, hm, fun z hz => ?_, h.apart⟩
  obtain ⟨i, hi, rfl⟩ := List.mem_iff_getElem.1 hz
  obtain ⟨w1, w2, _, _⟩ := h.whole i _ (List.getElem?_eq_getElem hi)
  exact ⟨whole_lt w1, whole_lt w2⟩

def gco (n j : Nat) : Int × Int := (2 * ((j / n : Nat) : Int) - n + 1, 2 * ((j % n : Nat) : Int) - n + 1)

theorem gridP_get {n t j : Nat} {p : Cx} (h : (gridP n t)[j]? = some p) : j < t ∧ p = (fi (gco n j).1, fi (gco n j).2) := by
  simp only [gridP, List.getElem?_map, Option.map_eq_some_iff] at h
  obtain ⟨a, h1, rfl⟩ := h
  obtain ⟨h2, h3⟩ := List.getElem?_eq_some_iff.1 h1
  simp at h2 h3
  subst h3
  exact ⟨h2, rfl⟩

theorem gridL_get {t j : Nat} (h : j < t) : (gridL t)[j]? = some (j : Int) := by
  simp [gridL, h]
theorem gridL_get' {t j : Nat} {l : Int} (h : (gridL t)[j]? = some l) : j < t ∧ l = (j : Int) := by
  have hj : j < t := by have := (List.getElem?_eq_some_iff.1 h).1; rwa [gridL_length] at this
  rw [gridL_get hj] at h
  cases h
  exact ⟨hj, rfl⟩

theorem gco_small {n j : Nat} (hn : n ≤ 8) (h0 : 1 ≤ n) (hj : j < n * n) : (gco n j).1.natAbs ≤ 7 ∧ (gco n j).2.natAbs ≤ 7 := by
  have h1 : j / n < n := Nat.div_lt_of_lt_mul hj
  have h2 : j % n < n := Nat.mod_lt _ h0
  unfold gco
  generalize j / n = q at *
  generalize j % n = r at *
  simp only
  constructor <;> omega

theorem gco_inj {n i j : Nat} (h0 : 1 ≤ n) (h : gco n i = gco n j) : i = j := by
  unfold gco at h
  simp only [Prod.mk.injEq] at h
  have h1 : i / n = j / n := by omega
  have h2 : i % n = j % n := by omega
  rw [← Nat.div_add_mod i n, ← Nat.div_add_mod j n, h1, h2]

theorem grid_placed {n : Nat} (hn : n ≤ 8) (h0 : 1 ≤ n) : Placed (gridP n (n * n)) (gco n) := by
  refine ⟨fun i p hp => ?_, fun i j _ _ e => gco_inj h0 e⟩
  obtain ⟨hi, rfl⟩ := gridP_get hp
  obtain ⟨h1, h2⟩ := gco_small hn h0 hi
  exact ⟨whole_fi (by omega), whole_fi (by omega), by omega, by omega⟩

theorem grid_valid {n : Nat} (hn : n ≤ 8) (h0 : 1 ≤ n) : Valid (gridT n) := by
  have hb : n * n ≤ 8 * 8 := Nat.mul_le_mul hn hn
  exact (grid_placed hn h0).valid (by rw [gridL_length, gridP_length]) (by rw [gridP_length]; omega)

/-! Turned by a quarter. -/
def iC : Cx := (0, 1065353216)
def turnB (p : Cx) : Cx := (mulS p iC).getD (0, 0)

def wholeB (x : Nat) (a : Int) : Bool := x == fi a || (a == 0 && x == 2147483648)
theorem whole_ofB {x : Nat} {a : Int} (ha : a.natAbs < 16777216) (h : wholeB x a = true) : Whole x a := by
  unfold wholeB at h
  simp only [Bool.or_eq_true, beq_iff_eq, Bool.and_eq_true] at h
  rcases h with rfl | ⟨rfl, rfl⟩
  · exact whole_fi ha
  · exact whole_negzero

def quarterB (a b : Int) : Bool := match mulS (fi a, fi b) iC with | some r => wholeB r.1 (-b) && wholeB r.2 a | none => false
theorem quarter_all : ((List.range 15).all fun i => (List.range 15).all fun k => quarterB ((i : Int) - 7) ((k : Int) - 7)) = true := by decide +kernel

theorem quarter {a b : Int} (ha : a.natAbs ≤ 7) (hb : b.natAbs ≤ 7) : ∃ r, mulS (fi a, fi b) iC = some r ∧ WholeC r (-b, a) := by
  have h := quarter_all
  rw [List.all_eq_true] at h
  have h1 := h (a + 7).toNat (by simp; omega)
  rw [List.all_eq_true] at h1
  have h2 := h1 (b + 7).toNat (by simp; omega)
  rw [show (((a + 7).toNat : Nat) : Int) - 7 = a by omega, show (((b + 7).toNat : Nat) : Int) - 7 = b by omega] at h2
  unfold quarterB at h2
  split at h2
  · rename_i r hr
    simp only [Bool.and_eq_true] at h2
    exact ⟨r, hr, whole_ofB (by omega) h2.1, whole_ofB (by omega) h2.2, by simp; omega, by simp; omega⟩
  · cases h2

def turnP (Q : List Cx) : List Cx := Q.map turnB
def tco (n j : Nat) : Int × Int := (-(gco n j).2, (gco n j).1)

theorem grid_turn {n j : Nat} {p : Cx} (hn : n ≤ 8) (h0 : 1 ≤ n) (hp : (gridP n (n * n))[j]? = some p) : mulS p iC = some (turnB p) ∧ WholeC (turnB p) (tco n j) := by
  obtain ⟨hj, rfl⟩ := gridP_get hp
  obtain ⟨h1, h2⟩ := gco_small hn h0 hj
  obtain ⟨r, hr, hw⟩ := quarter h1 h2
  have e : turnB (fi (gco n j).1, fi (gco n j).2) = r := by unfold turnB; rw [hr]; rfl
  rw [e]
  exact ⟨hr, hw⟩

theorem grid_turned {n : Nat} (hn : n ≤ 8) (h0 : 1 ≤ n) : Turned (gridP n (n * n)) iC (turnP (gridP n (n * n))) := by
  refine ⟨by simp [turnP], fun j p hp => ⟨turnB p, (grid_turn hn h0 hp).1, by rw [turnP, List.getElem?_map, hp]; rfl⟩⟩

theorem turn_placed {n : Nat} (hn : n ≤ 8) (h0 : 1 ≤ n) : Placed (turnP (gridP n (n * n))) (tco n) := by
  refine ⟨fun i p hp => ?_, fun i j _ _ e => ?_⟩
  · simp only [turnP, List.getElem?_map, Option.map_eq_some_iff] at hp
    obtain ⟨q, hq, rfl⟩ := hp
    exact (grid_turn hn h0 hq).2
  · refine gco_inj h0 ?_
    unfold tco at e
    simp only [Prod.mk.injEq] at e
    exact Prod.ext e.2 (by omega)

theorem turn_valid {n : Nat} (hn : n ≤ 8) (h0 : 1 ≤ n) : Valid (turnP (gridP n (n * n)), gridL (n * n)) := by
  have hb : n * n ≤ 8 * 8 := Nat.mul_le_mul hn hn
  exact (turn_placed hn h0).valid (by simp [turnP, gridL_length, gridP_length]) (by simp [turnP, gridP_length]; omega)

/-- The place in the grid where a turned point stands. -/
def back (n j : Nat) : Nat := (n - 1 - j % n) * n + j / n
theorem back_lt {n j : Nat} (h0 : 1 ≤ n) (hj : j < n * n) : back n j < n * n := by
  have h1 : j / n < n := Nat.div_lt_of_lt_mul hj
  have h2 : j % n < n := Nat.mod_lt _ h0
  unfold back
  have h3 : (n - 1 - j % n) * n ≤ (n - 1) * n := Nat.mul_le_mul_right n (by omega)
  have h4 : (n - 1) * n + n = n * n := by rw [← Nat.succ_mul]; congr 1; omega
  omega
theorem back_co {n j : Nat} (h0 : 1 ≤ n) (hj : j < n * n) : gco n (back n j) = tco n j := by
  have h1 : j / n < n := Nat.div_lt_of_lt_mul hj
  have h2 : j % n < n := Nat.mod_lt _ h0
  have e1 : back n j / n = n - 1 - j % n := by
    unfold back
    rw [Nat.mul_comm, Nat.mul_add_div (by omega), Nat.div_eq_of_lt h1, Nat.add_zero]
  have e2 : back n j % n = j / n := by
    unfold back
    rw [Nat.mul_comm, Nat.mul_add_mod, Nat.mod_eq_of_lt h1]
  unfold tco gco
  rw [e1, e2]
  clear e1 e2
  generalize j / n = q at *
  generalize j % n = r at *
  have e3 : ((n - 1 - r : Nat) : Int) = n - 1 - r := by omega
  rw [e3]
  simp only [Prod.mk.injEq]
  refine ⟨?_, trivial⟩
  omega
end Go.Proofs.YtfafkdpefdpnkaaGreat
