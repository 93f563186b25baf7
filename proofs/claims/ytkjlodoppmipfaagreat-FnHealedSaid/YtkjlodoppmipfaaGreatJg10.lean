/- Whole numbers in single precision: sums, differences and products that fit are exact. The grid. -/
import Derived.Test.YtkjlodoppmipfaaGreatJg9
import Derived.Outline
namespace Go.Proofs.YtkjlodoppmipfaaGreat
section
open Ieee Go.RowKit

/-- A difference that the format has. -/
theorem sub_isU {f : Format} {x y : Nat} {s t : Bool} {A B U : Nat} (hx : isU f x s A) (hy : isU f y t B) (hU : Rep f U)
    (h : (sgn s A + sgn (!t) B).natAbs = U) : ∃ z neg, f.sub x y = some z ∧ isU f z neg U ∧ sgn neg U = sgn s A + sgn (!t) B ∧ (U = 0 → neg = (s && !t)) := by
  obtain ⟨m, e, hm, hA⟩ := read_isU hx
  obtain ⟨n, g, hn, hB⟩ := read_isU hy
  generalize hL : f.leastPlace = L at *
  have hmin : min (L + (e : Int)) (L + (g : Int)) = L + ((min e g : Nat) : Int) := by omega
  have hme : (L + (e : Int) - (L + ((min e g : Nat) : Int))).toNat = e - min e g := by omega
  have hmg : (L + (g : Int) - (L + ((min e g : Nat) : Int))).toNat = g - min e g := by omega
  generalize hc : min e g = c at *
  have h1 : signed s m (e - c) * (2 : Int) ^ c = sgn s A := by
    rcases signed_mul s m e c with h | h
    · rw [h, hA]
    · omega
  have h2 : signed (!t) n (g - c) * (2 : Int) ^ c = sgn (!t) B := by
    rcases signed_mul (!t) n g c with h | h
    · rw [h, hB]
    · omega
  generalize hT : signed s m (e - c) + signed (!t) n (g - c) = T at *
  have hTT : T * (2 : Int) ^ c = sgn s A + sgn (!t) B := by rw [← hT, Int.add_mul, h1, h2]
  have hpc : (0 : Int) < (2 : Int) ^ c := by exact_mod_cast Nat.two_pow_pos c
  have hTU : T.natAbs * 2 ^ c = U := by
    rw [← h, ← hTT, Int.natAbs_mul]
    congr 1
  refine ⟨f.nearest (if T = 0 then s && !t else decide (T < 0)) T.natAbs (L + (c : Int)), if T = 0 then s && !t else decide (T < 0), ?_, ?_, ?_, ?_⟩
  · unfold Format.sub
    rw [hm, hn]
    simp only [Datum.opposite, Datum.sum, hmin, hme, hmg, hT, Option.map_some, Format.write]
  · have := isU_of_nearest (f := f) (if T = 0 then s && !t else decide (T < 0)) (M := T.natAbs) (P := L + (c : Int)) (a := c) (b := 0) hU (by rw [hTU]; simp) (by rw [hL]; simp)
    exact this
  · rw [← hTT]
    by_cases h0 : T = 0
    · subst h0
      have : U = 0 := by rw [← hTU]; simp
      subst this
      simp [sgn]
    · rw [if_neg h0]
      rcases Int.lt_or_gt_of_ne h0 with hneg | hpos
      · have : decide (T < 0) = true := by simpa using hneg
        rw [this, ← hTU]
        unfold sgn
        rw [if_pos rfl]
        have hTa : T = -(T.natAbs : Int) := by omega
        rw [Int.natCast_mul, ← Int.neg_mul, ← hTa]
        simp
      · have : decide (T < 0) = false := by simp; omega
        rw [this, ← hTU]
        unfold sgn
        rw [if_neg (by simp)]
        have hTa : T = (T.natAbs : Int) := by omega
        rw [Int.natCast_mul, ← hTa]
        simp
  · intro h0
    have : T = 0 := by
      rw [← hTU] at h0
      have hp := Nat.two_pow_pos c
      rcases Nat.mul_eq_zero.1 h0 with h | h
      · omega
      · omega
    rw [if_pos this]

/-- The whole number n as a float. -/
def fi (n : Int) : Nat := floatOfInt .f32 n

theorem sgn_scaled (a : Int) (K : Nat) : sgn (decide (a < 0)) (a.natAbs * K) = a * (K : Int) := by
  unfold sgn
  by_cases h : a < 0
  · rw [if_pos (by simpa using h), Int.natCast_mul, ← Int.neg_mul]
    have : -(a.natAbs : Int) = a := by omega
    rw [this]
  · rw [if_neg (by simpa using h), Int.natCast_mul]
    have : (a.natAbs : Int) = a := by omega
    rw [this]

theorem isU_fi {a : Int} (h : a.natAbs < 16777216) : isU Ieee.single (fi a) (decide (a < 0)) (a.natAbs * 2 ^ 149) := by
  have e : fi a = Ieee.single.nearest (decide (a < 0)) a.natAbs 0 := rfl
  rw [e]
  exact isU_of_nearest (decide (a < 0)) (a := 149) (b := 0) (rep_s (e := 149) h (by omega)) (times_one_pow a.natAbs 149) (by rw [s_lp]; omega)

theorem neg_of_sgn {neg : Bool} {c : Int} {K : Nat} (hK : 0 < K) (h : sgn neg (c.natAbs * K) = c * (K : Int)) (h0 : c ≠ 0) : neg = decide (c < 0) := by
  unfold sgn at h
  have hp : (0 : Int) < (K : Int) := by omega
  have hc : 0 < c.natAbs := by omega
  have hq : 0 < c.natAbs * K := Nat.mul_pos hc hK
  cases neg with
  | false =>
    simp only [Bool.false_eq_true, if_false] at h
    by_cases hn : c < 0
    · have : c * (K : Int) < 0 := Int.mul_neg_of_neg_of_pos hn hp
      omega
    · simp [hn]
  | true =>
    simp only [if_true] at h
    by_cases hn : c < 0
    · simp [hn]
    · have : 0 < c * (K : Int) := Int.mul_pos (by omega) hp
      omega

theorem abs_scaled_add (a b : Int) (K : Nat) : (a * (K : Int) + b * (K : Int)).natAbs = (a + b).natAbs * K := by
  rw [← Int.add_mul, Int.natAbs_mul, Int.natAbs_natCast]

theorem fC_of {op : BinOp} {k : FloatKind} {x y z : Nat} (h : floatBits op k x y = some z) : fC op k x y = z := by unfold fC; rw [h]

theorem big_pos : 0 < 2 ^ 149 := Nat.two_pow_pos _

theorem add_fi_some {a b : Int} (ha : a.natAbs < 16777216) (hb : b.natAbs < 16777216) (hc : (a + b).natAbs < 16777216) : floatBits .add .f32 (fi a) (fi b) = some (fi (a + b)) := by
  have hx := isU_fi ha
  have hy := isU_fi hb
  have hz := isU_fi hc
  have hp := big_pos
  generalize 2 ^ 149 = K at *
  obtain ⟨z, neg, h1, h2, h3, h4⟩ := add_isU hx hy (isU_rep hz) (by rw [sgn_scaled, sgn_scaled]; exact abs_scaled_add a b K)
  rw [sgn_scaled, sgn_scaled, ← Int.add_mul] at h3
  have hn : neg = decide (a + b < 0) := by
    by_cases h0 : a + b = 0
    · have := h4 (by rw [h0]; simp)
      rw [this, h0]
      simp; omega
    · exact neg_of_sgn hp h3 h0
  rw [hn] at h2
  rw [isU_word hz h2]
  exact h1

theorem sub_fi_some {a b : Int} (ha : a.natAbs < 16777216) (hb : b.natAbs < 16777216) (hc : (a - b).natAbs < 16777216) : floatBits .sub .f32 (fi a) (fi b) = some (fi (a - b)) := by
  have hx := isU_fi ha
  have hy := isU_fi hb
  have hz := isU_fi hc
  have hp := big_pos
  generalize 2 ^ 149 = K at *
  have hs : sgn (!decide (b < 0)) (b.natAbs * K) = (-b) * (K : Int) := by
    unfold sgn
    by_cases h : b < 0
    · have e : (!decide (b < 0)) = false := by simp [h]
      have e2 : (b.natAbs : Int) = -b := by omega
      rw [e, if_neg (by simp), Int.natCast_mul, e2]
    · have e : (!decide (b < 0)) = true := by simp [h]
      have e2 : (b.natAbs : Int) = b := by omega
      rw [e, if_pos rfl, Int.natCast_mul, e2, Int.neg_mul]
  obtain ⟨z, neg, h1, h2, h3, h4⟩ := sub_isU hx hy (isU_rep hz) (by rw [sgn_scaled, hs, Int.sub_eq_add_neg]; exact abs_scaled_add a (-b) K)
  rw [sgn_scaled, hs, ← Int.add_mul, ← Int.sub_eq_add_neg] at h3
  have hn : neg = decide (a - b < 0) := by
    by_cases h0 : a - b = 0
    · have := h4 (by rw [h0]; simp)
      rw [this, h0]
      simp; omega
    · exact neg_of_sgn hp h3 h0
  rw [hn] at h2
  rw [isU_word hz h2]
  exact h1

theorem mul_fi_some {a b : Int} (ha : a.natAbs < 16777216) (hb : b.natAbs < 16777216) (hc : (a * b).natAbs < 16777216) (h0 : a * b ≠ 0 ∨ (0 ≤ a ∧ 0 ≤ b)) : floatBits .mul .f32 (fi a) (fi b) = some (fi (a * b)) := by
  have hx := isU_fi ha
  have hy := isU_fi hb
  have hz := isU_fi hc
  have hm : a.natAbs * 2 ^ 149 * (b.natAbs * 2 ^ 149) = (a * b).natAbs * 2 ^ 149 * 2 ^ 149 := by
    rw [Int.natAbs_mul]
    generalize 2 ^ 149 = K
    simp only [Nat.mul_assoc, Nat.mul_left_comm]
  obtain ⟨z, h1, h2⟩ := mul_isU (K := 149) s_lp hx hy (isU_rep hz) hm
  have hn : (decide (a < 0) ^^ decide (b < 0)) = decide (a * b < 0) := by
    by_cases h1 : a < 0
    · by_cases h2 : b < 0
      · have := Int.mul_pos_of_neg_of_neg h1 h2
        simp [h1, h2]; omega
      · have hbp : 0 < b := by
          rcases h0 with h | h
          · by_cases hb0 : b = 0
            · subst hb0; simp at h
            · omega
          · omega
        have := Int.mul_neg_of_neg_of_pos h1 hbp
        simp [h1, h2, this]
    · by_cases h2 : b < 0
      · have hap : 0 < a := by
          rcases h0 with h | h
          · by_cases ha0 : a = 0
            · subst ha0; simp at h
            · omega
          · omega
        have := Int.mul_neg_of_pos_of_neg hap h2
        simp [h1, h2, this]
      · have := Int.mul_nonneg (a := a) (b := b) (by omega) (by omega)
        simp [h1, h2]; omega
  rw [hn] at h2
  rw [isU_word hz h2]
  exact h1

theorem order_fi {a b : Int} (ha : a.natAbs < 16777216) (hb : b.natAbs < 16777216) : FloatKind.f32.format.order (fi a) (fi b) = some (compare a b) := by
  have hx := isU_fi ha
  have hy := isU_fi hb
  have hp := big_pos
  generalize 2 ^ 149 = K at *
  have h : FloatKind.f32.format.order (fi a) (fi b) = _ := order_isU hx hy
  rw [h, sgn_scaled, sgn_scaled, compare_mul a b K (by omega)]

theorem nan_fi {a : Int} (ha : a.natAbs < 16777216) : nanB .f32 (fi a) = false := by
  obtain ⟨m, g, h, _⟩ := read_isU (isU_fi ha)
  show (Ieee.single.read _).isNaN = false
  rw [h]; rfl
end
section
open Go.RowKit

def gridP (n t : Nat) : List Cx := (List.range t).map fun j => (fi (2 * ((j / n : Nat) : Int) - n + 1), fi (2 * ((j % n : Nat) : Int) - n + 1))
def gridL (t : Nat) : List Int := (List.range t).map Int.ofNat
def gridT (n : Nat) : Tab := (gridP n (n * n), gridL (n * n))

theorem gridP_length (n t : Nat) : (gridP n t).length = t := by simp [gridP]
theorem gridL_length (t : Nat) : (gridL t).length = t := by simp [gridL]

theorem gridP_succ {n i k : Nat} (hk : k < n) : gridP n (i * n + k + 1) = gridP n (i * n + k) ++ [(fi (2 * (i : Int) - n + 1), fi (2 * (k : Int) - n + 1))] := by
  have h1 : (i * n + k) / n = i := by
    rw [Nat.mul_comm, Nat.mul_add_div (by omega), Nat.div_eq_of_lt hk, Nat.add_zero]
  have h2 : (i * n + k) % n = k := by
    rw [Nat.mul_comm, Nat.mul_add_mod, Nat.mod_eq_of_lt hk]
  simp only [gridP, List.range_succ, List.map_append, List.map_cons, List.map_nil, h1, h2]
theorem gridL_succ (t : Nat) : gridL (t + 1) = gridL t ++ [(t : Int)] := by
  simp only [gridL, List.range_succ, List.map_append, List.map_cons, List.map_nil]; rfl

theorem info_c64 : (Tryz.prog.info? 23).map (fun i => (i.zero, i.size, i.bytes)) = some (some (.complex .f32 0 0), 1, 8) := by kernel_rfl
theorem info_int : (Tryz.prog.info? 3).map (fun i => (i.zero, i.size, i.bytes)) = some (some (.int .i64 0), 1, 8) := by kernel_rfl

/-- What the call owns at two types lies in two blocks. -/
theorem owns_apart {w : World} {B B' : Nat} {e e' : TypeId} {s s' : Nat} {v v' : Value} {n n' : Nat} {xs xs' : List Value} (h : w.ownsRow B e s v n xs) (h' : w.ownsRow B' e' s' v' n' xs') (he : e ≠ e') : v.ownBlock = none ∨ v.ownBlock ≠ v'.ownBlock := by
  rcases h.2 with ⟨rfl, _⟩ | ⟨g, cap, cur, rfl, _, hg, _⟩
  · exact .inl rfl
  · right
    rcases h'.2 with ⟨rfl, _⟩ | ⟨g', cap', cur', rfl, _, hg', _⟩
    · simp [Value.ownBlock]
    · intro hh
      simp only [Value.ownBlock, Option.some.injEq] at hh
      rw [hh, hg'] at hg
      injection hg with hg
      injection hg with _ h2
      exact he h2.symm

/-- A table that is being made, in the cells of block G; R is where the result will lie. -/
structure Growing (R G B : Nat) (w : World) (P : List Cx) (L : List Int) (vP vL : Value) (wr : World) : Prop where
  g : wr.heap[G]? = some (.cells #[vP, vL] 30 (0, 0))
  r : wr.heap[R]? = some (.cells #[.slice none 0 0, .slice none 0 0] 30 (0, 0))
  p : wr.ownsRow B 23 1 vP P.length (P.map cxV)
  l : wr.ownsRow B 3 1 vL L.length (L.map intV)
  s : Span 0 0 w wr
  hB : B ≤ wr.heap.size

theorem ownsRow_block_ge {w : World} {B : Nat} {e : TypeId} {s : Nat} {v : Value} {n : Nat} {xs : List Value} (h : w.ownsRow B e s v n xs) {k : Nat} (hk : k < B) : some k ≠ v.ownBlock := by
  intro hh
  have := (h.lt k hh.symm).1
  omega

theorem Growing.points {R G B : Nat} {w : World} {P : List Cx} {L : List Int} {vP vL : Value} {wr w1 : World} (h : Growing R G B w P L vP vL wr) (hR : R < G) (hG : G < B) (hw : w.heap.size ≤ R) {o : Obj} {v' : Value} {z : Cx}
    (ho : w1.ownsRow B 23 1 v' (P.length + 1) (P.map cxV ++ [cxV z])) (hg : (wr.alloc o).grownBy w1 vP.ownBlock) :
    w1.cell? ⟨G, 0, none⟩ = some vP ∧ w1.cell? ⟨G, 1, none⟩ = some vL ∧ w1.frozen? ⟨G, 0, none⟩ = false ∧ Growing R G B w (P ++ [z]) L v' vL (w1.setCell ⟨G, 0, none⟩ v') := by
  have hGs : G < wr.heap.size := Nat.lt_of_lt_of_le hG h.hB
  have e1 : w1.heap[G]? = some (.cells #[vP, vL] 30 (0, 0)) := by
    rw [hg.block G (by simp; omega) (ownsRow_block_ge h.p hG), Below.heap_alloc _ _ _ hGs]; exact h.g
  have e2 : w1.heap[R]? = some (.cells #[.slice none 0 0, .slice none 0 0] 30 (0, 0)) := by
    rw [hg.block R (by simp; omega) (ownsRow_block_ge h.p (by omega)), Below.heap_alloc _ _ _ (by omega)]; exact h.r
  have l1 : w1.ownsRow B 3 1 vL L.length (L.map intV) := (h.l.alloc o).kept hg (owns_apart h.l h.p (by decide))
  have gs := grown_setCell w1 G 0 v'
  have s1 : Span 0 0 w w1 := (h.s.alloc o).grown hg (fun k hk => by have := (h.p.lt k hk).1; right; omega)
  refine ⟨by simp [World.cell?, e1], by simp [World.cell?, e1], by simp [World.frozen?, e1], ?_, ?_, ?_, l1.kept gs (.inr (ownsRow_block_ge l1 hG).symm), s1.setCell (.inr (by simp; omega)) _, ?_⟩
  · simp [World.setCell, Array.getElem?_modify, e1]
  · rw [Below.heap_setCell _ _ _ _ (by simp; omega)]; exact e2
  · have := ho.kept gs (.inr (ownsRow_block_ge ho hG).symm)
    simpa using this
  · have h1 := hg.size
    have h2 := h.hB
    simp [World.setCell] at h1 ⊢
    omega

theorem Growing.labels {R G B : Nat} {w : World} {P : List Cx} {L : List Int} {vP vL : Value} {wr w1 : World} (h : Growing R G B w P L vP vL wr) (hR : R < G) (hG : G < B) (hw : w.heap.size ≤ R) {o : Obj} {v' : Value} {z : Int}
    (ho : w1.ownsRow B 3 1 v' (L.length + 1) (L.map intV ++ [intV z])) (hg : (wr.alloc o).grownBy w1 vL.ownBlock) :
    w1.cell? ⟨G, 0, none⟩ = some vP ∧ w1.cell? ⟨G, 1, none⟩ = some vL ∧ w1.frozen? ⟨G, 1, none⟩ = false ∧ Growing R G B w P (L ++ [z]) vP v' (w1.setCell ⟨G, 1, none⟩ v') := by
  have hGs : G < wr.heap.size := Nat.lt_of_lt_of_le hG h.hB
  have e1 : w1.heap[G]? = some (.cells #[vP, vL] 30 (0, 0)) := by
    rw [hg.block G (by simp; omega) (ownsRow_block_ge h.l hG), Below.heap_alloc _ _ _ hGs]; exact h.g
  have e2 : w1.heap[R]? = some (.cells #[.slice none 0 0, .slice none 0 0] 30 (0, 0)) := by
    rw [hg.block R (by simp; omega) (ownsRow_block_ge h.l (by omega)), Below.heap_alloc _ _ _ (by omega)]; exact h.r
  have l1 : w1.ownsRow B 23 1 vP P.length (P.map cxV) := (h.p.alloc o).kept hg (owns_apart h.p h.l (by decide))
  have gs := grown_setCell w1 G 1 v'
  have s1 : Span 0 0 w w1 := (h.s.alloc o).grown hg (fun k hk => by have := (h.l.lt k hk).1; right; omega)
  refine ⟨by simp [World.cell?, e1], by simp [World.cell?, e1], by simp [World.frozen?, e1], ?_, ?_, l1.kept gs (.inr (ownsRow_block_ge l1 hG).symm), ?_, s1.setCell (.inr (by simp; omega)) _, ?_⟩
  · simp [World.setCell, Array.getElem?_modify, e1]
  · rw [Below.heap_setCell _ _ _ _ (by simp; omega)]; exact e2
  · have := ho.kept gs (.inr (ownsRow_block_ge ho hG).symm)
    simpa using this
  · have h1 := hg.size
    have h2 := h.hB
    simp [World.setCell] at h1 ⊢
    omega

theorem Growing.start (w : World) : Growing w.heap.size (w.heap.size + 1) (w.heap.size + 2) w [] [] (.slice none 0 0) (.slice none 0 0)
    ((w.alloc (.cells #[.slice none 0 0, .slice none 0 0] 30)).alloc (.cells #[.slice none 0 0, .slice none 0 0] 30)) := by
  refine ⟨?_, ?_, World.ownsRow_nil _ _ _ _, World.ownsRow_nil _ _ _ _, ((Span.refl _ _ _).alloc _).alloc _, by simp⟩
  · have e : w.heap.size + 1 = (w.alloc (.cells #[.slice none 0 0, .slice none 0 0] 30)).heap.size := by simp
    rw [e]; exact heap_alloc_new _ _
  · rw [Below.heap_alloc _ _ _ (by simp)]
    exact heap_alloc_new _ _

theorem Growing.cells {R G B : Nat} {w : World} {P : List Cx} {L : List Int} {vP vL : Value} {wr : World} (h : Growing R G B w P L vP vL wr) :
    wr.cell? ⟨G, 0, none⟩ = some vP ∧ wr.cell? ⟨G, 1, none⟩ = some vL ∧ wr.cell? ⟨R, 0, none⟩ = some (.slice none 0 0) ∧ wr.cell? ⟨R, 1, none⟩ = some (.slice none 0 0) ∧ wr.frozen? ⟨R, 0, none⟩ = false ∧ wr.frozen? ⟨R, 1, none⟩ = false := by
  simp [World.cell?, World.frozen?, h.g, h.r]

theorem owned_tab {w : World} {B : Nat} {vP vL : Value} {P : List Cx} {L : List Int} {n m : Nat} (hp : w.ownsRow B 23 1 vP n (P.map cxV)) (hl : w.ownsRow B 3 1 vL m (L.map intV)) : HasTab true B w.heap.size w (.agg #[vP, vL]) (P, L) := by
  obtain ⟨b1, h1, _, o1⟩ := ownsRow_hasS hp
  obtain ⟨b2, h2, _, o2⟩ := ownsRow_hasS hl
  by_cases hP : 0 < P.length
  · by_cases hL : 0 < L.length
    · refine ⟨b1, b2, vP, vL, rfl, ?_, h1, h2⟩
      rintro rfl
      rcases owns_apart hp hl (by decide) with h | h
      · rw [o1 hP] at h; cases h
      · exact h ((o1 hP).trans (o2 hL).symm)
    · have e : L = [] := by cases L with | nil => rfl | cons a l => simp at hL
      subst e
      obtain ⟨A, c, rfl, _⟩ := h2
      exact ⟨b1, b1 + 1, vP, _, rfl, by omega, h1, HasS.empty _ _ _ _ _ _ _ _⟩
  · have e : P = [] := by cases P with | nil => rfl | cons a l => simp at hP
    subst e
    obtain ⟨A, c, rfl, _⟩ := h1
    exact ⟨b2 + 1, b2, _, vL, rfl, by omega, HasS.empty _ _ _ _ _ _ _ _, h2⟩

/-- What a function that makes a table gives: a table that lies in new blocks, or none. -/
def GivesTab (o : Option Tab) (w : World) (e : Ending) (w' : World) : Prop :=
  (match o with
    | some t => ∃ v, e = .returned (.tuple #[v, .bool true]) ∧ HasTab true w.heap.size w'.heap.size w' v t
    | none => e = .returned (.tuple #[.agg #[.slice none 0 0, .slice none 0 0], .bool false])) ∧ Span 0 0 w w'
end
end Go.Proofs.YtkjlodoppmipfaaGreat
