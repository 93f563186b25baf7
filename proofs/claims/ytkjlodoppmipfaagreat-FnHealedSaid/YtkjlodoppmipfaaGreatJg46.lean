/- Racks of sums and delays, each fed by modules before it: what they give, as streams. -/
import Derived.Test.YtkjlodoppmipfaaGreatJg35
import Derived.Outline
namespace Go.Proofs.YtkjlodoppmipfaaGreat
open Go.RowKit

/-! A full ring into which a stream is pushed. -/
def dlyS (s : Nat → Cx) (n m : Nat) : Cx := if m < n then (0, 0) else s (m - n)
def rgS (s : Nat → Cx) (n : Nat) : Nat → Rn
  | 0 => (List.replicate n (0, 0), 0, n)
  | r + 1 => pushR (rgS s n r) (s r)
theorem rgS_len (s : Nat → Cx) (n : Nat) : ∀ r, (rgS s n r).1.length = n
  | 0 => by simp [rgS]
  | r + 1 => by rw [rgS, pushR_len, rgS_len s n r]
theorem rgS_ok (s : Nat → Cx) {n : Nat} (h1 : 1 ≤ n) (h2 : n ≤ 16) : ∀ r, VR (rgS s n r)
  | 0 => ⟨by simp [rgS]; omega, by simp [rgS]; omega, by simp [rgS]; omega, by simp [rgS], fun j g1 g2 => by simp [rgS] at g1 g2; omega⟩
  | r + 1 => (rgS_ok s h1 h2 r).push _
theorem rgS_cnt (s : Nat → Cx) {n : Nat} (h1 : 1 ≤ n) (h2 : n ≤ 16) : ∀ r, (rgS s n r).2.2 = n
  | 0 => rfl
  | r + 1 => by rw [rgS, pushR_full_cnt (rgS_ok s h1 h2 r) _ (by rw [rgS_cnt s h1 h2 r, rgS_len]), rgS_cnt s h1 h2 r]
theorem rgS_its (s : Nat → Cx) {n : Nat} (h1 : 1 ≤ n) (h2 : n ≤ 16) : ∀ r, itsR (rgS s n r) = (List.range n).map fun k => dlyS s n (r + k)
  | 0 => by
    apply List.ext_getElem?
    intro j
    by_cases hj : j < n
    · rw [itsR_get (by rw [rgS_cnt s h1 h2]; exact hj), List.getElem?_map, List.getElem?_range hj]
      simp [itemR, rgS, dlyS, hj, List.getElem?_replicate]
      split <;> rfl
    · rw [List.getElem?_eq_none (by rw [itsR_length, rgS_cnt s h1 h2]; omega), List.getElem?_eq_none (by simp; omega)]
  | r + 1 => by
    have h := itsR_push (rgS_ok s h1 h2 r) (s r)
    rw [if_pos (by rw [rgS_cnt s h1 h2, rgS_len]), rgS_its s h1 h2 r] at h
    have e : (List.range n).map (fun k => dlyS s n (r + k)) ++ [s r] = dlyS s n r :: (List.range n).map fun k => dlyS s n (r + 1 + k) := by
      have e1 : s r = dlyS s n (r + n) := by unfold dlyS; rw [if_neg (by omega)]; congr 1; omega
      rw [e1]
      have e2 : (List.range n).map (fun k => dlyS s n (r + k)) ++ [dlyS s n (r + n)] = (List.range (n + 1)).map fun k => dlyS s n (r + k) := by rw [List.range_succ, List.map_append]; rfl
      rw [e2, List.range_succ_eq_map, List.map_cons, List.map_map]
      congr 1
      apply List.map_congr_left
      intro k _
      show dlyS s n (r + (k + 1)) = _
      congr 1; omega
    rw [e] at h
    exact (List.cons.inj h).2
theorem rgS_old (s : Nat → Cx) {n : Nat} (h1 : 1 ≤ n) (h2 : n ≤ 16) (r : Nat) : oldR (rgS s n r) = dlyS s n r := by
  have h := rgS_its s h1 h2 r
  have h3 : (itsR (rgS s n r))[0]? = some (itemR (rgS s n r).1 (rgS s n r).2.1 0) := itsR_get (by rw [rgS_cnt s h1 h2]; omega)
  rw [h, List.getElem?_map, List.getElem?_range (by omega)] at h3
  unfold oldR
  rw [if_pos (by rw [rgS_cnt s h1 h2, rgS_len])]
  simp at h3
  exact h3.symm
theorem rgS_read (s : Nat → Cx) {n : Nat} (h1 : 1 ≤ n) (h2 : n ≤ 16) (r : Nat) : (rgS s n r).1.getD (rgS s n r).2.1 (0, 0) = dlyS s n r := by
  rw [← rgS_old s h1 h2 r]
  have ha := (rgS_ok s h1 h2 r).at_
  unfold oldR itemR
  rw [if_pos (by rw [rgS_cnt s h1 h2, rgS_len]), Nat.add_zero, Nat.mod_eq_of_lt ha, List.getD_eq_getElem?_getD]
theorem rgS_eta (s : Nat → Cx) {n : Nat} (h1 : 1 ≤ n) (h2 : n ≤ 16) (r : Nat) : ((rgS s n r).1, (rgS s n r).2.1, (rgS s n r).1.length) = rgS s n r := by
  have e : (rgS s n r).1.length = (rgS s n r).2.2 := by rw [rgS_len, rgS_cnt s h1 h2]
  rw [e]

/-! The streams. ds i: 0 for a sum, else how long the delay is; fa i: the second module that feeds i (the other one is i - 1). -/
def stD (d : Nat) (s : Nat → Cx) : Nat → Cx := if d = 0 then s else dlyS s d
def inS (fa : Nat → Nat) (z : Nat → Cx) (i : Nat) (L : List (Nat → Cx)) : Nat → Cx :=
  if i = 0 then fun r => addC (0, 0) (z r) else fun r => addC (addC (0, 0) (L.getD (fa i) (fun _ => (0, 0)) r)) (L.getD (i - 1) (fun _ => (0, 0)) r)
def outL (ds fa : Nat → Nat) (z : Nat → Cx) : Nat → List (Nat → Cx)
  | 0 => []
  | i + 1 => outL ds fa z i ++ [stD (ds i) (inS fa z i (outL ds fa z i))]
theorem outL_len (ds fa : Nat → Nat) (z : Nat → Cx) : ∀ n, (outL ds fa z n).length = n
  | 0 => rfl
  | n + 1 => by rw [outL, List.length_append, outL_len ds fa z n]; rfl
/-- What module i gives; what it is given. -/
def outS (ds fa : Nat → Nat) (z : Nat → Cx) (i : Nat) : Nat → Cx := stD (ds i) (inS fa z i (outL ds fa z i))
theorem outL_get (ds fa : Nat → Nat) (z : Nat → Cx) {i : Nat} : ∀ {n : Nat}, i < n → (outL ds fa z n).getD i (fun _ => (0, 0)) = outS ds fa z i
  | 0, h => by omega
  | n + 1, h => by
    rw [outL, List.getD_eq_getElem?_getD]
    by_cases hi : i = n
    · subst hi
      rw [List.getElem?_append_right (by rw [outL_len]; omega), outL_len, Nat.sub_self]; rfl
    · rw [List.getElem?_append_left (by rw [outL_len]; omega), ← List.getD_eq_getElem?_getD]
      exact outL_get ds fa z (by omega)
def inpS (ds fa : Nat → Nat) (z : Nat → Cx) (i : Nat) : Nat → Cx :=
  if i = 0 then fun r => addC (0, 0) (z r) else fun r => addC (addC (0, 0) (outS ds fa z (fa i) r)) (outS ds fa z (i - 1) r)
theorem outS_is (ds fa : Nat → Nat) (z : Nat → Cx) (h : ∀ i, 0 < i → fa i < i) (i : Nat) : outS ds fa z i = stD (ds i) (inpS ds fa z i) := by
  unfold outS
  congr 1
  unfold inS inpS
  split
  · rfl
  · rename_i hi
    funext r
    rw [outL_get ds fa z (h i (by omega)), outL_get ds fa z (show i - 1 < i by omega)]

/-! The same on whole numbers. -/
def addZ (a b : Int × Int) : Int × Int := (a.1 + b.1, a.2 + b.2)
def dlyZ (s : Nat → Int × Int) (n m : Nat) : Int × Int := if m < n then (0, 0) else s (m - n)
def stZ (d : Nat) (s : Nat → Int × Int) : Nat → Int × Int := if d = 0 then s else dlyZ s d
def outZL (ds fa : Nat → Nat) (z : Nat → Int × Int) : Nat → List (Nat → Int × Int)
  | 0 => []
  | i + 1 => outZL ds fa z i ++ [stZ (ds i) (if i = 0 then z else fun r => addZ ((outZL ds fa z i).getD (fa i) (fun _ => (0, 0)) r) ((outZL ds fa z i).getD (i - 1) (fun _ => (0, 0)) r))]
theorem outZL_len (ds fa : Nat → Nat) (z : Nat → Int × Int) : ∀ n, (outZL ds fa z n).length = n
  | 0 => rfl
  | n + 1 => by rw [outZL, List.length_append, outZL_len ds fa z n]; rfl
def outZ (ds fa : Nat → Nat) (z : Nat → Int × Int) (i : Nat) : Nat → Int × Int := (outZL ds fa z (i + 1)).getD i (fun _ => (0, 0))
theorem outZL_get (ds fa : Nat → Nat) (z : Nat → Int × Int) {i : Nat} : ∀ {n : Nat}, i < n → (outZL ds fa z n).getD i (fun _ => (0, 0)) = outZ ds fa z i
  | 0, h => by omega
  | n + 1, h => by
    by_cases hi : i = n
    · subst hi; rfl
    · rw [outZL, List.getD_eq_getElem?_getD, List.getElem?_append_left (by rw [outZL_len]; omega), ← List.getD_eq_getElem?_getD]
      exact outZL_get ds fa z (by omega)
theorem outZ_is (ds fa : Nat → Nat) (z : Nat → Int × Int) (h : ∀ i, 0 < i → fa i < i) (i : Nat) : outZ ds fa z i = stZ (ds i) (if i = 0 then z else fun r => addZ (outZ ds fa z (fa i) r) (outZ ds fa z (i - 1) r)) := by
  unfold outZ
  rw [outZL, List.getD_eq_getElem?_getD, List.getElem?_append_right (by rw [outZL_len]; omega), outZL_len, Nat.sub_self]
  show stZ (ds i) _ = _
  congr 1
  split
  · rfl
  · rename_i hi
    funext r
    rw [outZL_get ds fa z (h i (by omega)), outZL_get ds fa z (show i - 1 < i by omega)]
    rfl

/-- Sums of inputs give sums. -/
theorem outZ_add (ds fa : Nat → Nat) (h : ∀ i, 0 < i → fa i < i) (x y : Nat → Int × Int) : ∀ i r, outZ ds fa (fun r => addZ (x r) (y r)) i r = addZ (outZ ds fa x i r) (outZ ds fa y i r) := by
  intro i
  induction i using Nat.strongRecOn with
  | ind i ih =>
    intro r
    have key : ∀ r, (if i = 0 then (fun r => addZ (x r) (y r)) else fun r => addZ (outZ ds fa (fun r => addZ (x r) (y r)) (fa i) r) (outZ ds fa (fun r => addZ (x r) (y r)) (i - 1) r)) r = addZ ((if i = 0 then x else fun r => addZ (outZ ds fa x (fa i) r) (outZ ds fa x (i - 1) r)) r) ((if i = 0 then y else fun r => addZ (outZ ds fa y (fa i) r) (outZ ds fa y (i - 1) r)) r) := by
      intro r
      by_cases hi : i = 0
      · simp only [if_pos hi]
      · simp only [if_neg hi]
        rw [ih (fa i) (h i (by omega)) r, ih (i - 1) (by omega) r]
        simp only [addZ]
        congr 1 <;> omega
    rw [outZ_is ds fa _ h, outZ_is ds fa x h, outZ_is ds fa y h]
    unfold stZ
    split
    · exact key r
    · unfold dlyZ
      split
      · rfl
      · exact key _
/-- No module gives more than 2^i times the greatest input. -/
theorem outZ_le (ds fa : Nat → Nat) (h : ∀ i, 0 < i → fa i < i) (z : Nat → Int × Int) (M : Nat) (hz : ∀ r, (z r).1.natAbs ≤ M ∧ (z r).2.natAbs ≤ M) : ∀ i r, (outZ ds fa z i r).1.natAbs ≤ M * 2 ^ i ∧ (outZ ds fa z i r).2.natAbs ≤ M * 2 ^ i := by
  intro i
  induction i using Nat.strongRecOn with
  | ind i ih =>
    intro r
    have key : ∀ r, ((if i = 0 then z else fun r => addZ (outZ ds fa z (fa i) r) (outZ ds fa z (i - 1) r)) r).1.natAbs ≤ M * 2 ^ i ∧ ((if i = 0 then z else fun r => addZ (outZ ds fa z (fa i) r) (outZ ds fa z (i - 1) r)) r).2.natAbs ≤ M * 2 ^ i := by
      intro r
      by_cases hi : i = 0
      · subst hi; simpa using hz r
      · rw [if_neg hi]
        have h1 := ih (fa i) (h i (by omega)) r
        have h2 := ih (i - 1) (by omega) r
        have h3 : M * 2 ^ fa i ≤ M * 2 ^ (i - 1) := Nat.mul_le_mul_left _ (Nat.pow_le_pow_right (by decide) (by have := h i (by omega); omega))
        have h4 : M * 2 ^ i = M * 2 ^ (i - 1) + M * 2 ^ (i - 1) := by
          obtain ⟨k, rfl⟩ : ∃ k, i = k + 1 := ⟨i - 1, by omega⟩
          rw [Nat.add_sub_cancel, Nat.pow_succ, ← Nat.mul_add, Nat.mul_two]
        simp only [addZ]
        omega
    rw [outZ_is ds fa z h]
    unfold stZ
    split
    · exact key r
    · unfold dlyZ
      split
      · simp
      · exact key _

/-- The streams are whole. -/
theorem out_whole (ds fa : Nat → Nat) (h : ∀ i, 0 < i → fa i < i) (z : Nat → Cx) (zi : Nat → Int × Int) (hw : ∀ r, WholeC (z r) (zi r)) (M : Nat) (hz : ∀ r, (zi r).1.natAbs ≤ M ∧ (zi r).2.natAbs ≤ M) (n : Nat) (hM : M * 2 ^ n < 16777216) :
    ∀ i, i < n → ∀ r, WholeC (inpS ds fa z i r) ((if i = 0 then zi else fun r => addZ (outZ ds fa zi (fa i) r) (outZ ds fa zi (i - 1) r)) r) ∧ WholeC (outS ds fa z i r) (outZ ds fa zi i r) := by
  intro i
  induction i using Nat.strongRecOn with
  | ind i ih =>
    intro hi
    have le := outZ_le ds fa h zi M hz
    have pw : ∀ j, j ≤ n → M * 2 ^ j ≤ M * 2 ^ n := fun j hj => Nat.mul_le_mul_left _ (Nat.pow_le_pow_right (by decide) hj)
    have key : ∀ r, WholeC (inpS ds fa z i r) ((if i = 0 then zi else fun r => addZ (outZ ds fa zi (fa i) r) (outZ ds fa zi (i - 1) r)) r) := by
      intro r
      unfold inpS
      by_cases h0 : i = 0
      · rw [if_pos h0, if_pos h0]
        have b := hz r
        have p := pw 0 (Nat.zero_le _)
        have a := (addC_whole wholeC_zero (hw r) (by simp only; omega) (by simp only; omega)).2
        simpa using a
      · rw [if_neg h0, if_neg h0]
        have w1 := (ih (fa i) (h i (by omega)) (by have := h i (by omega); omega) r).2
        have w2 := (ih (i - 1) (by omega) (by omega) r).2
        have b1 := le (fa i) r
        have b2 := le (i - 1) r
        have p1 := pw (fa i) (by have := h i (by omega); omega)
        have p2 := pw (i - 1) (by omega)
        have b3 := le i r
        have p3 := pw i (by omega)
        have p4 : M * 2 ^ (i - 1) + M * 2 ^ (i - 1) ≤ M * 2 ^ n := by
          have e : M * 2 ^ i = M * 2 ^ (i - 1) + M * 2 ^ (i - 1) := by
            obtain ⟨k, rfl⟩ : ∃ k, i = k + 1 := ⟨i - 1, by omega⟩
            rw [Nat.add_sub_cancel, Nat.pow_succ, ← Nat.mul_add, Nat.mul_two]
          omega
        have p5 : M * 2 ^ fa i ≤ M * 2 ^ (i - 1) := Nat.mul_le_mul_left _ (Nat.pow_le_pow_right (by decide) (by have := h i (by omega); omega))
        have a1 := (addC_whole wholeC_zero w1 (by simp only; omega) (by simp only; omega)).2
        have a2 := (addC_whole a1 w2 (by simp only; omega) (by simp only; omega)).2
        simpa [addZ] using a2
    intro r
    refine ⟨key r, ?_⟩
    rw [outS_is ds fa z h, outZ_is ds fa zi h]
    unfold stD stZ
    split
    · exact key r
    · unfold dlyS dlyZ
      split
      · exact wholeC_zero
      · exact key _
/-- The sums in a station do not draw. -/
theorem out_adds (ds fa : Nat → Nat) (h : ∀ i, 0 < i → fa i < i) (z : Nat → Cx) (zi : Nat → Int × Int) (hw : ∀ r, WholeC (z r) (zi r)) (M : Nat) (hz : ∀ r, (zi r).1.natAbs ≤ M ∧ (zi r).2.natAbs ≤ M) (n : Nat) (hM : M * 2 ^ n < 16777216) (i : Nat) (hi : i < n) (r : Nat) :
    (i = 0 → Adds (0, 0) (z r) (addC (0, 0) (z r))) ∧ (0 < i → Adds (0, 0) (outS ds fa z (fa i) r) (addC (0, 0) (outS ds fa z (fa i) r)) ∧ Adds (addC (0, 0) (outS ds fa z (fa i) r)) (outS ds fa z (i - 1) r) (inpS ds fa z i r)) := by
  have le := outZ_le ds fa h zi M hz
  have pw : ∀ j, j ≤ n → M * 2 ^ j ≤ M * 2 ^ n := fun j hj => Nat.mul_le_mul_left _ (Nat.pow_le_pow_right (by decide) hj)
  refine ⟨fun h0 => ?_, fun h0 => ?_⟩
  · have b := hz r
    have p := pw 0 (Nat.zero_le _)
    exact (addC_whole wholeC_zero (hw r) (by simp only; omega) (by simp only; omega)).1
  · have hai := h i h0
    have w1 := (out_whole ds fa h z zi hw M hz n hM (fa i) (by omega) r).2
    have w2 := (out_whole ds fa h z zi hw M hz n hM (i - 1) (by omega) r).2
    have b1 := le (fa i) r
    have b2 := le (i - 1) r
    have e : M * 2 ^ i = M * 2 ^ (i - 1) + M * 2 ^ (i - 1) := by
      obtain ⟨k, rfl⟩ : ∃ k, i = k + 1 := ⟨i - 1, by omega⟩
      rw [Nat.add_sub_cancel, Nat.pow_succ, ← Nat.mul_add, Nat.mul_two]
    have p3 := pw i (by omega)
    have p5 : M * 2 ^ fa i ≤ M * 2 ^ (i - 1) := Nat.mul_le_mul_left _ (Nat.pow_le_pow_right (by decide) (by omega))
    have a1 := addC_whole wholeC_zero w1 (by simp only; omega) (by simp only; omega)
    have a2 := addC_whole a1.2 w2 (by simp only; omega) (by simp only; omega)
    refine ⟨a1.1, ?_⟩
    unfold inpS
    rw [if_neg (by omega)]
    exact a2.1

/-! The order: a module is fed by modules before it. -/
theorem firstNo_k : ∀ (P : List Bool) (k : Nat), (∀ j, j < k → P[j]? = some true) → P[k]? = some false → firstNo P = (k : Int)
  | [], k, _, h => by simp at h
  | b :: l, 0, _, h => by
    simp at h; subst h; rfl
  | b :: l, k + 1, h1, h2 => by
    have hb := h1 0 (by omega)
    simp at hb; subst hb
    have ih := firstNo_k l k (fun j hj => by have := h1 (j + 1) (by omega); simpa using this) (by simpa using h2)
    unfold firstNo
    rw [ih, if_neg (by omega)]; rfl
theorem passed_at (K : List Int) (listed : List Bool) (k : Nat) (hl : ∀ j, j < k → listed.getD j false = true) : ∀ (Cs : List (Nat × Nat)) (P : List Bool), (∀ c ∈ Cs, c.1 < c.2) → (∀ j, j < k → P[j]? = some true) → P[k]? = some false →
    (∀ j, j < k → (Cs.foldl (passOne K listed) P)[j]? = some true) ∧ (Cs.foldl (passOne K listed) P)[k]? = some false
  | [], P, _, h1, h2 => ⟨h1, h2⟩
  | c :: Cs, P, hc, h1, h2 => by
    rw [List.foldl_cons]
    have hlt := hc c List.mem_cons_self
    refine passed_at K listed k hl Cs _ (fun c' hc' => hc c' (List.mem_cons_of_mem _ hc')) (fun j hj => ?_) ?_
    · unfold passOne
      split
      · by_cases e : c.2 = j
        · subst e
          rw [List.getElem?_set_self (List.getElem?_eq_some_iff.1 (h1 _ hj)).1]
        · rw [List.getElem?_set_ne e]; exact h1 j hj
      · exact h1 j hj
    · unfold passOne
      split
      · rename_i hx
        have hk : k ≤ c.1 := by
          by_cases hh : c.1 < k
          · rw [hl c.1 hh] at hx; exact absurd hx.1 (by decide)
          · omega
        rw [List.getElem?_set_ne (by omega)]; exact h2
      · exact h2
theorem order_id (K : List Int) (Cs : List (Nat × Nat)) (n : Nat) (hc : ∀ c ∈ Cs, c.1 < c.2) : orderC K Cs n = some ((List.range n).map fun i : Nat => (i : Int)) := by
  have key : ∀ k, k ≤ n → ordIt K Cs k (List.replicate n false, []) = some (List.replicate k true ++ List.replicate (n - k) false, (List.range k).map fun i : Nat => (i : Int)) := by
    intro k
    induction k with
    | zero => intro _; simp [ordIt]
    | succ k ih =>
      intro hk
      show (ordIt K Cs k _).bind _ = _
      rw [ih (by omega)]
      show ordStep K Cs _ = _
      have hP : ∀ j, j < k → (List.replicate k true ++ List.replicate (n - k) false)[j]? = some true := fun j hj => by
        rw [List.getElem?_append_left (by simpa using hj), List.getElem?_replicate, if_pos hj]
      have hQ : (List.replicate k true ++ List.replicate (n - k) false)[k]? = some false := by
        rw [List.getElem?_append_right (by simp), List.length_replicate, Nat.sub_self, List.getElem?_replicate, if_pos (by omega)]
      obtain ⟨g1, g2⟩ := passed_at K (List.replicate k true ++ List.replicate (n - k) false) k (fun j hj => by rw [List.getD_eq_getElem?_getD, hP j hj]; rfl) Cs _ hc hP hQ
      have hf : firstNo (passed K Cs (List.replicate k true ++ List.replicate (n - k) false)) = (k : Int) := firstNo_k _ k g1 g2
      unfold ordStep
      simp only [hf]
      rw [if_neg (by omega), Int.toNat_natCast]
      congr 1
      rw [List.range_succ, List.map_append]
      congr 1
      obtain ⟨d, hd⟩ : ∃ d, n - k = d + 1 := ⟨n - k - 1, by omega⟩
      rw [hd, show n - (k + 1) = d by omega, List.replicate_succ, List.set_append_right _ _ (by simp), List.length_replicate, Nat.sub_self, List.set_cons_zero, List.replicate_succ' (n := k), List.append_assoc]
      rfl
  unfold orderC
  rw [key n (Nat.le_refl _)]
  rfl
end Go.Proofs.YtkjlodoppmipfaaGreat
