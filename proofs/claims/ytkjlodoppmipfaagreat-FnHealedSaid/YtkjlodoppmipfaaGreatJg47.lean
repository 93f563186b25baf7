/- Racks of sums and delays, each fed by modules before it, are run. -/
import Derived.Test.YtkjlodoppmipfaaGreatJg46
import Derived.Outline
namespace Go.Proofs.YtkjlodoppmipfaaGreat
open Go.RowKit

def mDl (n : Nat) (A : Option Addr) (p : Nat) : Mw := ⟨4, 0, 0, 0, 0, 0, A, n, p, 0, n, none, 0, 0, none, 0, 0, 0, 0⟩
/-- Module i is a sum, or a new delay of ds i. -/
def IsSD (ds : Nat → Nat) (i : Nat) (x : Mw) : Prop := (ds i = 0 ∧ x = mSum) ∨ (0 < ds i ∧ ∃ A p, x = mDl (ds i) A p)
def kdsOf (ds : Nat → Nat) (n : Nat) : List Kd := (List.range n).map fun i => if ds i = 0 then Kd.sum else Kd.delay
def rsOf (ds : Nat → Nat) (n : Nat) : List (List Cx × Tab) := (List.range n).map fun i => (List.replicate (ds i) (0, 0), ([], []))
/-- The cables: to each module but the first, from fa i, and from the one before. -/
def csOf (fa : Nat → Nat) : Nat → List (Nat × Nat)
  | 0 => []
  | k + 1 => csOf fa k ++ (if k = 0 then [] else [(fa k, k), (k - 1, k)])
theorem csOf_lt (fa : Nat → Nat) (h : ∀ i, 0 < i → fa i < i) : ∀ k, ∀ c ∈ csOf fa k, c.1 < c.2 ∧ c.2 < k
  | 0, c, hc => by simp [csOf] at hc
  | k + 1, c, hc => by
    rw [csOf] at hc
    rcases List.mem_append.1 hc with hc | hc
    · have := csOf_lt fa h k c hc; omega
    · split at hc
      · simp at hc
      · have := h k (by omega)
        simp only [List.mem_cons, List.not_mem_nil, or_false] at hc
        rcases hc with rfl | rfl
        · simp only; omega
        · simp only; omega
theorem csOf_feeds (fa : Nat → Nat) (n : Nat) : ∀ k, k ≤ n → feedsC n (csOf fa k) = (List.range n).map fun i => if i = 0 ∨ k ≤ i then [] else [fa i, i - 1]
  | 0, _ => by
    apply List.ext_getElem?
    intro j
    unfold feedsC csOf
    rw [List.foldl_nil, List.getElem?_map, List.getElem?_replicate]
    by_cases hj : j < n
    · rw [if_pos hj, List.getElem?_range hj]; simp
    · rw [if_neg hj, List.getElem?_eq_none (by simp; omega)]; rfl
  | k + 1, hk => by
    have ih := csOf_feeds fa n k (by omega)
    rw [csOf]
    split
    · rename_i h0
      subst h0
      rw [List.append_nil, ih]
      apply List.map_congr_left
      intro i _
      by_cases hi : i = 0
      · simp [hi]
      · simp [hi]
    · rename_i h0
      rw [show csOf fa k ++ [(fa k, k), (k - 1, k)] = (csOf fa k ++ [(fa k, k)]) ++ [(k - 1, k)] by simp, feedsC_snoc, feedsC_snoc, ih]
      apply List.ext_getElem?
      intro j
      unfold feedOne
      simp only
      by_cases hj : j < n
      · rw [List.getElem?_map, List.getElem?_range hj]
        by_cases hjk : j = k
        · subst hjk
          rw [List.getElem?_set_self (by simp; omega), List.getD_eq_getElem?_getD, List.getElem?_set_self (by simp; omega), List.getD_eq_getElem?_getD, List.getElem?_map, List.getElem?_range hj]
          simp [h0]
        · rw [List.getElem?_set_ne (by omega), List.getElem?_set_ne (by omega), List.getElem?_map, List.getElem?_range hj]
          simp only [Option.map_some]
          congr 1
          by_cases hj0 : j = 0
          · simp [hj0]
          · by_cases hlt : j < k
            · rw [if_neg (by omega), if_neg (by omega)]
            · rw [if_pos (by omega), if_pos (by omega)]
      · rw [List.getElem?_eq_none (by simp; omega), List.getElem?_eq_none (by simp; omega)]

def unS (ds fa : Nat → Nat) (z : Nat → Cx) (i r : Nat) : Un := if ds i = 0 then uSum else .ring (rgS (inpS ds fa z i) (ds i) r).1 (rgS (inpS ds fa z i) (ds i) r).2.1
def prevS (ds fa : Nat → Nat) (z : Nat → Cx) (i r : Nat) : Cx := if r = 0 then (0, 0) else outS ds fa z i (r - 1)
def trS (ds fa : Nat → Nat) (z : Nat → Cx) (n r j : Nat) : List Un × List Cx :=
  ((List.range n).map fun i => unS ds fa z i (if i < j then r + 1 else r), (List.range n).map fun i => if i < j ∨ ds i ≠ 0 then outS ds fa z i r else prevS ds fa z i r)
theorem range_get {α : Type} (f : Nat → α) {n i : Nat} (hi : i < n) : ((List.range n).map f)[i]? = some (f i) := by rw [List.getElem?_map, List.getElem?_range hi]; rfl
theorem range_set {α : Type} (f g : Nat → α) {n j : Nat} (v : α) (hv : g j = v) (hg : ∀ i, i ≠ j → g i = f i) (hj : j < n) : (List.range n).map g = ((List.range n).map f).set j v := by
  apply List.ext_getElem?
  intro i
  by_cases hi : i < n
  · rw [range_get g hi]
    by_cases hij : i = j
    · subst hij; rw [List.getElem?_set_self (by simpa using hi), hv]
    · rw [List.getElem?_set_ne (by omega), range_get f hi, hg i hij]
  · rw [List.getElem?_eq_none (by simp; omega), List.getElem?_eq_none (by simp; omega)]

theorem unOf_SD {ds fa : Nat → Nat} {z : Nat → Cx} {n : Nat} {Ms : List Mw} (hl : Ms.length = n) (hm : ∀ i x, Ms[i]? = some x → IsSD ds i x) : unOf (kdsOf ds n) Ms (rsOf ds n) = (List.range n).map fun i => unS ds fa z i 0 := by
  apply List.ext_getElem?
  intro i
  by_cases hi : i < n
  · rw [range_get _ hi]
    obtain ⟨x, hx⟩ := getElem?_some (xs := Ms) (j := i) (by omega)
    have hk : (kdsOf ds n)[i]? = some (if ds i = 0 then Kd.sum else Kd.delay) := range_get _ hi
    have hr : (rsOf ds n)[i]? = some (List.replicate (ds i) (0, 0), ([], [])) := range_get _ hi
    unfold unOf
    have hz1 : ((kdsOf ds n).zip Ms)[i]? = some ((if ds i = 0 then Kd.sum else Kd.delay), x) := List.getElem?_zip_eq_some.2 ⟨hk, hx⟩
    have hz2 : (((kdsOf ds n).zip Ms).zip (rsOf ds n))[i]? = some (((if ds i = 0 then Kd.sum else Kd.delay), x), (List.replicate (ds i) ((0, 0) : Cx), (([], []) : Tab))) := List.getElem?_zip_eq_some.2 ⟨hz1, hr⟩
    rw [List.getElem?_map, hz2]
    simp only [Option.map_some]
    congr 1
    rcases hm i x hx with ⟨h0, rfl⟩ | ⟨h0, A, p, rfl⟩
    · unfold unS
      rw [if_pos h0, if_pos h0]; rfl
    · unfold unS
      rw [if_neg (by omega), if_neg (by omega)]; rfl
  · rw [List.getElem?_eq_none (by simp [unOf, kdsOf, rsOf]; omega), List.getElem?_eq_none (by simp; omega)]

theorem stS {ds fa : Nat → Nat} {z : Nat → Cx} {n : Nat} {Ms : List Mw} (hl : Ms.length = n) (hm : ∀ i x, Ms[i]? = some x → IsSD ds i x) : ∀ r, stAt n (unOf (kdsOf ds n) Ms (rsOf ds n), List.replicate n (0, 0)) (trS ds fa z n) r = ((List.range n).map (fun i => unS ds fa z i r), (List.range n).map fun i => prevS ds fa z i r)
  | 0 => by
    show (_, _) = _
    rw [unOf_SD (fa := fa) (z := z) hl hm]
    congr 1
    apply List.ext_getElem?
    intro i
    rw [List.getElem?_replicate]
    by_cases hi : i < n
    · rw [if_pos hi, range_get _ hi]; rfl
    · rw [if_neg hi, List.getElem?_eq_none (by simp; omega)]
  | r + 1 => by
    show trS ds fa z n r n = _
    unfold trS
    congr 1
    · apply List.map_congr_left
      intro i hi
      rw [if_pos (List.mem_range.1 hi)]
    · apply List.map_congr_left
      intro i hi
      rw [if_pos (.inl (List.mem_range.1 hi))]
      unfold prevS
      rw [if_neg (by omega)]; rfl

theorem run_SD {w : World} {bM bC lo hi : Nat} {AM : Option Addr} {n cM : Nat} {AC : Option Addr} {m cC : Nat} {Ms : List Mw} {ds fa : Nat → Nat} (hfa : ∀ i, 0 < i → fa i < i) (hds : ∀ i, ds i ≤ 16) (hn : 0 < n) (hr : RkAt w bM bC lo hi AM n cM AC m cC Ms (csOf fa n)) (hR : Reads w Ms (rsOf ds n)) (hm : ∀ i x, Ms[i]? = some x → IsSD ds i x)
    (xs : List Cx) (hxs : xs.length ≤ 4194304) (zi : Nat → Int × Int) (hw : ∀ r, WholeC (xs.getD r (0, 0)) (zi r)) (M : Nat) (hz : ∀ r, (zi r).1.natAbs ≤ M ∧ (zi r).2.natAbs ≤ M) (hM : M * 2 ^ n < 16777216)
    (o : Nat) (ho : o < n) (ob : Bool) (b0 lo0 hi0 : Nat) (v : Value) (hb0 : b0 < w.heap.size) (hv : HasS cxV ob b0 lo0 hi0 w v xs) (N : Nat) (hN : N ≤ 500) :
    Calls Tryz.prog 11 #[.agg #[.slice AM n cM, .slice AC m cC], .agg #[.int .i64 0, .int .i64 (o : Int)], v, .int .i64 (N : Int)] w (RanRk n m N (csOf fa n) ((List.range N).map (outS ds fa (fun r => xs.getD r (0, 0)) o)) (fun _ _ => True) w) := by
  obtain ⟨z, hzz⟩ : ∃ z : Nat → Cx, z = fun r => xs.getD r (0, 0) := ⟨_, rfl⟩
  have hw' : ∀ r, WholeC (z r) (zi r) := by rw [hzz]; exact hw
  rw [← hzz]
  have hml : Ms.length = n := hr.mods.len.1.symm
  have hst := stS (fa := fa) (z := z) hml hm
  have hkk : ∀ i, i < n → (kdsOf ds n)[i]? = some (if ds i = 0 then Kd.sum else Kd.delay) := fun i hi => range_get _ hi
  have key := runRack_mix (n := n) (Ms := Ms) hr (rsOf ds n) hR (kdsOf ds n) (by simp [kdsOf]) (fun i kd x r hk hx hrr => by
      have hi : i < n := by rw [← hml]; exact (List.getElem?_eq_some_iff.1 hx).1
      rw [hkk i hi] at hk
      injection hk with hk
      have hr' : (rsOf ds n)[i]? = some (List.replicate (ds i) (0, 0), ([], [])) := range_get _ hi
      rw [hr'] at hrr
      injection hrr with hrr
      subst hk; subst hrr
      rcases hm i x hx with ⟨h0, rfl⟩ | ⟨h0, A, p, rfl⟩
      · rw [if_pos h0]; exact ⟨rfl, by decide, fun h => by cases h⟩
      · rw [if_neg (by omega)]; exact ⟨rfl, by decide, fun _ => ⟨by simpa using h0, show (0 : Int) ≤ 0 by decide, by simp [mDl]⟩⟩)
    ((List.range n).map fun i : Nat => (i : Int)) (order_id _ _ n (fun c hc => (csOf_lt fa hfa n c hc).1)) 0 (.inr ⟨0, rfl, hn⟩) o ho xs hxs ob b0 lo0 hi0 v hb0 hv N hN (trS ds fa z n)
    (fun r _ => by
      rw [hst r]
      show (_, _) = (_, _)
      congr 1
      apply List.ext_getElem?
      intro i
      rw [readO_get]
      by_cases hi : i < n
      · rw [range_get _ hi, range_get _ hi, range_get _ hi]
        simp only [Option.map_some]
        congr 1
        by_cases h0 : ds i = 0
        · rw [if_neg (by simp [h0])]
          unfold unS
          rw [if_pos h0]; rfl
        · rw [if_pos (.inr h0)]
          unfold unS
          rw [if_neg h0]
          show _ = (rgS (inpS ds fa z i) (ds i) r).1.getD (rgS (inpS ds fa z i) (ds i) r).2.1 (0, 0)
          rw [rgS_read _ (by omega) (hds i), outS_is ds fa z hfa]
          unfold stD
          rw [if_neg h0]
      · have e2 : ((List.range n).map fun i => prevS ds fa z i r)[i]? = none := List.getElem?_eq_none (by simp; omega)
        rw [List.getElem?_eq_none (by simp; omega)]
        show none = Option.map _ (((List.range n).map fun i => prevS ds fa z i r)[i]?)
        rw [e2]; rfl)
    (fun r _ i ys a hi => by
      rw [hst r] at hi
      by_cases hin : i < n
      · rw [range_get _ hin] at hi
        injection hi with hi
        unfold unS at hi
        split at hi
        · simp [uSum] at hi
        · rename_i h0
          injection hi with e1 e2
          subst e1; subst e2
          exact ⟨(rgS_ok _ (by omega) (hds i) r).at_, by rw [rgS_len]; have := hds i; omega⟩
      · rw [List.getElem?_eq_none (by simp; omega)] at hi; cases hi)
    (fun r _ j i kd l hj hk hl => by
      have hjn : j < n := by have := (List.getElem?_eq_some_iff.1 hj).1; simpa using this
      rw [range_get _ hjn] at hj
      injection hj with hj
      obtain rfl : j = i := by omega
      rw [hkk j hjn] at hk
      injection hk with hk
      rw [csOf_feeds fa n n (Nat.le_refl _), range_get _ hjn] at hl
      injection hl with hl
      obtain ⟨a0, a1⟩ := out_adds ds fa hfa z zi hw' M hz n hM j hjn r
      have hu : (trS ds fa z n r j).1[j]? = some (unS ds fa z j r) := by
        unfold trS; rw [range_get _ hjn, if_neg (Nat.lt_irrefl _)]
      have hs' : trS ds fa z n r (j + 1) = ((trS ds fa z n r j).1.set j (unS ds fa z j (r + 1)), (trS ds fa z n r j).2.set j (outS ds fa z j r)) := by
        unfold trS
        congr 1
        · refine range_set _ _ _ (by rw [if_pos (Nat.lt_succ_self _)]) (fun i hi => ?_) hjn
          by_cases hlt : i < j
          · rw [if_pos hlt, if_pos (by omega)]
          · rw [if_neg hlt, if_neg (by omega)]
        · refine range_set _ _ _ (by rw [if_pos (.inl (Nat.lt_succ_self _))]) (fun i hi => ?_) hjn
          by_cases hlt : i < j ∨ ds i ≠ 0
          · rw [if_pos hlt, if_pos (by omega)]
          · rw [if_neg hlt, if_neg (by omega)]
      have hstep : StepsU kd (unS ds fa z j r) (inpS ds fa z j r) (unS ds fa z j (r + 1)) (outS ds fa z j r) := by
        rw [outS_is ds fa z hfa j]
        unfold unS stD
        by_cases h0 : ds j = 0
        · rw [if_pos h0] at hk
          subst hk
          rw [if_pos h0, if_pos h0, if_pos h0]
          exact stepU_sum _
        · rw [if_neg h0] at hk
          subst hk
          rw [if_neg h0, if_neg h0, if_neg h0]
          have h1 : 1 ≤ ds j := by omega
          have hs := stepU_delay (rgS (inpS ds fa z j) (ds j) r).1 (rgS (inpS ds fa z j) (ds j) r).2.1 (by rw [rgS_eta _ h1 (hds j)]; exact rgS_ok _ h1 (hds j) r) (inpS ds fa z j r)
          rw [rgS_eta _ h1 (hds j), rgS_old _ h1 (hds j)] at hs
          exact hs
      have hout : ∀ i, i < j → (trS ds fa z n r j).2[i]? = some (outS ds fa z i r) := fun i hi => by
        unfold trS; rw [range_get _ (by omega), if_pos (.inl hi)]
      by_cases h0 : j = 0
      · subst h0
        rw [if_pos (.inl rfl)] at hl
        subst hl
        have e : inpS ds fa z 0 r = addC (0, 0) (z r) := by unfold inpS; rw [if_pos rfl]
        rw [e] at hstep
        refine ⟨fun _ => addC (0, 0) (z r), _, _, _, ?_, fun k hk2 => absurd hk2 (by simp), hu, hstep, hs'⟩
        show if ((0 : Nat) : Int) = 0 then Adds (0, 0) (xs.getD r (0, 0)) (addC (0, 0) (z r)) else addC (0, 0) (z r) = (0, 0)
        rw [if_pos (show ((0 : Nat) : Int) = 0 from rfl)]
        rw [hzz] at a0 ⊢
        exact a0 rfl
      · rw [if_neg (by omega)] at hl
        subst hl
        obtain ⟨b1, b2⟩ := a1 (by omega)
        have hj1 := hfa j (by omega)
        refine ⟨fun k => if k = 0 then (0, 0) else if k = 1 then addC (0, 0) (outS ds fa z (fa j) r) else inpS ds fa z j r, _, _, _, ?_, fun k hk2 => ?_, hu, hstep, hs'⟩
        · rw [if_neg (by omega)]; rfl
        · have hk3 : k = 0 ∨ k = 1 := by simp at hk2; omega
          rcases hk3 with rfl | rfl
          · exact ⟨fa j, outS ds fa z (fa j) r, rfl, hout _ hj1, b1⟩
          · exact ⟨j - 1, outS ds fa z (j - 1) r, rfl, hout _ (by omega), b2⟩)
    ((List.range N).map (outS ds fa z o)) (by simp) (fun i y hy => by
      have hi : i < N := by have := (List.getElem?_eq_some_iff.1 hy).1; simpa using this
      rw [range_get _ hi] at hy
      injection hy with hy
      subst hy
      unfold trS
      rw [range_get _ ho, if_pos (.inl ho)])
    (fun _ _ => True) (fun i kd u hk hu X g f => by
      rw [hst N] at hu
      have hin : i < n := by have := (List.getElem?_eq_some_iff.1 hu).1; simpa using this
      rw [range_get _ hin] at hu
      injection hu with hu
      rw [hkk i hin] at hk
      injection hk with hk
      unfold unS at hu
      by_cases h0 : ds i = 0
      · rw [if_pos h0] at hu hk
        subst hu; subst hk
        exact fun w h => (modU_sum X g f w h).mono fun e w' ⟨m, h1, _, h3⟩ => ⟨m, h1, trivial, h3⟩
      · rw [if_neg h0] at hu hk
        subst hu; subst hk
        exact fun w h => (modU_delay _ _ X g f w h).mono fun e w' ⟨m, h1, _, h3⟩ => ⟨m, h1, trivial, h3⟩)
  exact key
end Go.Proofs.YtkjlodoppmipfaaGreat
