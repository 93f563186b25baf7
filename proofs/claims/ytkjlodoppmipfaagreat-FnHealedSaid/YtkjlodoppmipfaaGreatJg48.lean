/- Racks of a source, gains and sums: runs with faults and without. -/
import Derived.Test.YtkjlodoppmipfaaGreatJg43
import Derived.Test.YtkjlodoppmipfaaGreatJg45
import Derived.Test.YtkjlodoppmipfaaGreatJg47
import Derived.Test.YtkjlodoppmipfaaGreatJg42
import Derived.Outline
namespace Go.Proofs.YtkjlodoppmipfaaGreat
open Go.RowKit

def tI : Cx := (0, 1065353216)
def OrbH : List Cx := [(1065353216, 1073741824), (3221225472, 1065353216), (3212836864, 3221225472), (1073741824, 3212836864)]
theorem orbH_all : (OrbH.all fun s => (mulS s tI).isSome && OrbH.contains (srcN tI s)) = true := by decide +kernel
theorem orbH_next {s : Cx} (hs : s ∈ OrbH) : mulS s tI = some (srcN tI s) ∧ srcN tI s ∈ OrbH := by
  have h := orbH_all
  rw [List.all_eq_true] at h
  have h := h s hs
  rw [Bool.and_eq_true] at h
  refine ⟨?_, by simpa using h.2⟩
  unfold srcN
  cases e : mulS s tI with
  | none => rw [e] at h; exact absurd h.1 (by simp)
  | some x => rfl
def sg : Nat → Cx
  | 0 => (1065353216, 1073741824)
  | r + 1 => srcN tI (sg r)
theorem sg_mem : ∀ r, sg r ∈ OrbH
  | 0 => List.mem_cons_self ..
  | r + 1 => (orbH_next (sg_mem r)).2
theorem good_int {a b : Int} (ha : a.natAbs ≤ 2) (hb : b.natAbs ≤ 2) : Good 0 (fi a, fi b) := ⟨a, b, (whole_fi (a := a) (by omega)).2, (whole_fi (a := b) (by omega)).2, by simpa using ha, by simpa using hb⟩
theorem good_sg (r : Nat) : Good 0 (sg r) := by
  have h := sg_mem r
  generalize sg r = s at h
  simp only [OrbH, List.mem_cons, List.not_mem_nil, or_false] at h
  rcases h with rfl | rfl | rfl | rfl
  · have h := good_int (a := 1) (b := 2) (by decide) (by decide)
    rwa [show fi 1 = 1065353216 by decide +kernel, show fi 2 = 1073741824 by decide +kernel] at h
  · have h := good_int (a := -2) (b := 1) (by decide) (by decide)
    rwa [show fi (-2) = 3221225472 by decide +kernel, show fi 1 = 1065353216 by decide +kernel] at h
  · have h := good_int (a := -1) (b := -2) (by decide) (by decide)
    rwa [show fi (-1) = 3212836864 by decide +kernel, show fi (-2) = 3221225472 by decide +kernel] at h
  · have h := good_int (a := 2) (b := -1) (by decide) (by decide)
    rwa [show fi 2 = 1073741824 by decide +kernel, show fi (-1) = 3212836864 by decide +kernel] at h

/-! What the modules give, without faults. -/
def xL (lv : Nat → Option Nat) (fa : Nat → Nat) (s0 : Cx) : Nat → List Cx
  | 0 => []
  | n + 1 => xL lv fa s0 n ++ [if n = 0 then s0 else stepG (lv n) (addC (addC (0, 0) ((xL lv fa s0 n).getD (fa n) (0, 0))) ((xL lv fa s0 n).getD (n - 1) (0, 0)))]
theorem xL_len (lv : Nat → Option Nat) (fa : Nat → Nat) (s0 : Cx) : ∀ n, (xL lv fa s0 n).length = n
  | 0 => rfl
  | n + 1 => by rw [xL, List.length_append, xL_len lv fa s0 n]; rfl
def xO (lv : Nat → Option Nat) (fa : Nat → Nat) (s0 : Cx) (i : Nat) : Cx := (xL lv fa s0 (i + 1)).getD i (0, 0)
theorem xL_get (lv : Nat → Option Nat) (fa : Nat → Nat) (s0 : Cx) {i : Nat} : ∀ {n : Nat}, i < n → (xL lv fa s0 n).getD i (0, 0) = xO lv fa s0 i
  | 0, h => by omega
  | n + 1, h => by
    by_cases hi : i = n
    · subst hi; rfl
    · rw [xL, List.getD_eq_getElem?_getD, List.getElem?_append_left (by rw [xL_len]; omega), ← List.getD_eq_getElem?_getD]
      exact xL_get lv fa s0 (by omega)
theorem xO_is (lv : Nat → Option Nat) (fa : Nat → Nat) (s0 : Cx) (h : ∀ i, 0 < i → fa i < i) (i : Nat) : xO lv fa s0 i = if i = 0 then s0 else stepG (lv i) (addC (addC (0, 0) (xO lv fa s0 (fa i))) (xO lv fa s0 (i - 1))) := by
  unfold xO
  rw [xL, List.getD_eq_getElem?_getD, List.getElem?_append_right (by rw [xL_len]; omega), xL_len, Nat.sub_self]
  show (if i = 0 then s0 else _) = _
  split
  · rfl
  · rename_i hi
    rw [xL_get lv fa s0 (h i (by omega)), xL_get lv fa s0 (show i - 1 < i by omega)]
    rfl

/-! States. -/
def kdH (lv : Nat → Option Nat) (i : Nat) : Kd := if i = 0 then .source else kdG (lv i)
def kdsH (lv : Nat → Option Nat) : List Kd := (List.range 5).map (kdH lv)
def unH (lv : Nat → Option Nat) (s : Cx) (i : Nat) : Un := if i = 0 then uSource tI s else uG (lv i)
def unsH (lv : Nat → Option Nat) (s : Cx) : List Un := (List.range 5).map (unH lv s)
def rsH : List (List Cx × Tab) := (List.range 5).map fun _ => ([], ([], []))
def IsH (lv : Nat → Option Nat) (i : Nat) (x : Mw) : Prop := x = if i = 0 then mSource tI (sg 0) else match lv i with
  | none => mSum
  | some h => mGain (lvl h)
/-- Outputs before station j of step r; act tells whether a fault may be in a step. -/
structure HJ (lv : Nat → Option Nat) (fa : Nat → Nat) (act : Nat → Prop) (r j : Nat) (s : List Un × List Cx) : Prop where
  un : s.1 = unsH lv (sg (if j = 0 then r else r + 1))
  len : s.2.length = 5
  good : ∀ i z, s.2[i]? = some z → Good i z
  is : ¬ act r → ∀ i z, i < j → s.2[i]? = some z → z = xO lv fa (sg r) i
structure HSt (lv : Nat → Option Nat) (fa : Nat → Nat) (act : Nat → Prop) (r : Nat) (s : List Un × List Cx) : Prop where
  un : s.1 = unsH lv (sg r)
  len : s.2.length = 5
  good : ∀ i z, s.2[i]? = some z → Good i z
  is : ∀ p, r = p + 1 → ¬ act p → ∀ i z, s.2[i]? = some z → z = xO lv fa (sg p) i

theorem unsH_get (lv : Nat → Option Nat) (s : Cx) {i : Nat} (hi : i < 5) : (unsH lv s)[i]? = some (unH lv s i) := range_get _ hi
theorem unsH_set (lv : Nat → Option Nat) (s : Cx) {i : Nat} (hi : i < 5) (h0 : i ≠ 0) : (unsH lv s).set i (unH lv s i) = unsH lv s := by
  apply List.ext_getElem?
  intro k
  by_cases hk : k = i
  · subst hk; rw [List.getElem?_set_self (by simp [unsH]; omega), unsH_get lv s hi]
  · rw [List.getElem?_set_ne (by omega)]
theorem unsH_set0 (lv : Nat → Option Nat) (s s' : Cx) : (unsH lv s).set 0 (uSource tI s') = unsH lv s' := by
  apply List.ext_getElem?
  intro k
  by_cases hk : k = 0
  · subst hk; rw [List.getElem?_set_self (by simp [unsH]), unsH_get lv s' (by decide)]; rfl
  · rw [List.getElem?_set_ne (by omega)]
    by_cases h5 : k < 5
    · rw [unsH_get lv s h5, unsH_get lv s' h5]; unfold unH; rw [if_neg hk, if_neg hk]
    · rw [List.getElem?_eq_none (by simp [unsH]; omega), List.getElem?_eq_none (by simp [unsH]; omega)]
theorem no_rings (lv : Nat → Option Nat) (s : Cx) (i : Nat) (xs : List Cx) (a : Nat) : (unsH lv s)[i]? ≠ some (.ring xs a) := by
  intro h
  have hi : i < 5 := by have := (List.getElem?_eq_some_iff.1 h).1; simpa [unsH] using this
  rw [unsH_get lv s hi] at h
  injection h with h
  unfold unH uG at h
  split at h
  · simp [uSource] at h
  · split at h
    · simp [uSum] at h
    · simp [uGain] at h
theorem readB_none {φ : Nat → Cx → Cx} {Us : List Un} (h : ∀ (i : Nat) xs a, Us[i]? ≠ some (.ring xs a)) (outs : List Cx) : readB φ Us outs = outs := by
  apply List.ext_getElem?
  intro i
  rw [readB_get]
  cases ho : outs[i]? with
  | none => rfl
  | some o =>
    show some _ = some o
    congr 1
    split
    · rename_i xs a hu; exact absurd hu (h i xs a)
    · rfl

theorem one_h {lv : Nat → Option Nat} {fa : Nat → Nat} (hfa : ∀ i, 0 < i → fa i < i) (hlv : ∀ i h, lv i = some h → h ≤ 4) {act : Nat → Prop} (r : Nat) (z : Cx) {φ : Nat → Cx → Cx} (g1 : ∀ i y, i < 5 → Good i y → Good i (φ i y)) (g2 : ¬ act r → ∀ i y, φ i y = y) {i : Nat} (hi : i < 5) :
    OneI (-1) z φ (i, if i = 0 then [] else [fa i, i - 1], (kdH lv i, 0)) (HJ lv fa act r i) (HJ lv fa act r (i + 1)) := by
  intro s u a c hJ hu hbase hsum
  obtain ⟨us, outs⟩ := s
  obtain ⟨j1, j2, j3, j4⟩ := hJ
  simp only at j1 j2 j3 j4 hu hsum hbase
  subst j1
  rw [unsH_get lv _ hi] at hu
  injection hu with hu
  subst hu
  have ha : a = (0, 0) := by
    rw [if_neg (by omega)] at hbase; exact hbase
  subst ha
  by_cases h0 : i = 0
  · subst h0
    have e1 : unH lv (sg (if 0 = 0 then r else r + 1)) 0 = uSource tI (sg r) := rfl
    have e2 : kdH lv 0 = .source := rfl
    show StepsI (kdH lv 0) (unH lv (sg (if 0 = 0 then r else r + 1)) 0) c _
    rw [e1, e2]
    refine (stepU_source tI (sg r) (sg (r + 1)) c (orbH_next (sg_mem r)).1).rel ⟨?_, by simpa using j2, fun k w hk => ?_, fun hna k w hk hw => ?_⟩
    · show (unsH lv (sg (if 0 = 0 then r else r + 1))).set 0 (uSource tI (sg (r + 1))) = unsH lv (sg (if 0 + 1 = 0 then r else r + 1))
      exact unsH_set0 lv _ _
    · by_cases hk0 : k = 0
      · subst hk0
        simp only at hk
        rw [List.getElem?_set_self (by omega)] at hk
        injection hk with hk
        rw [← hk]
        exact g1 0 _ (by omega) (good_sg r)
      · simp only at hk
        rw [List.getElem?_set_ne (by omega)] at hk
        exact j3 k w hk
    · have hk0 : k = 0 := by omega
      subst hk0
      simp only at hw
      rw [List.getElem?_set_self (by omega)] at hw
      injection hw with hw
      rw [← hw, g2 hna, xO_is lv fa _ hfa, if_pos rfl]
  · obtain ⟨k, rfl⟩ : ∃ k, i = k + 1 := ⟨i - 1, by omega⟩
    have hf := hfa (k + 1) (by omega)
    rw [if_neg h0] at hsum
    obtain ⟨b, f, o, ⟨b0, f0, o0, hb0, hf0, ho0, had0⟩, hf1, ho1, had1⟩ := hsum
    have hb0 : b0 = (0, 0) := hb0
    subst hb0
    simp only [List.getElem?_cons_zero] at hf0
    injection hf0 with hf0
    subst hf0
    simp only [List.getElem?_cons_succ, List.getElem?_cons_zero, Nat.add_sub_cancel] at hf1
    injection hf1 with hf1
    subst hf1
    have G0 := good_to (j3 _ _ ho0) (show fa (k + 1) ≤ k by omega) (by omega)
    have G1 := j3 _ _ ho1
    obtain ⟨A0, A1⟩ := good_zero_adds (k := k) (by omega) G0
    have eb := addsR_of A0 had0
    subst eb
    obtain ⟨A2, p, q, p1, p2, p3, p4⟩ := good_adds (k := k) (by omega) A1 G1
    have ec := addsR_of A2 had1
    subst ec
    obtain ⟨hst, hgd⟩ := step_good (k := k) (by omega) p1 p2 p3 p4 (lv (k + 1)) (hlv (k + 1))
    have e1 : unH lv (sg (if k + 1 = 0 then r else r + 1)) (k + 1) = uG (lv (k + 1)) := rfl
    have e2 : kdH lv (k + 1) = kdG (lv (k + 1)) := rfl
    show StepsI (kdH lv (k + 1)) (unH lv (sg (if k + 1 = 0 then r else r + 1)) (k + 1)) _ _
    rw [e1, e2]
    refine hst.rel ⟨?_, by simpa using j2, fun m w hm => ?_, fun hna m w hm hw => ?_⟩
    · exact unsH_set lv (sg (r + 1)) hi (by omega)
    · by_cases hmk : m = k + 1
      · subst hmk
        simp only at hm
        rw [List.getElem?_set_self (by omega)] at hm
        injection hm with hm
        rw [← hm]
        exact g1 (k + 1) _ hi hgd
      · simp only at hm
        rw [List.getElem?_set_ne (by omega)] at hm
        exact j3 m w hm
    · by_cases hmk : m = k + 1
      · subst hmk
        simp only at hw
        rw [List.getElem?_set_self (by omega)] at hw
        injection hw with hw
        rw [← hw, g2 hna, xO_is lv fa _ hfa, if_neg (by omega), Nat.add_sub_cancel, ← j4 hna _ _ hf ho0, ← j4 hna _ _ (by omega) ho1]
      · simp only at hw
        rw [List.getElem?_set_ne (by omega)] at hw
        exact j4 hna m w (by omega) hw

theorem modU_gain (l : Nat) (X : List Nat) (g : Nat) (f : List Nat) : ModU X (.gain, g) f (uGain l) (fun m => m = mGain l) := fun w h => by
  obtain ⟨_, _, hb⟩ := h
  exact (gain_module g l w hb).mono fun e w' ⟨h1, h2⟩ => ⟨mGain l, h1, rfl, h2⟩
/-- The module that comes of module i after r steps. -/
def mH (lv : Nat → Option Nat) (r i : Nat) : Mw := if i = 0 then mSource tI (sg r) else match lv i with
  | none => mSum
  | some h => mGain (lvl h)
theorem modU_h (lv : Nat → Option Nat) (r i : Nat) (X : List Nat) (g : Nat) (f : List Nat) : ModU X (kdH lv i, g) f (unH lv (sg r) i) (fun m => m = mH lv r i) := by
  unfold kdH unH mH kdG uG
  split
  · exact modU_source tI (sg r) X g f
  · cases h : lv i with
    | none => exact modU_sum X g f
    | some k => exact modU_gain (lvl k) X g f

section
variable {w : World} {bM bC lo hi : Nat} {AM : Option Addr} {cM : Nat} {AC : Option Addr} {cC : Nat} {Ms : List Mw} {lv : Nat → Option Nat} {fa : Nat → Nat}
theorem h_good (hm : ∀ i x, Ms[i]? = some x → IsH lv i x) (i : Nat) (kd : Kd) (x : Mw) (r : List Cx × Tab) (hk : (kdsH lv)[i]? = some kd) (hx : Ms[i]? = some x) (_hr : rsH[i]? = some r) : GoodM kd x r := by
  have hi : i < 5 := by have := (List.getElem?_eq_some_iff.1 hk).1; simpa [kdsH] using this
  have hk' : (kdsH lv)[i]? = some (kdH lv i) := range_get _ hi
  rw [hk'] at hk
  injection hk with hk
  subst hk
  have h := hm i x hx
  unfold IsH at h
  unfold kdH kdG
  by_cases h0 : i = 0
  · rw [if_pos h0] at h ⊢
    subst h
    exact ⟨rfl, by decide, fun h => by cases h⟩
  · rw [if_neg h0] at h ⊢
    cases hl : lv i with
    | none => rw [hl] at h; simp only at h; subst h; exact ⟨rfl, by decide, fun h => by cases h⟩
    | some l => rw [hl] at h; simp only at h; subst h; exact ⟨rfl, fun h => Kd.noConfusion h, fun h => by cases h⟩
theorem h_units (hl : Ms.length = 5) (hm : ∀ i x, Ms[i]? = some x → IsH lv i x) : unOf (kdsH lv) Ms rsH = unsH lv (sg 0) := by
  apply List.ext_getElem?
  intro i
  by_cases hi : i < 5
  · obtain ⟨x, hx⟩ := getElem?_some (xs := Ms) (j := i) (by omega)
    have hk : (kdsH lv)[i]? = some (kdH lv i) := range_get _ hi
    have hr : rsH[i]? = some ([], ([], [])) := range_get _ hi
    have hz : (((kdsH lv).zip Ms).zip rsH)[i]? = some ((kdH lv i, x), ([], ([], []))) := by rw [List.getElem?_zip_eq_some, List.getElem?_zip_eq_some]; exact ⟨⟨hk, hx⟩, hr⟩
    rw [unsH_get lv _ hi]
    unfold unOf
    rw [List.getElem?_map, hz]
    show some (unM (kdH lv i) x ([], ([], []))) = _
    have h := hm i x hx
    unfold IsH at h
    unfold kdH kdG unH uG
    by_cases h0 : i = 0
    · rw [if_pos h0] at h ⊢
      rw [if_pos h0]
      subst h; rfl
    · rw [if_neg h0] at h ⊢
      rw [if_neg h0]
      cases hl : lv i with
      | none => rw [hl] at h; simp only at h; subst h; rfl
      | some l => rw [hl] at h; simp only at h; subst h; rfl
  · rw [List.getElem?_eq_none (by simp [unOf, kdsH, hl, rsH]; omega), List.getElem?_eq_none (by simp [unsH]; omega)]
theorem h_feeds (lv : Nat → Option Nat) {z : Cx} {φ : Nat → Cx → Cx} {J : Nat → List Un × List Cx → Prop} (h : ∀ i, i < 5 → OneI (-1) z φ (i, if i = 0 then [] else [fa i, i - 1], (kdH lv i, 0)) (J i) (J (i + 1))) (j i : Nat) (kd : Kd) (l : List Nat) (hj : ((List.range 5).map fun i : Nat => (i : Int))[j]? = some (i : Int)) (hk : (kdsH lv)[i]? = some kd) (hl : (feedsC 5 (csOf fa 5))[i]? = some l) : OneI (-1) z φ (i, l, (kd, 0)) (J j) (J (j + 1)) := by
  have hj5 : j < 5 := by have := (List.getElem?_eq_some_iff.1 hj).1; simpa using this
  have e := range_get (fun i : Nat => (i : Int)) hj5
  rw [e] at hj
  injection hj with hj
  have hij : i = j := by omega
  subst hij
  have hk' : (kdsH lv)[i]? = some (kdH lv i) := range_get _ hj5
  rw [hk'] at hk
  injection hk with hk
  subst hk
  rw [csOf_feeds fa 5 5 (Nat.le_refl _), range_get _ hj5] at hl
  injection hl with hl
  have hl2 : l = if i = 0 then [] else [fa i, i - 1] := by
    rw [← hl]
    by_cases h0 : i = 0
    · rw [if_pos h0, if_pos (.inl h0)]
    · rw [if_neg h0, if_neg (by omega)]
  rw [hl2]
  exact h i hj5
theorem HJ.next {act : Nat → Prop} {r : Nat} {s : List Un × List Cx} (h : HJ lv fa act r 5 s) : HSt lv fa act (r + 1) s := ⟨h.un, h.len, h.good, fun p hp hna i z hz => by
  have : p = r := by omega
  subst this
  exact h.is hna i z (by have := (List.getElem?_eq_some_iff.1 hz).1; rw [h.len] at this; exact this) hz⟩
theorem HSt.begin {act : Nat → Prop} {r : Nat} {s : List Un × List Cx} (h : HSt lv fa act r s) : HJ lv fa act r 0 s := ⟨h.un, h.len, h.good, fun _ i z hi => absurd hi (Nat.not_lt_zero _)⟩
theorem h_start (hl : Ms.length = 5) (hm : ∀ i x, Ms[i]? = some x → IsH lv i x) (act : Nat → Prop) : HSt lv fa act 0 (unOf (kdsH lv) Ms rsH, List.replicate 5 (0, 0)) := ⟨h_units hl hm, by simp, fun i z hz => by
  have : z = (0, 0) := by have := List.mem_of_getElem? hz; exact (List.mem_replicate.1 this).2
  rw [this]; exact good_zero i, fun p hp => by omega⟩

theorem run_h (hfa : ∀ i, 0 < i → fa i < i) (hlv : ∀ i h, lv i = some h → h ≤ 4) (hr : RkAt w bM bC lo hi AM 5 cM AC 8 cC Ms (csOf fa 5)) (hR : Reads w Ms rsH) (hm : ∀ i x, Ms[i]? = some x → IsH lv i x) (hw0 : 0 < w.heap.size) (N : Nat) (hN : N ≤ 500) :
    Calls Tryz.prog 11 #[.agg #[.slice AM 5 cM, .slice AC 8 cC], .agg #[.int .i64 (-1), .int .i64 4], .slice none 0 0, .int .i64 (N : Int)] w (RanRel 5 8 N (csOf fa 5) (fun i y => y = xO lv fa (sg i) 4) (fun i m => m = mH lv N i) w) := by
  have hml : Ms.length = 5 := hr.mods.len.1.symm
  refine runRack_rel hr rsH hR (kdsH lv) (by simp [kdsH]) (h_good hm) ((List.range 5).map fun i : Nat => (i : Int)) (order_id _ _ 5 (fun c hc => (csOf_lt fa hfa 5 c hc).1)) (-1) (.inl rfl) 4 (by decide) [] (by simp) true 0 0 0 _ hw0 (HasS.empty ..) N hN (HSt lv fa (fun _ => False)) (HJ lv fa (fun _ => False)) (h_start hml hm _) (fun r _ s hs => ?_) (fun r _ s hs i xs a h => ?_) (fun r _ j i kd l hj hk hl => ?_) (fun r _ s hs => hs.next) _ (fun i s y _ hs hy => ?_) _ (fun i kd u s hs hk hu X g f => ?_)
  · rw [readB_none (by rw [hs.un]; exact no_rings lv _)]
    exact hs.begin
  · rw [hs.un] at h
    exact absurd h (no_rings lv _ i xs a)
  · exact h_feeds lv (fun i hi => one_h hfa hlv r _ (fun _ _ _ h => h) (fun _ _ _ => rfl) hi) j i kd l hj hk hl
  · exact hs.is i rfl (fun h => h) 4 y hy
  · have hi : i < 5 := by have := (List.getElem?_eq_some_iff.1 hk).1; simpa [kdsH] using this
    have hk' : (kdsH lv)[i]? = some (kdH lv i) := range_get _ hi
    rw [hk'] at hk
    injection hk with hk
    subst hk
    rw [hs.un, unsH_get lv _ hi] at hu
    injection hu with hu
    subst hu
    exact modU_h lv N i X g f
theorem run_hf (hfa : ∀ i, 0 < i → fa i < i) (hlv : ∀ i h, lv i = some h → h ≤ 4) (hr : RkAt w bM bC lo hi AM 5 cM AC 8 cC Ms (csOf fa 5)) (hR : Reads w Ms rsH) (hm : ∀ i x, Ms[i]? = some x → IsH lv i x) (hw0 : 0 < w.heap.size) (N : Nat) (hN : N ≤ 500) (f : Ft) (hf : okF 5 f) (bL : Nat) (vL : Value) (hLs : HasC 4 ftC bL 0 w.heap.size w vL [f]) (hbL : bL < w.heap.size) :
    Calls Tryz.prog 10 #[.agg #[.slice AM 5 cM, .slice AC 8 cC], .agg #[.int .i64 (-1), .int .i64 4], .slice none 0 0, vL, .int .i64 (N : Int)] w (RanRel 5 8 N (csOf fa 5) (fun i y => ¬ (f.fr ≤ i ∧ i < f.til) → y = xO lv fa (sg i) 4) (fun i m => m = mH lv N i) w) := by
  have hml : Ms.length = 5 := hr.mods.len.1.symm
  refine runFaults_rel hr rsH hR (kdsH lv) (by simp [kdsH]) (h_good hm) ((List.range 5).map fun i : Nat => (i : Int)) (order_id _ _ 5 (fun c hc => (csOf_lt fa hfa 5 c hc).1)) (-1) (.inl rfl) 4 (by decide) [] (by simp) true 0 0 0 _ hw0 (HasS.empty ..) N hN [f] (by simp) (fun g hg => by rw [List.mem_singleton.1 hg]; exact hf) bL vL hLs hbL (HSt lv fa (fun r => f.fr ≤ r ∧ r < f.til)) (h_start hml hm _) (fun r _ s hs i xs a h => ?_) (fun r _ s hs hsl => ⟨HJ lv fa (fun r => f.fr ≤ r ∧ r < f.til) r, ?_, fun j i kd l hj hk hl => ?_, fun s' hs' => hs'.next⟩) _ (fun i s y _ hs hy => fun hna => hs.is i rfl hna 4 y hy) _ (fun i kd u s hs hk hu X g f => ?_)
  · rw [hs.un] at h
    exact absurd h (no_rings lv _ i xs a)
  · rw [readB_none (by rw [hs.un]; exact no_rings lv _)]
    exact hs.begin
  · refine h_feeds lv (fun i hi => one_h hfa hlv r _ (fun k y hk hy => ?_) (fun hna k y => ?_) hi) j i kd l hj hk hl
    · refine good_faulty (by omega) ?_ r [f] hy
      obtain ⟨z, hz⟩ := getElem?_some (xs := s.2) (j := k) (by omega)
      rw [List.getD_eq_getElem?_getD, hz]
      exact hs.good k z hz
    · show (if actsOn f r k then _ else y) = y
      have : actsOn f r k = false := by
        unfold actsOn
        by_cases h1 : f.fr ≤ r
        · have h2 : ¬ r < f.til := fun h => hna ⟨h1, h⟩
          simp [h2]
        · simp [h1]
      rw [this]; rfl
  · have hi : i < 5 := by have := (List.getElem?_eq_some_iff.1 hk).1; simpa [kdsH] using this
    have hk' : (kdsH lv)[i]? = some (kdH lv i) := range_get _ hi
    rw [hk'] at hk
    injection hk with hk
    subst hk
    rw [hs.un, unsH_get lv _ hi] at hu
    injection hu with hu
    subst hu
    exact modU_h lv N i X g f
end
end Go.Proofs.YtkjlodoppmipfaaGreat
