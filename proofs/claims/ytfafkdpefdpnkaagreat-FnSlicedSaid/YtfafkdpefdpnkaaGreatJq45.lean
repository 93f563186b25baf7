/- Tables: plain mathematics. The model's table functions that look. A slice appended to what the call owns, in a region that draws; the model's copy of a table. The model's copy of a table. The model puts a point into a table. The model's PutPoint. -/
import Derived.Test.YtfafkdpefdpnkaaGreatJq40
import Derived.Test.YtfafkdpefdpnkaaGreatJq42
import Derived.Deep.RegionHeld3
import Derived.Deep.AppendSrc
import Derived.Maps.AppendAt
import Derived.Deep.AppendLies
namespace Go.Proofs.YtfafkdpefdpnkaaGreat
section
open Go.RowKit Ieee

/-- A finite number in units of the least place. -/
def keyX (x : Nat) : Int := sgn (negOf Ieee.single x) (units Ieee.single (rungOf Ieee.single x))
def keyC (z : Cx) : Int × Int := (keyX z.1, keyX z.2)
theorem ordEq_fin {x y : Nat} (hx : finX x) (hy : finX y) : ordEq x y = decide (keyX x = keyX y) := by
  unfold ordEq
  have e : FloatKind.f32.format.order x y = _ := order_rung Ieee.single (x := x) (y := y) (by rw [s_inf]; exact hx.2) (by rw [s_inf]; exact hy.2)
  rw [e]
  unfold keyX
  rw [Bool.eq_iff_iff]
  simp [cmp_eq]
theorem eqC_fin {p q : Cx} (hp : finC p) (hq : finC q) : eqC p q = decide (keyC p = keyC q) := by
  unfold eqC keyC
  rw [ordEq_fin hp.1 hq.1, ordEq_fin hp.2 hq.2]
  rw [Bool.eq_iff_iff]
  simp

/-- The place of a point. -/
def atC (Q : List Cx) (z : Cx) : Option Nat := Q.findIdx? fun p => eqC p z

theorem atC_some {Q : List Cx} {z : Cx} {i : Nat} (h : atC Q z = some i) : ∃ p, Q[i]? = some p ∧ eqC p z = true ∧ ∀ j q, j < i → Q[j]? = some q → eqC q z = false := by
  unfold atC at h
  rw [List.findIdx?_eq_some_iff_getElem] at h
  obtain ⟨h1, h2, h3⟩ := h
  refine ⟨Q[i], List.getElem?_eq_getElem h1, h2, fun j q hj hq => ?_⟩
  obtain ⟨hj', rfl⟩ := List.getElem?_eq_some_iff.1 hq
  have := h3 j hj
  simpa using this
theorem atC_none {Q : List Cx} {z : Cx} : atC Q z = none ↔ ∀ p ∈ Q, eqC p z = false := by
  unfold atC
  rw [List.findIdx?_eq_none_iff]
theorem atC_lt {Q : List Cx} {z : Cx} {i : Nat} (h : atC Q z = some i) : i < Q.length := by
  obtain ⟨p, hp, _⟩ := atC_some h
  exact (List.getElem?_eq_some_iff.1 hp).1

def finB (z : Cx) : Bool := decide (rungOf Ieee.single z.1 < 2139095040) && decide (rungOf Ieee.single z.2 < 2139095040)

/-- A label put for a point. -/
def putT (t : Tab) (z : Cx) (n : Int) : Option Tab :=
  match atC t.1 z with
  | some i => some (t.1, t.2.set i n)
  | none => if finB z then some (t.1 ++ [z], t.2 ++ [n]) else none

def smallC (z : Cx) : Prop := z.1 < 4294967296 ∧ z.2 < 4294967296
theorem finC_of {z : Cx} (h : smallC z) (hf : finB z = true) : finC z := by
  unfold finB at hf
  rw [Bool.and_eq_true, decide_eq_true_iff, decide_eq_true_iff] at hf
  exact ⟨⟨h.1, hf.1⟩, ⟨h.2, hf.2⟩⟩
theorem finB_of {z : Cx} (h : finC z) : finB z = true := by
  unfold finB; rw [Bool.and_eq_true, decide_eq_true_iff, decide_eq_true_iff]; exact ⟨h.1.2, h.2.2⟩

theorem Valid.put {t u : Tab} {z : Cx} {n : Int} (h : Valid t) (hz : smallC z) (hl : t.1.length < 64) (hu : putT t z n = some u) : Valid u ∧ t.1.length ≤ u.1.length ∧ u.1.length ≤ t.1.length + 1 := by
  unfold putT at hu
  cases ha : atC t.1 z with
  | some i =>
    rw [ha] at hu
    injection hu with hu
    subst hu
    exact ⟨⟨by simp [h.len], h.most, h.fin, h.apart⟩, Nat.le_refl _, Nat.le_succ _⟩
  | none =>
    rw [ha] at hu
    simp only [] at hu
    by_cases hf : finB z = true
    · rw [if_pos hf] at hu
      injection hu with hu
      subst hu
      have hfz := finC_of hz hf
      refine ⟨⟨by simp [h.len], by simp; omega, fun p hp => ?_, ?_⟩, by simp, by simp⟩
      · rcases List.mem_append.1 hp with g | g
        · exact h.fin p g
        · rw [List.mem_singleton.1 g]; exact hfz
      · unfold Apart
        rw [List.pairwise_append]
        refine ⟨h.apart, List.pairwise_singleton _ _, fun a ha' b hb => ?_⟩
        rw [List.mem_singleton.1 hb]
        have h1 := (atC_none.1 ha) a ha'
        rw [eqC_fin (h.fin a ha') hfz] at h1
        rw [eqC_fin hfz (h.fin a ha')]
        rw [decide_eq_false_iff_not] at h1 ⊢
        exact fun e => h1 e.symm
    · rw [if_neg hf] at hu; cases hu

/-- The label of a point. -/
def labelT (t : Tab) (z : Cx) : Option Int := (atC t.1 z).bind fun i => t.2[i]?

/-- Of a valid table: a point's place is the one place with its key. -/
theorem atC_key {Q : List Cx} (hf : ∀ p ∈ Q, finC p) (ha : Apart Q) {z : Cx} (hz : finC z) {i : Nat} {p : Cx} (hp : Q[i]? = some p) : atC Q z = some i ↔ keyC p = keyC z := by
  constructor
  · intro h
    obtain ⟨q, hq, h1, _⟩ := atC_some h
    rw [hp] at hq; cases hq
    rw [eqC_fin (hf p (List.mem_of_getElem? hp)) hz] at h1
    exact of_decide_eq_true h1
  · intro h
    have hpz : eqC p z = true := by rw [eqC_fin (hf p (List.mem_of_getElem? hp)) hz, decide_eq_true_iff]; exact h
    cases hc : atC Q z with
    | none => have := atC_none.1 hc p (List.mem_of_getElem? hp); rw [this] at hpz; cases hpz
    | some j =>
      obtain ⟨q, hq, h1, h2⟩ := atC_some hc
      have hji : j = i := by
        rcases Nat.lt_trichotomy j i with g | g | g
        · exfalso
          rw [eqC_fin (hf q (List.mem_of_getElem? hq)) hz] at h1
          have e := of_decide_eq_true h1
          have := (List.pairwise_iff_getElem.1 ha) j i (List.getElem?_eq_some_iff.1 hq).1 (List.getElem?_eq_some_iff.1 hp).1 g
          obtain ⟨_, e1⟩ := List.getElem?_eq_some_iff.1 hq
          obtain ⟨_, e2⟩ := List.getElem?_eq_some_iff.1 hp
          rw [e1, e2, eqC_fin (hf p (List.mem_of_getElem? hp)) (hf q (List.mem_of_getElem? hq)), decide_eq_false_iff_not] at this
          exact this (h.trans e.symm)
        · exact g
        · have := h2 i p g hp
          rw [this] at hpz; cases hpz
      rw [hji]

theorem labelT_key {t : Tab} (h : Valid t) {z z' : Cx} (hz : finC z) (hz' : finC z') (e : keyC z = keyC z') : labelT t z = labelT t z' := by
  have : atC t.1 z = atC t.1 z' := by
    cases hc : atC t.1 z with
    | none =>
      symm
      rw [atC_none] at hc ⊢
      intro p hp
      have := hc p hp
      rw [eqC_fin (h.fin p hp) hz, e, ← eqC_fin (h.fin p hp) hz'] at this
      exact this
    | some i =>
      obtain ⟨p, hp, _⟩ := atC_some hc
      symm
      rw [atC_key h.fin h.apart hz' hp, ← e]
      exact (atC_key h.fin h.apart hz hp).1 hc
  unfold labelT; rw [this]

theorem label_put {t u : Tab} {z : Cx} {n : Int} (h : Valid t) (hz : finC z) (hl : t.1.length < 64) (hu : putT t z n = some u) {q : Cx} (hq : finC q) :
    labelT u q = if keyC q = keyC z then some n else labelT t q := by
  have hsm : smallC z := ⟨hz.1.1, hz.2.1⟩
  obtain ⟨hv, _, _⟩ := h.put hsm hl hu
  unfold putT at hu
  cases ha : atC t.1 z with
  | some i =>
    rw [ha] at hu
    injection hu with hu
    obtain ⟨p, hp, _⟩ := atC_some ha
    have hk := (atC_key h.fin h.apart hz hp).1 ha
    subst hu
    by_cases e : keyC q = keyC z
    · rw [if_pos e]
      unfold labelT
      have : atC t.1 q = some i := by rw [atC_key h.fin h.apart hq hp, hk, e]
      show (atC t.1 q).bind _ = _
      rw [this]
      show (t.2.set i n)[i]? = some n
      rw [List.getElem?_set_self (by rw [h.len]; exact atC_lt ha)]
    · rw [if_neg e]
      unfold labelT
      show (atC t.1 q).bind (fun j => (t.2.set i n)[j]?) = _
      cases hc : atC t.1 q with
      | none => rfl
      | some j =>
        have hji : i ≠ j := by
          rintro rfl
          have := (atC_key h.fin h.apart hq hp).1 hc
          exact e (this.symm.trans hk)
        show (t.2.set i n)[j]? = t.2[j]?
        rw [List.getElem?_set_ne hji]
  | none =>
    rw [ha] at hu
    simp only [] at hu
    rw [if_pos (finB_of hz)] at hu
    injection hu with hu
    subst hu
    have hlast : (t.1 ++ [z])[t.1.length]? = some z := by simp
    by_cases e : keyC q = keyC z
    · rw [if_pos e]
      unfold labelT
      show (atC (t.1 ++ [z]) q).bind (fun j => (t.2 ++ [n])[j]?) = _
      rw [(atC_key hv.fin hv.apart hq hlast).2 e.symm]
      show (t.2 ++ [n])[t.1.length]? = some n
      rw [← h.len]; simp
    · rw [if_neg e]
      unfold labelT
      show (atC (t.1 ++ [z]) q).bind (fun j => (t.2 ++ [n])[j]?) = (atC t.1 q).bind _
      cases hc : atC t.1 q with
      | none =>
        have : atC (t.1 ++ [z]) q = none := by
          rw [atC_none] at hc ⊢
          intro p hp
          rcases List.mem_append.1 hp with g | g
          · exact hc p g
          · rw [List.mem_singleton.1 g, eqC_fin hz hq, decide_eq_false_iff_not]
            exact fun e' => e e'.symm
        rw [this]; rfl
      | some j =>
        obtain ⟨p, hp, _⟩ := atC_some hc
        have hjl := atC_lt hc
        have hp2 : (t.1 ++ [z])[j]? = some p := by rw [List.getElem?_append_left hjl]; exact hp
        rw [(atC_key hv.fin hv.apart hq hp2).2 ((atC_key h.fin h.apart hq hp).1 hc)]
        show (t.2 ++ [n])[j]? = t.2[j]?
        rw [List.getElem?_append_left (by rw [h.len]; exact hjl)]

theorem label_own {t : Tab} (h : Valid t) {i : Nat} {p : Cx} (hp : t.1[i]? = some p) : atC t.1 p = some i ∧ labelT t p = t.2[i]? := by
  have h1 := (atC_key h.fin h.apart (h.fin p (List.mem_of_getElem? hp)) hp).2 rfl
  exact ⟨h1, by unfold labelT; rw [h1]; rfl⟩
end
section
open Go.RowKit

theorem l2Finite_any (z : Cx) (w : World) : Calls Tryz.prog 33 #[.complex .f32 z.1 z.2] w (GivesB w (finB z)) := by
  obtain ⟨x, y⟩ := z
  obtain ⟨b1, h1⟩ : ∃ b, b = decide (rungOf Ieee.single x < 2139095040) := ⟨_, rfl⟩
  obtain ⟨b2, h2⟩ : ∃ b, b = decide (rungOf Ieee.single y < 2139095040) := ⟨_, rfl⟩
  have e : finB (x, y) = (b1 && b2) := by rw [h1, h2]; rfl
  have C1 := Lib.hid (fun w => l1Finite_any x w)
  have C2 := Lib.hid (fun w => l1Finite_any y w)
  rw [← h1] at C1
  rw [← h2] at C2
  rw [e]
  clear h1 h2 e
  simp only
  go_enter Tryz.func33, Tryz.ntmps33
  go_wp2_with fail
  refine (C1.out _).mono ?_
  rintro _ _ ⟨n, rfl, rfl⟩
  cases b1
  · go_wp2_with fail
    go_ret
    exact ⟨_, rfl, rfl⟩
  · go_wp2_with fail
    refine (C2.out _).mono ?_
    rintro _ _ ⟨m, rfl, rfl⟩
    go_wp2_with fail
    go_ret
    exact ⟨_, rfl, rfl⟩

/-- An answer, and nothing old is turned. -/
def Bool0 (r : Bool) (w : World) (e : Ending) (w' : World) : Prop := e = .returned (.bool r) ∧ Span 0 0 w w'

/-- The first m points are good; behind them the list ends, or a point is not finite. -/
structure GoodTo (Q : List Cx) (m : Nat) (r : Bool) : Prop where
  fin : ∀ j p, j < m → Q[j]? = some p → finB p = true
  apart : ∀ i j p q, i < j → j < m → Q[i]? = some p → Q[j]? = some q → eqC p q = false
  ends : (m = Q.length ∧ r = true) ∨ (r = false ∧ ∃ p, Q[m]? = some p ∧ finB p = false)

set_option maxRecDepth 100000 in
set_option maxHeartbeats 1000000 in
theorem spec_isTable_gen (t : Tab) (m : Nat) (r : Bool) (o : Bool) (lo hi : Nat) (v : Value) (w : World) (hx : HasTab o lo hi w v t) (hlen : t.2.length = t.1.length) (h64 : t.1.length ≤ 64) (hg : GoodTo t.1 m r) :
    Calls Tryz.prog 19 #[v] w (Bool0 r w) := by
  obtain ⟨b1, b2, vP, vL, rfl, hne, g1, g2⟩ := hx
  obtain ⟨A, cap, rfl, hcap, hc⟩ := g1
  obtain ⟨A', cap', rfl, hcap', _⟩ := g2
  have HG := Lib.hid hg
  have hm : m ≤ t.1.length := by
    rcases hg.ends with ⟨h, _⟩ | ⟨_, p, hp, _⟩
    · omega
    · have := (List.getElem?_eq_some_iff.1 hp).1; omega
  have hend : Hid (m < t.1.length → r = false) := fun h => by
    rcases hg.ends with ⟨h2, _⟩ | ⟨h2, _⟩
    · omega
    · exact h2
  have hend2 : Hid (m = t.1.length → r = true) := fun h => by
    rcases hg.ends with ⟨_, h2⟩ | ⟨_, p, hp, _⟩
    · exact h2
    · have := (List.getElem?_eq_some_iff.1 hp).1; omega
  obtain ⟨len, hl⟩ : ∃ len, len = t.1.length := ⟨_, rfl⟩
  rw [hlen] at hcap' ⊢
  have HL := Lib.hid hl
  rw [← hl] at hcap hcap' h64 hm ⊢
  clear hl hg hlen
  have HC := Lib.hid hc; clear hc
  have i1 : decide ((64 : Int) < (len : Int)) = false := by rw [decide_eq_false_iff_not]; omega
  have i2 : (len : Int) ≤ 64 := by omega
  go_enter Tryz.func19, Tryz.ntmps19
  go_wp2_with fail
  obtain ⟨y1, y2⟩ := box2_new w (.slice A len cap) (.slice A' len cap') 26
  have HS := Lib.hid ((Span.refl 0 0 w).alloc (.cells #[.slice A len cap, .slice A' len cap'] 26))
  generalize w.alloc (.cells #[.slice A len cap, .slice A' len cap'] 26) = w0 at *
  go_loopw [22] (fun c wr => ∃ (k n : Nat), k ≤ m ∧ c = .int .i64 k ∧ wr = w0.drewN n) (fun c _ => len - (intOf c).toNat)
  case atStart => exact ⟨0, 0, Nat.zero_le _, rfl, rfl⟩
  case round =>
    obtain ⟨k, n, hk, rfl, rfl⟩ := hrel
    by_cases hlt : k < len
    · obtain ⟨off, rfl, _, _, hb, hcell, _⟩ := HC.out (by rw [← HL.out]; omega)
      obtain ⟨z, hz⟩ := getElem?_some (xs := t.1) (j := k) (by rw [← HL.out]; exact hlt)
      have hck : w0.cell? ⟨b1, off + k, none⟩ = some (.complex .f32 z.1 z.2) := (HS.out.cells (Nat.le_refl _)).1 b1 _ hb |>.trans (hcell k z hz)
      have HCL := Lib.hid hcell
      have HZ := Lib.hid hz
      have HBB := Lib.hid hb
      clear hcell hz hb
      go_wp2_with fail
      refine (l2Finite_any z _).mono ?_
      rintro _ _ ⟨n2, rfl, rfl⟩
      by_cases hkm : k < m
      · rw [HG.out.fin k z hkm HZ.out]
        obtain ⟨wo, hwo⟩ : ∃ wo, wo = w0 := ⟨_, rfl⟩
        go_wp2_with fail
        go_loopw [5] (fun c wr => ∃ (i d : Nat), i ≤ k ∧ c = .int .i64 i ∧ wr = w0.drewN d) (fun c _ => k - (intOf c).toNat)
        case atStart => exact ⟨0, _, Nat.zero_le _, rfl, rfl⟩
        case round =>
          clear hwo
          obtain ⟨i, d, hi, rfl, rfl⟩ := hrel
          by_cases hik : i < k
          · obtain ⟨p, hp⟩ := getElem?_some (xs := t.1) (j := i) (by rw [← HL.out]; omega)
            have hci : w0.cell? ⟨b1, off + i, none⟩ = some (.complex .f32 p.1 p.2) := (HS.out.cells (Nat.le_refl _)).1 b1 _ HBB.out |>.trans (HCL.out i p hp)
            have hne := HG.out.apart i k p z hik hkm hp HZ.out
            unfold eqC ordEq at hne
            clear hp
            go_wp2_with fail
            go_roundw
            case rel => exact ⟨i + 1, _, by omega, by go_num, rfl⟩
            case measure => simp [intOf]; omega
          · have hik2 : i = k := by omega
            subst hik2
            go_wp2_with fail
            go_roundw
            case rel => exact ⟨i + 1, _, by omega, by go_num, rfl⟩
            case measure => simp [intOf]; omega
      · have hkm2 : m = k := by omega
        subst hkm2
        have hr : r = false := hend.out (by rw [← HL.out]; exact hlt)
        have hf : finB z = false := by
          rcases HG.out.ends with ⟨h, _⟩ | ⟨_, p, hp, hf⟩
          · rw [← HL.out] at h; omega
          · rw [HZ.out] at hp; cases hp; exact hf
        rw [hf]
        subst hr
        clear hf
        go_wp2_with fail
        go_ret
        exact ⟨rfl, HS.out.drewN _⟩
    · have hke : k = len := by omega
      have hr : r = true := hend2.out (by rw [← HL.out]; omega)
      subst hr
      have HK := Lib.hid hke
      clear hke
      go_wp2_with fail
      go_ret
      exact ⟨rfl, HS.out.drewN _⟩

theorem good_valid {t : Tab} (h : Valid t) : GoodTo t.1 t.1.length true := by
  refine ⟨fun j p _ hp => finB_of (h.fin p (List.mem_of_getElem? hp)), fun i j p q hij hj hp hq => ?_, .inl ⟨rfl, rfl⟩⟩
  obtain ⟨h1, e1⟩ := List.getElem?_eq_some_iff.1 hp
  obtain ⟨h2, e2⟩ := List.getElem?_eq_some_iff.1 hq
  have := (List.pairwise_iff_getElem.1 h.apart) i j h1 h2 hij
  rw [e1, e2, eqC_fin (h.fin q (List.mem_of_getElem? hq)) (h.fin p (List.mem_of_getElem? hp)), decide_eq_false_iff_not] at this
  rw [eqC_fin (h.fin p (List.mem_of_getElem? hp)) (h.fin q (List.mem_of_getElem? hq)), decide_eq_false_iff_not]
  exact fun e => this e.symm
theorem good_last {t : Tab} {z : Cx} (h : Valid t) (hz : finB z = false) : GoodTo (t.1 ++ [z]) t.1.length false := by
  have g := good_valid h
  refine ⟨fun j p hj hp => g.fin j p hj (by rwa [List.getElem?_append_left hj] at hp), fun i j p q hij hj hp hq => g.apart i j p q hij hj (by rwa [List.getElem?_append_left (by omega)] at hp) (by rwa [List.getElem?_append_left hj] at hq), .inr ⟨rfl, z, by simp, hz⟩⟩

theorem spec_isTable_true (t : Tab) (o : Bool) (lo hi : Nat) (v : Value) (w : World) (hx : HasTab o lo hi w v t) (ht : Valid t) : Calls Tryz.prog 19 #[v] w (Bool0 true w) :=
  spec_isTable_gen t _ _ o lo hi v w hx ht.len ht.most (good_valid ht)
theorem spec_isTable_last (t : Tab) (z : Cx) (n : Int) (o : Bool) (lo hi : Nat) (v : Value) (w : World) (hx : HasTab o lo hi w v (t.1 ++ [z], t.2 ++ [n])) (ht : Valid t) (hl : t.1.length < 64) (hz : finB z = false) : Calls Tryz.prog 19 #[v] w (Bool0 false w) :=
  spec_isTable_gen (t.1 ++ [z], t.2 ++ [n]) _ _ o lo hi v w hx (by simp [ht.len]) (by simp; omega) (good_last ht hz)

/-- The place of a point, or -1. -/
def placeZ (r : Option Nat) : Int := match r with | some i => (i : Int) | none => -1

theorem atC_take {Q : List Cx} {z : Cx} {k : Nat} (h : ∀ j q, j < k → Q[j]? = some q → eqC q z = false) {p : Cx} (hp : Q[k]? = some p) (he : eqC p z = true) : atC Q z = some k := by
  unfold atC
  rw [List.findIdx?_eq_some_iff_getElem]
  obtain ⟨h1, h2⟩ := List.getElem?_eq_some_iff.1 hp
  refine ⟨h1, by rw [h2]; exact he, fun j hj => ?_⟩
  have := h j Q[j] hj (List.getElem?_eq_getElem (by omega))
  rw [this]; simp

set_option maxRecDepth 100000 in
set_option maxHeartbeats 1000000 in
theorem l2At_any (t : Tab) (z : Cx) (o : Bool) (lo hi : Nat) (v : Value) (w : World) (hx : HasTab o lo hi w v t) (hm : t.1.length ≤ 4194304) :
    Calls Tryz.prog 39 #[v, .complex .f32 z.1 z.2] w fun e w' => e = .returned (.int .i64 (placeZ (atC t.1 z))) ∧ Span 0 0 w w' := by
  obtain ⟨b1, b2, vP, vL, rfl, hne, g1, g2⟩ := hx
  obtain ⟨A, cap, rfl, hcap, hc⟩ := g1
  obtain ⟨A', cap', rfl, hcap', _⟩ := g2
  obtain ⟨z1, z2⟩ := z
  simp only
  obtain ⟨len, hl⟩ : ∃ len, len = t.1.length := ⟨_, rfl⟩
  have HL := Lib.hid hl
  rw [← hl] at hcap hm ⊢
  clear hl
  have HC := Lib.hid hc; clear hc
  have i2 : (len : Int) ≤ 4194304 := by omega
  go_enter Tryz.func39, Tryz.ntmps39
  go_wp2_with fail
  have HS := Lib.hid ((Span.refl 0 0 w).alloc (.cells #[.slice A len cap, .slice A' t.2.length cap'] 26))
  generalize w.alloc (.cells #[.slice A len cap, .slice A' t.2.length cap'] 26) = w0 at *
  go_loopw [10] (fun c wr => ∃ k : Nat, k ≤ len ∧ c = .int .i64 k ∧ (∀ j q, j < k → t.1[j]? = some q → eqC q (z1, z2) = false) ∧ w0 = wr) (fun c _ => len - (intOf c).toNat)
  case atStart => exact ⟨0, Nat.zero_le _, rfl, fun j q hj => absurd hj (by omega), rfl⟩
  case round =>
    obtain ⟨k, hk, rfl, hno, rfl⟩ := hrel
    have HNO := Lib.hid hno
    clear hno
    by_cases hlt : k < len
    · obtain ⟨off, rfl, _, _, hb, hcell, _⟩ := HC.out (by rw [← HL.out]; omega)
      obtain ⟨p, hp⟩ := getElem?_some (xs := t.1) (j := k) (by rw [← HL.out]; exact hlt)
      have hck : w0.cell? ⟨b1, off + k, none⟩ = some (.complex .f32 p.1 p.2) := (HS.out.cells (Nat.le_refl _)).1 b1 _ hb |>.trans (hcell k p hp)
      have HP := Lib.hid hp
      clear hcell hp hb
      by_cases he : eqC p (z1, z2) = true
      · have HR := Lib.hid (atC_take HNO.out HP.out he)
        have h2 : (FloatKind.f32.format.order p.1 z1 == some .eq && FloatKind.f32.format.order p.2 z2 == some .eq) = true := he
        rw [Bool.and_eq_true] at h2
        obtain ⟨h3, h4⟩ := h2
        clear he
        go_wp2_with fail
        go_ret
        rw [HR.out]
        exact ⟨rfl, HS.out⟩
      · have hef : eqC p (z1, z2) = false := by simpa using he
        have h2 : (FloatKind.f32.format.order p.1 z1 == some .eq && FloatKind.f32.format.order p.2 z2 == some .eq) = false := hef
        have HEF := Lib.hid hef
        clear he hef
        go_wp2_with fail
        go_roundw
        case rel =>
          refine ⟨k + 1, by omega, by go_num, fun j q hj hq => ?_, by first | rfl | trivial⟩
          by_cases hjk : j = k
          · subst hjk; rw [HP.out] at hq; cases hq; exact HEF.out
          · exact HNO.out j q (by omega) hq
        case measure => simp [intOf]; omega
    · have hke : k = len := by omega
      have HK := Lib.hid hke
      have HR : Hid (atC t.1 (z1, z2) = none) := by
        unfold Hid
        rw [atC_none]
        intro p hp
        obtain ⟨j, hj, rfl⟩ := List.mem_iff_getElem.1 hp
        exact HNO.out j _ (by rw [HK.out, HL.out]; exact hj) (List.getElem?_eq_getElem hj)
      clear hke
      go_wp2_with fail
      go_ret
      rw [HR.out]
      exact ⟨rfl, HS.out⟩
end
section
open Go.RowKit

theorem HasS.newsOf {α : Type} {val : α → Value} {o : Bool} {b lo hi : Nat} {w : World} {A : Option Addr} {n c : Nat} {xs : List α} (h : HasS val o b lo hi w (.slice A n c) xs) :
    n = xs.length ∧ (A = none → xs = []) ∧ ∀ ad, A = some ad → ∀ j u, (xs.map val)[j]? = some u → w.cell? (ad.add j) = some u := by
  obtain ⟨A', cap, he, hcap, hc⟩ := h
  injection he with e1 e2 e3
  subst e1 e2 e3
  refine ⟨rfl, fun ha => ?_, fun ad had j u hu => ?_⟩
  · cases xs with
    | nil => rfl
    | cons x l =>
      obtain ⟨off, h, _⟩ := hc (by simp)
      rw [ha] at h; cases h
  · rw [List.getElem?_map, Option.map_eq_some_iff] at hu
    obtain ⟨x, hx, rfl⟩ := hu
    have hj := (List.getElem?_eq_some_iff.1 hx).1
    obtain ⟨off, h, _, _, _, hcell, _⟩ := hc (by omega)
    rw [had] at h; cases h
    rw [Addr.add_lit]
    exact hcell j x hx

theorem setCells_nil (w : World) (b o : Nat) : w.setCells b o [] = w := rfl

theorem run_append_any {P : Program} {α : Type} {val : α → Value} (h1 : ∀ a, (val a).oneCell' = true) (w : World) (base : Nat) (t ty e : TypeId) (i : TypeInfo) (z : Value) (bytes : Nat) (ht : P.underlying t = some (.slice e)) (hi : P.info? e = some i) (hz : i.zero = some z)
    (hsize : i.size = 1) (hby : i.bytes = bytes) (hzs : z.cells.size = 1) (v : Value) (n : Nat) (ys : List Value) (hown : w.ownsRow base e 1 v n ys)
    {o : Bool} {b lo hi' : Nat} {x : Value} {xs : List α} (hx : HasS val o b lo hi' w x xs) (h63 : n + xs.length ≤ maxLen) (hbytes : (n + xs.length) * bytes ≤ 140737488355328) (hbase : base ≤ w.heap.size) :
    ∃ v' w', (Builtin.append_ #[t, t] ty #[v, x]).run P w = .ok v' w' ∧ w'.ownsRow base e 1 v' (n + xs.length) (ys ++ xs.map val) ∧ w.grownBy w' v.ownBlock ∧ (v'.ownBlock = v.ownBlock ∨ v'.ownBlock = some w.heap.size) := by
  obtain ⟨A, c, rfl, hc⟩ := id hx
  obtain ⟨_, hn, hnews⟩ := hx.newsOf
  cases A with
  | some ad =>
    obtain ⟨v', w', r1, r2, r3, _, r5⟩ := run_append_own_at (P := P) w base t ty e i z 1 bytes ht hi hz hsize hby hzs (by omega) v n ys hown ad xs.length c (xs.map val) (by simp) (hnews ad rfl)
      (fun u hu => by obtain ⟨a, _, rfl⟩ := List.mem_map.1 hu; exact h1 a) h63 hbytes hbase
    exact ⟨v', w', r1, r2, r3, r5⟩
  | none =>
    have he := hn rfl
    subst he
    have hsrc := Src.ofNil (P := P) w (size := i.size) (tx := t) ht c
    rcases hown.2 with ⟨rfl, rfl⟩ | ⟨g, cap, cur, rfl, hb, hg, hnc, hr⟩
    · refine ⟨.slice none 0 0, w, ?_, by simpa using hown, World.grownBy.refl _ _, .inl rfl⟩
      simp [Builtin.append_, run_underlying ht, sizeOf, typeInfo, hi, Builtin.lenOf, Builtin.firstCells]
    · refine ⟨.slice (some ⟨g, 0, none⟩) n cap, w, ?_, by simpa using hown, World.grownBy.refl _ _, .inl rfl⟩
      have := run_append_room_src (P := P) w t t ty e i ht hi g 0 n cap (.slice none 0 c) 0 [] hsrc (by omega) (fun j hj => absurd hj (by simp)) (fun j hj => absurd hj (by simp))
      rw [setCells_nil] at this
      simpa using this

/-- What is owned of another type stays owned. -/
def Keeps (e : TypeId) (w w' : World) : Prop := ∀ (B : Nat) (e' : TypeId) (s : Nat) (v : Value) (n : Nat) (ys : List Value), e' ≠ e → w.ownsRow B e' s v n ys → w'.ownsRow B e' s v n ys

theorem own_lit {w : World} {B g : Nat} {e : TypeId} (h : w.heap[g]? = some (.cells #[] e (0, 0))) (hb : B ≤ g) : w.ownsRow B e 1 (.slice (some ⟨g, 0, none⟩) 0 0) 0 [] :=
  ⟨by simp, .inr ⟨g, 0, #[], rfl, hb, h, Nat.le_refl _, by unfold maxLen; omega, by simp, by simp⟩⟩

theorem step_append_any {P : Program} {α : Type} {val : α → Value} (h1 : ∀ a, (val a).oneCell' = true) {ops : Array Oper} {op : Oper} {a : Act} {w : World} {K : Act → World → Prop} {Q : Exit → Act → World → Prop} {E : Prop} (hgd : op.guard = none) (s x : Operand) (t : TypeId)
    (ho : op.op = .call { callee := .builtin .append, args := #[s, x], argTypes := #[t, t] })
    (e : TypeId) (i : TypeInfo) (z : Value) (bytes : Nat) (ht : P.underlying t = some (.slice e)) (hi : P.info? e = some i) (hz : i.zero = some z)
    (hsize : i.size = 1) (hby : i.bytes = bytes) (hzs : z.cells.size = 1) (hb8 : bytes ≤ 8)
    (w0 : World) {o : Bool} {b lo hi' : Nat} {vx : Value} {xs : List α} (hx : HasS val o b lo hi' w0 vx xs) (hlen : xs.length ≤ 4194304) (hxe : a.eval x = vx)
    (v : Value) (hs : a.eval s = v) (hown : w.ownsRow w0.heap.size e 1 v 0 []) (hS : Span 0 0 w0 w)
    (hK : ∀ A q w', w'.ownsRow w0.heap.size e 1 (.slice A xs.length q) xs.length (xs.map val) → Span 0 0 w0 w' → Keeps e w w' → K (a.put op.dst (.slice A xs.length q)) w') :
    if Region.wanted op (yielded ops a.tmps) = true then Oper.wp P op a w K Q else E := by
  have hw : Region.wanted op (yielded ops a.tmps) = true := by simp [Region.wanted, hgd]
  rw [if_pos hw]
  have hx' : HasS val o b lo hi' w vx xs := hx.span hS (.inl (Nat.le_refl _))
  obtain ⟨v', w', hr, h2, h3, _⟩ := run_append_any (P := P) h1 w w0.heap.size t op.type e i z bytes ht hi hz hsize hby hzs v 0 [] hown hx' (by unfold maxLen; omega) (by
    have : (0 + xs.length) * bytes ≤ (0 + xs.length) * 8 := Nat.mul_le_mul (Nat.le_refl _) hb8
    omega) hS.size
  rw [Nat.zero_add, List.nil_append] at h2
  have hsp : Span 0 0 w0 w' := hS.grown h3 (fun k hk => .inr (hown.lt k hk).1)
  have hkp : Keeps e w w' := fun B e' s' v0 n0 ys hne h0 => h0.kept h3 (by
    rcases owns_apart h0 hown hne with h | h
    · exact .inl h
    · exact .inr h)
  have hv : ∃ A q, v' = .slice A xs.length q := by
    rcases h2.2 with ⟨rfl, h0⟩ | ⟨g, cap, cur, rfl, _⟩
    · rw [h0]; exact ⟨_, _, rfl⟩
    · exact ⟨_, _, rfl⟩
  obtain ⟨A, q, rfl⟩ := hv
  unfold Oper.wp execOp
  simp only [ho, resolve, invoke, builtin, Sem.run_bind, Sem.run_pure, Result.andThen_ok, List.map_toArray, List.map_cons, List.map_nil, hs, hxe, hr]
  exact hK A q w' h2 hsp hkp

theorem Span.wid0 {w w' : World} (h : Span 0 0 w w') (lo hi : Nat) : Span lo hi w w' := h.wide fun _ _ hk => absurd hk.2 (by omega)
theorem cxV_one (a : Cx) : (cxV a).oneCell' = true := rfl
theorem intV_one (a : Int) : (intV a).oneCell' = true := rfl

/-- A table that the call owns. -/
def OwnsT (t : Tab) (w : World) (e : Ending) (w' : World) : Prop :=
  ∃ A q A' q', e = .returned (.agg #[.slice A t.1.length q, .slice A' t.2.length q']) ∧ w'.ownsRow w.heap.size 28 1 (.slice A t.1.length q) t.1.length (t.1.map cxV) ∧
    w'.ownsRow w.heap.size 3 1 (.slice A' t.2.length q') t.2.length (t.2.map intV) ∧ Span 0 0 w w'

theorem box_limbs {w0 w' : World} {B R : Nat} {u v : Value} (hb : Box B u v w0) (hR : B < R) (h : Span R (R + 1) w0 w') : w'.cell? ⟨B, 0, none⟩ = some u ∧ w'.cell? ⟨B, 1, none⟩ = some v ∧ Span R (R + 1) w0 w' := by
  obtain ⟨_, h1, h2, _⟩ := hb.span h (.inr (.inl hR))
  exact ⟨h1, h2, h⟩
end
section
open Go.RowKit

theorem ownsRow_lower {w : World} {B B' : Nat} {e : TypeId} {s : Nat} {v : Value} {n : Nat} {xs : List Value} (h : w.ownsRow B e s v n xs) (hb : B' ≤ B) : w.ownsRow B' e s v n xs := by
  obtain ⟨h1, h2 | ⟨g, cap, cur, hv, hg, r⟩⟩ := h
  · exact ⟨h1, .inl h2⟩
  · exact ⟨h1, .inr ⟨g, cap, cur, hv, Nat.le_trans hb hg, r⟩⟩
theorem lit_at {W : World} {g : Nat} {o : Obj} (h : g = W.heap.size) : (W.alloc o).heap[g]? = some o := by subst h; exact heap_alloc_new _ _
theorem lit_old {W : World} {g : Nat} {o o' : Obj} (h2 : W.heap[g]? = some o') : (W.alloc o).heap[g]? = some o' := by
  have hg : g < W.heap.size := (Array.getElem?_eq_some_iff.1 h2).1
  rw [Below.heap_alloc _ _ _ hg]; exact h2

set_option maxRecDepth 100000 in
set_option maxHeartbeats 4000000 in
theorem l2Copy_any (t : Tab) (o : Bool) (lo hi : Nat) (v : Value) (w : World) (hx : HasTab o lo hi w v t) (h1 : t.1.length ≤ 4194304) (h2 : t.2.length ≤ 4194304) :
    Calls Tryz.prog 38 #[v] w (OwnsT t w) := by
  obtain ⟨ip, hip, hzp, hsp, hbp⟩ := info_parts info_c64
  obtain ⟨il, hil, hzl, hsl, hbl⟩ := info_parts info_int
  obtain ⟨b1, b2, vP, vL, rfl, hne, g1, g2⟩ := hx
  have G1 := Lib.hid (g1.weak (Nat.le_refl _) (.inr (Nat.le_refl _)))
  have G2 := Lib.hid (g2.weak (Nat.le_refl _) (.inr (Nat.le_refl _)))
  obtain ⟨AP, cP, rfl, _, _⟩ := g1
  obtain ⟨AL, cL, rfl, _, _⟩ := g2
  obtain ⟨lp, hlp⟩ : ∃ n, n = t.1.length := ⟨_, rfl⟩
  obtain ⟨ll, hll⟩ : ∃ n, n = t.2.length := ⟨_, rfl⟩
  have HLP := Lib.hid hlp
  have HLL := Lib.hid hll
  rw [← hlp] at G1 ⊢
  rw [← hll] at G2 ⊢
  have M1 : Hid (t.1.length ≤ 4194304) := h1
  have M2 : Hid (t.2.length ≤ 4194304) := h2
  clear h1 h2 hlp hll
  go_enter Tryz.func38, Tryz.ntmps38
  go_wp2_with fail
  have X0 := Lib.hid ((Box.new w (.slice AP lp cP) (.slice AL ll cL) 26).alloc (.cells #[.slice none 0 0, .slice none 0 0] 26))
  have X1 := Lib.hid (Box.new (w.alloc (.cells #[.slice AP lp cP, .slice AL ll cL] 26)) (.slice none 0 0) (.slice none 0 0) 26)
  have HS := Lib.hid ((((Span.refl 0 0 w).alloc (.cells #[.slice AP lp cP, .slice AL ll cL] 26))).alloc (.cells #[.slice none 0 0, .slice none 0 0] 26))
  rw [show (w.alloc (.cells #[.slice AP lp cP, .slice AL ll cL] 26)).heap.size = w.heap.size + 1 by simp] at X1
  generalize (w.alloc (.cells #[.slice AP lp cP, .slice AL ll cL] 26)).alloc (.cells #[.slice none 0 0, .slice none 0 0] 26) = w0 at *
  have G1' := Lib.hid (G1.out.span HS.out (.inl (Nat.le_refl _)))
  have G2' := Lib.hid (G2.out.span HS.out (.inl (Nat.le_refl _)))
  clear G1 G2
  obtain ⟨R, hR⟩ : ∃ R, R = w.heap.size + 1 := ⟨_, rfl⟩
  have HR : Hid (w.heap.size < R) := by unfold Hid; omega
  have HR2 : Hid (w.heap.size ≤ R) := by unfold Hid; omega
  rw [← hR] at X1
  rw [← hR]
  have HRE := Lib.hid hR
  clear hR
  have B1 : Hid (R < w0.heap.size) := X1.out.1
  go_region_held3 (fun w' => w'.cell? ⟨w.heap.size, 0, none⟩ = some (.slice AP lp cP) ∧ w'.cell? ⟨w.heap.size, 1, none⟩ = some (.slice AL ll cL) ∧ Span R (R + 1) w0 w')
    (first
      | exact box_limbs X0.out HR.out ((Span.refl _ _ w0).drew)
      | exact box_limbs X0.out HR.out (sp2.wid0 _ _)
      | exact box_limbs X0.out HR.out (sp1.wid0 _ _)
      | (go_split_ands; exact box_limbs X0.out HR.out (Span.alloc (by assumption) _))
      | (exact box_limbs X0.out HR.out (((sp2.wid0 R (R + 1)).setCell (.inl ⟨Nat.le_refl _, Nat.lt_succ_self _⟩) _).setCell (.inl ⟨Nat.le_refl _, Nat.lt_succ_self _⟩) _)))
    ((go_split_ands
      first
      | (refine step_append_any cxV_one rfl (.tmp 3) (.tmp 5) 23 rfl 28 ip (.complex .f32 0 0) 8 Tryz.underlying23 hip hzp hsp hbp rfl (by omega) w0 G1'.out M1.out rfl _ rfl ?own ?sp ?_
         case own => first | exact own_lit (lit_at (by simp)) (by simp) | exact own_lit (lit_old (lit_at (by simp))) (by simp)
         case sp => first | exact (Span.refl 0 0 w0).drew.alloc _ | exact ((Span.refl 0 0 w0).drew.alloc _).alloc _
         rw [← HLP.out]
         intro A1 q1 w1 ho1 sp1 kp1)
      | (refine step_append_any intV_one rfl (.tmp 7) (.tmp 9) 24 rfl 3 il (.int .i64 0) 8 Tryz.underlying24 hil hzl hsl hbl rfl (by omega) w0 G2'.out M2.out rfl _ rfl ?own ?sp ?_
         case own => first | exact own_lit (lit_at (by simp)) (by first | exact sp1.size | simp) | exact kp1 _ _ _ _ _ _ (by decide) (own_lit (lit_at (by simp)) (by simp)) | exact kp1 _ _ _ _ _ _ (by decide) (own_lit (lit_old (lit_at (by simp))) (by simp))
         case sp => first | exact sp1 | exact sp1.alloc _
         rw [← HLL.out]
         intro A2 q2 w2 ho2 sp2 kp2
         have X2 := X1.out.span sp2 (.inl (Nat.le_refl _))
         obtain ⟨_, r0, r1, r2, r3⟩ := id X2
         have HB := Lib.hid (box_stored (u' := .slice A1 lp q1) (v' := .slice A2 ll q2) X2)
         clear X2)))
  all_goals
    have hp : w2.ownsRow w0.heap.size 28 1 (.slice A1 lp q1) lp (t.1.map cxV) := by
      first | exact kp2 _ _ _ _ _ _ (by decide) ho1 | exact kp2 _ _ _ _ _ _ (by decide) (ho1.alloc _)
    have HP := Lib.hid (ownsRow_setCell_below (ownsRow_setCell_below hp (a := ⟨R, 0, none⟩) B1.out (.slice A1 lp q1)) (a := ⟨R, 1, none⟩) B1.out (.slice A2 ll q2))
    have HL := Lib.hid (ownsRow_setCell_below (ownsRow_setCell_below ho2 (a := ⟨R, 0, none⟩) B1.out (.slice A1 lp q1)) (a := ⟨R, 1, none⟩) B1.out (.slice A2 ll q2))
    have HW := Lib.hid (((sp2.after HS.out).setCell (p := ⟨R, 0, none⟩) (.inr HR2.out) (.slice A1 lp q1)).setCell (p := ⟨R, 1, none⟩) (.inr HR2.out) (.slice A2 ll q2))
    have HZ : Hid (w.heap.size ≤ w0.heap.size) := HS.out.size
    clear hp ho1 ho2 kp1 kp2 sp1 sp2
    go_wp2_with fail
    refine bodyPost_ret (v := .agg #[.slice A1 lp q1, .slice A2 ll q2]) (by simp [results, Tryz.results38, go_sem, HB.out.1, HB.out.2]) rfl ⟨A1, q1, A2, q2, by rw [← HLP.out, ← HLL.out], ?_, ?_, HW.out⟩
    · rw [← HLP.out]; exact ownsRow_lower HP.out HZ.out
    · rw [← HLL.out]; exact ownsRow_lower HL.out HZ.out
end
section
open Go.RowKit

/-- A table in the box G whose slices the call owns; R is the box of the result. -/
structure Putting (R G B : Nat) (w : World) (P : List Cx) (L : List Int) (vP vL : Value) (wr : World) : Prop where
  g : wr.heap[G]? = some (.cells #[vP, vL] 26 (0, 0))
  r : Box R (.slice none 0 0) (.slice none 0 0) wr
  p : wr.ownsRow B 28 1 vP P.length (P.map cxV)
  l : wr.ownsRow B 3 1 vL L.length (L.map intV)
  s : Span 0 0 w wr
  ap : vP.ownBlock ≠ some G
  al : vL.ownBlock ≠ some G
  hB : B ≤ wr.heap.size

theorem Putting.span {R G B : Nat} {w : World} {P : List Cx} {L : List Int} {vP vL : Value} {wr w1 : World} (h : Putting R G B w P L vP vL wr) (s : Span 0 0 wr w1) : Putting R G B w P L vP vL w1 := by
  have hg : wr.grownBy w1 none := ⟨s.os, s.tape, s.output, s.size, fun k hk _ => s.block k hk (by omega)⟩
  have hG : G < wr.heap.size := (Array.getElem?_eq_some_iff.1 h.g).1
  have hn : ∀ v : Value, v.ownBlock = none ∨ v.ownBlock ≠ none := fun v => by cases v.ownBlock <;> simp
  exact ⟨by rw [s.block G hG (by omega)]; exact h.g, h.r.span s (.inl (Nat.le_refl _)), h.p.kept hg (hn _), h.l.kept hg (hn _), s.after h.s, h.ap, h.al, Nat.le_trans h.hB s.size⟩

theorem Putting.cells {R G B : Nat} {w : World} {P : List Cx} {L : List Int} {vP vL : Value} {wr : World} (h : Putting R G B w P L vP vL wr) :
    wr.cell? ⟨G, 0, none⟩ = some vP ∧ wr.cell? ⟨G, 1, none⟩ = some vL ∧ wr.cell? ⟨R, 0, none⟩ = some (.slice none 0 0) ∧ wr.cell? ⟨R, 1, none⟩ = some (.slice none 0 0) ∧ wr.frozen? ⟨R, 0, none⟩ = false ∧ wr.frozen? ⟨R, 1, none⟩ = false := by
  obtain ⟨_, r0, r1, r2, r3⟩ := h.r
  exact ⟨by simp [World.cell?, h.g], by simp [World.cell?, h.g], r0, r1, r2, r3⟩

theorem Putting.points {R G B : Nat} {w : World} {P : List Cx} {L : List Int} {vP vL : Value} {wr w1 : World} (h : Putting R G B w P L vP vL wr) (hR : R < B) (hRG : R ≠ G) (hw : w.heap.size ≤ R) (hwG : w.heap.size ≤ G) {o : Obj} {v' : Value} {z : Cx}
    (ho : w1.ownsRow B 28 1 v' (P.length + 1) (P.map cxV ++ [cxV z])) (hg : (wr.alloc o).grownBy w1 vP.ownBlock) (hat : v'.ownBlock = vP.ownBlock ∨ v'.ownBlock = some (wr.alloc o).heap.size) :
    w1.cell? ⟨G, 0, none⟩ = some vP ∧ w1.cell? ⟨G, 1, none⟩ = some vL ∧ w1.frozen? ⟨G, 0, none⟩ = false ∧ Putting R G B w (P ++ [z]) L v' vL (w1.setCell ⟨G, 0, none⟩ v') := by
  have hGs : G < wr.heap.size := (Array.getElem?_eq_some_iff.1 h.g).1
  have e1 : w1.heap[G]? = some (.cells #[vP, vL] 26 (0, 0)) := by
    rw [hg.block G (by simp; omega) (Ne.symm h.ap), Below.heap_alloc _ _ _ hGs]; exact h.g
  have hRs := h.r.1
  have r1 : Box R (.slice none 0 0) (.slice none 0 0) w1 := by
    obtain ⟨_, r0, r1, r2, r3⟩ := h.r.alloc o
    have e := hg.block R (by simp; omega) (ownsRow_block_ge h.p hR)
    exact ⟨Nat.lt_of_lt_of_le (by simp; omega) hg.size, (World.cell?_of_block (w := wr.alloc o) (a := ⟨R, 0, none⟩) e).trans r0, (World.cell?_of_block (w := wr.alloc o) (a := ⟨R, 1, none⟩) e).trans r1,
      (World.frozen?_of_block (w := wr.alloc o) (a := ⟨R, 0, none⟩) e).trans r2, (World.frozen?_of_block (w := wr.alloc o) (a := ⟨R, 1, none⟩) e).trans r3⟩
  have l1 : w1.ownsRow B 3 1 vL L.length (L.map intV) := (h.l.alloc o).kept hg (owns_apart h.l h.p (by decide))
  have gs := grown_setCell w1 G 0 v'
  have s1 : Span 0 0 w w1 := (h.s.alloc o).grown hg (fun k hk => by have := (h.p.lt k hk).1; right; omega)
  have ap' : v'.ownBlock ≠ some G := by
    rcases hat with e | e
    · rw [e]; exact h.ap
    · rw [e]; simp; omega
  refine ⟨by simp [World.cell?, e1], by simp [World.cell?, e1], by simp [World.frozen?, e1], ?_, r1.span ((Span.refl G (G + 1) w1).setCell (p := ⟨G, 0, none⟩) (.inl ⟨Nat.le_refl _, Nat.lt_succ_self _⟩) v') (by omega), ?_, l1.kept gs (.inr h.al), s1.setCell (.inr hwG) _, ap', h.al, ?_⟩
  · simp [World.setCell, Array.getElem?_modify, e1]
  · have := ho.kept gs (.inr ap')
    simpa using this
  · have h1 := hg.size
    have h2 := h.hB
    simp [World.setCell] at h1 ⊢
    omega

theorem Putting.labels {R G B : Nat} {w : World} {P : List Cx} {L : List Int} {vP vL : Value} {wr w1 : World} (h : Putting R G B w P L vP vL wr) (hR : R < B) (hRG : R ≠ G) (hw : w.heap.size ≤ R) (hwG : w.heap.size ≤ G) {o : Obj} {v' : Value} {z : Int}
    (ho : w1.ownsRow B 3 1 v' (L.length + 1) (L.map intV ++ [intV z])) (hg : (wr.alloc o).grownBy w1 vL.ownBlock) (hat : v'.ownBlock = vL.ownBlock ∨ v'.ownBlock = some (wr.alloc o).heap.size) :
    w1.cell? ⟨G, 0, none⟩ = some vP ∧ w1.cell? ⟨G, 1, none⟩ = some vL ∧ w1.frozen? ⟨G, 1, none⟩ = false ∧ Putting R G B w P (L ++ [z]) vP v' (w1.setCell ⟨G, 1, none⟩ v') := by
  have hGs : G < wr.heap.size := (Array.getElem?_eq_some_iff.1 h.g).1
  have e1 : w1.heap[G]? = some (.cells #[vP, vL] 26 (0, 0)) := by
    rw [hg.block G (by simp; omega) (Ne.symm h.al), Below.heap_alloc _ _ _ hGs]; exact h.g
  have hRs := h.r.1
  have r1 : Box R (.slice none 0 0) (.slice none 0 0) w1 := by
    obtain ⟨_, r0, r1, r2, r3⟩ := h.r.alloc o
    have e := hg.block R (by simp; omega) (ownsRow_block_ge h.l hR)
    exact ⟨Nat.lt_of_lt_of_le (by simp; omega) hg.size, (World.cell?_of_block (w := wr.alloc o) (a := ⟨R, 0, none⟩) e).trans r0, (World.cell?_of_block (w := wr.alloc o) (a := ⟨R, 1, none⟩) e).trans r1,
      (World.frozen?_of_block (w := wr.alloc o) (a := ⟨R, 0, none⟩) e).trans r2, (World.frozen?_of_block (w := wr.alloc o) (a := ⟨R, 1, none⟩) e).trans r3⟩
  have l1 : w1.ownsRow B 28 1 vP P.length (P.map cxV) := (h.p.alloc o).kept hg (owns_apart h.p h.l (by decide))
  have gs := grown_setCell w1 G 1 v'
  have s1 : Span 0 0 w w1 := (h.s.alloc o).grown hg (fun k hk => by have := (h.l.lt k hk).1; right; omega)
  have ap' : v'.ownBlock ≠ some G := by
    rcases hat with e | e
    · rw [e]; exact h.al
    · rw [e]; simp; omega
  refine ⟨by simp [World.cell?, e1], by simp [World.cell?, e1], by simp [World.frozen?, e1], ?_, r1.span ((Span.refl G (G + 1) w1).setCell (p := ⟨G, 1, none⟩) (.inl ⟨Nat.le_refl _, Nat.lt_succ_self _⟩) v') (by omega), l1.kept gs (.inr h.ap), ?_, s1.setCell (.inr hwG) _, h.ap, ap', ?_⟩
  · simp [World.setCell, Array.getElem?_modify, e1]
  · have := ho.kept gs (.inr ap')
    simpa using this
  · have h1 := hg.size
    have h2 := h.hB
    simp [World.setCell] at h1 ⊢
    omega

/-- A label is written anew. -/
theorem Putting.relabel {R G B : Nat} {w : World} {P : List Cx} {L : List Int} {vP : Value} {wr : World} {g cap i : Nat} (h : Putting R G B w P L vP (.slice (some ⟨g, 0, none⟩) L.length cap) wr) (hR : R < B) (hw : w.heap.size ≤ B) (n : Int) :
    Putting R G B w P (L.set i n) vP (.slice (some ⟨g, 0, none⟩) L.length cap) (wr.setCell ⟨g, i, none⟩ (intV n)) := by
  obtain ⟨h1, h2⟩ := h.l.stored i (intV n)
  have hgB : B ≤ g := (h.l.lt g rfl).1
  have hgl : g < wr.heap.size := (h.l.lt g rfl).2
  have hGg : g ≠ G := fun e => h.al (by rw [← e]; rfl)
  have sp : Span g (g + 1) wr (wr.setCell ⟨g, i, none⟩ (intV n)) := (Span.refl g (g + 1) wr).setCell (p := ⟨g, i, none⟩) (.inl ⟨Nat.le_refl _, Nat.lt_succ_self _⟩) _
  have hGs : G < wr.heap.size := (Array.getElem?_eq_some_iff.1 h.g).1
  refine ⟨by rw [sp.block G hGs (by omega)]; exact h.g, h.r.span sp (by omega), h.p.kept h2 (owns_apart h.p h.l (by decide)), ?_, h.s.setCell (.inr (by simp only; omega)) _, h.ap, h.al, by simpa [World.setCell] using h.hB⟩
  rw [List.map_set, List.length_set]
  exact h1

theorem Putting.hasTab {R G B : Nat} {w : World} {P : List Cx} {L : List Int} {vP vL : Value} {wr : World} (h : Putting R G B w P L vP vL wr) : HasTab true B wr.heap.size wr (.agg #[vP, vL]) (P, L) := owned_tab h.p h.l

/-- The result is written. -/
theorem Putting.result {R G B : Nat} {w : World} {P : List Cx} {L : List Int} {vP vL : Value} {wr : World} (h : Putting R G B w P L vP vL wr) (hR : R < B) (hw : w.heap.size ≤ R) :
    HasTab true w.heap.size ((wr.setCell ⟨R, 0, none⟩ vP).setCell ⟨R, 1, none⟩ vL).heap.size ((wr.setCell ⟨R, 0, none⟩ vP).setCell ⟨R, 1, none⟩ vL) (.agg #[vP, vL]) (P, L) ∧ Span 0 0 w ((wr.setCell ⟨R, 0, none⟩ vP).setCell ⟨R, 1, none⟩ vL) := by
  have hp := ownsRow_setCell_below (ownsRow_setCell_below h.p (a := ⟨R, 0, none⟩) hR vP) (a := ⟨R, 1, none⟩) hR vL
  have hl := ownsRow_setCell_below (ownsRow_setCell_below h.l (a := ⟨R, 0, none⟩) hR vP) (a := ⟨R, 1, none⟩) hR vL
  exact ⟨(owned_tab hp hl).weak (by omega) (.inl (Nat.le_refl _)), (h.s.setCell (.inr hw) _).setCell (.inr hw) _⟩
end
section
open Go.RowKit

set_option maxRecDepth 100000 in
set_option maxHeartbeats 4000000 in
theorem spec_putPoint (t : Tab) (z : Cx) (n : Int) (o : Bool) (lo hi : Nat) (v : Value) (w : World) (hx : HasTab o lo hi w v t) (ht : Valid t) (hl : t.1.length < 64) (hz : smallC z) :
    Calls Tryz.prog 27 #[v, .complex .f32 z.1 z.2, .int .i64 n] w (GivesTab (putT t z n) w) := by
  obtain ⟨ip, hip, hzp, hsp, hbp⟩ := info_parts info_c64
  obtain ⟨il, hil, hzl, hsl, hbl⟩ := info_parts info_int
  obtain ⟨z1, z2⟩ := z
  simp only
  obtain ⟨AP, cP, AL, cL, rfl⟩ := hx.form
  obtain ⟨lp, hlp⟩ : ∃ n, n = t.1.length := ⟨_, rfl⟩
  have hll : lp = t.2.length := by rw [ht.len]; exact hlp
  rw [← hll, ← hlp] at hx
  rw [← hll, ← hlp]
  rw [← hlp] at hl
  have HX := Lib.hid hx
  have HT := Lib.hid ht
  have HZ := Lib.hid hz
  have HLP := Lib.hid hlp
  have HLL := Lib.hid hll
  have HM : Hid (t.1.length ≤ 4194304 ∧ t.2.length ≤ 4194304) := ⟨by omega, by omega⟩
  clear hx ht hz hlp hll
  have X0 := Lib.hid ((Box.new w (.slice AP lp cP) (.slice AL lp cL) 26).alloc (.cells #[.slice none 0 0, .slice none 0 0] 26))
  have X1 := Lib.hid (Box.new (w.alloc (.cells #[.slice AP lp cP, .slice AL lp cL] 26)) (.slice none 0 0) (.slice none 0 0) 26)
  rw [show (w.alloc (.cells #[.slice AP lp cP, .slice AL lp cL] 26)).heap.size = w.heap.size + 1 by simp] at X1
  have HS := Lib.hid ((((Span.refl 0 0 w).alloc (.cells #[.slice AP lp cP, .slice AL lp cL] 26))).alloc (.cells #[.slice none 0 0, .slice none 0 0] 26))
  go_enter Tryz.func27, Tryz.ntmps27
  go_wp2_with fail
  refine (spec_isTable_true t o lo hi _ _ (HX.out.span HS.out (.inl (Nat.le_refl _))) HT.out).mono ?_
  rintro _ w1 ⟨rfl, s1⟩
  have Y0 := X0.out.span s1 (.inl (Nat.le_refl _))
  have Y1 := Lib.hid (X1.out.span s1 (.inl (Nat.le_refl _)))
  have S1 := Lib.hid (s1.after HS.out)
  obtain ⟨_, x0, x1, _, _⟩ := id Y0
  have Y0' := Lib.hid Y0
  clear s1 Y0
  go_wp2_with fail
  refine (l2Copy_any t o lo hi _ _ (HX.out.span S1.out (.inl (Nat.le_refl _))) HM.out.1 HM.out.2).mono ?_
  rintro _ w2 ⟨A1, q1, A2, q2, rfl, hp, hl2, s2⟩
  rw [← HLP.out] at hp ⊢
  rw [← HLL.out] at hl2 ⊢
  have hz1 : w.heap.size + 1 < w1.heap.size := Y1.out.1
  have TP : Hid (Putting (w.heap.size + 1) w2.heap.size w1.heap.size w t.1 t.2 (.slice A1 lp q1) (.slice A2 lp q2) (w2.alloc (.cells #[.slice A1 lp q1, .slice A2 lp q2] 26))) := by
    refine ⟨heap_alloc_new _ _, (Y1.out.span s2 (.inl (Nat.le_refl _))).alloc _, ?_, ?_, (s2.after S1.out).alloc _, fun h => ?_, fun h => ?_, Nat.le_trans s2.size (by simp)⟩
    · rw [← HLP.out]; exact hp.alloc _
    · rw [← HLL.out]; exact hl2.alloc _
    · have := (hp.lt _ h).2; omega
    · have := (hl2.lt _ h).2; omega
  have Y02 := Lib.hid ((Y0'.out.span s2 (.inl (Nat.le_refl _))).alloc (.cells #[.slice A1 lp q1, .slice A2 lp q2] 26))
  obtain ⟨_, y0, y1, _, _⟩ := Y02.out
  have S2 := Lib.hid (s2.after S1.out)
  have hz2 : w1.heap.size ≤ w2.heap.size := s2.size
  clear s2 hp hl2
  go_wp2_with fail
  refine (l2At_any t (z1, z2) o lo hi _ _ (HX.out.span (S2.out.alloc _) (.inl (Nat.le_refl _))) HM.out.1).mono ?_
  rintro _ w3 ⟨rfl, s3⟩
  have TP3 := Lib.hid (TP.out.span s3)
  clear TP s3 y0 y1 x0 x1
  cases ha : atC t.1 (z1, z2) with
  | some i =>
    have hi : i < lp := by rw [HLP.out]; exact atC_lt ha
    have e : putT t (z1, z2) n = some (t.1, t.2.set i n) := by unfold putT; rw [ha]
    simp only [placeZ]
    have HE := Lib.hid e
    clear ha e
    obtain ⟨g2, cap2, hv, hgb, hgl⟩ := TP3.out.l.form (by rw [← HLL.out]; omega)
    injection hv with e1 e2 e3
    subst e1 e3
    have TPi := TP3.out
    rw [e2] at TPi
    have HTR := TPi.relabel (i := i) (by omega) (by omega) n
    have dl : w3.cell? ⟨g2, i, none⟩ = some (intV ((t.2[i]?).getD 0)) := by
      rw [TPi.l.cellAt i (by rw [← HLL.out]; omega), List.getElem?_map]
      obtain ⟨x, hx⟩ := getElem?_some (xs := t.2) (j := i) (by rw [← HLL.out]; exact hi)
      rw [hx]; rfl
    have df := TPi.l.frozenAt i
    rw [← HLL.out] at HTR TPi
    obtain ⟨c0, c1, c2, c3, c4, c5⟩ := HTR.cells
    obtain ⟨_, d1, _⟩ := TPi.cells
    have HTR := Lib.hid HTR
    have HR := Lib.hid (HTR.out.result (by omega) (by omega))
    have HB := Lib.hid (box_stored (u' := .slice A1 lp q1) (v' := .slice (some ⟨g2, 0, none⟩) lp q2) HTR.out.r)
    have i0 : (0 : Int) ≤ (i : Int) := by omega
    have i1 : (i : Int) < (lp : Int) := by omega
    clear TPi TP3 e2
    unfold intV at *
    go_wp2_with fail
    refine bodyPost_ret (v := .tuple #[.agg #[.slice A1 lp q1, .slice (some ⟨g2, 0, none⟩) lp q2], .bool true]) (by simp [results, Tryz.results27, go_sem, HB.out.1, HB.out.2]) rfl ?_
    rw [HE.out]
    exact ⟨⟨_, rfl, HR.out.1⟩, HR.out.2⟩
  | none =>
    simp only [placeZ]
    obtain ⟨c0, c1, _⟩ := TP3.out.cells
    go_wp2_with (first
      | (at_builtin; refine wpList_append_own_at _ rfl _ _ 23 rfl w1.heap.size 28 ip (.complex .f32 0 0) 1 8 Tryz.underlying23 hip hzp hsp hbp rfl (by decide) _ _ _ rfl (TP3.out.p.alloc _) ⟨w3.heap.size, 0, none⟩ 1 1 [cxV (z1, z2)] rfl rfl ?c1 ?c2 ?c3 ?c4 ?c5 ?_; (case c1 => exact one_new _ _ _); (case c2 => exact one_cell (by rfl)); (case c3 => rw [← HLP.out]; unfold maxLen; omega); (case c4 => rw [← HLP.out]; omega); (case c5 => have := TP3.out.hB; simp; omega); intro v1 w4 ho hgr _ hat; obtain ⟨A3, q3, rfl⟩ := ownsRow_slice ho; obtain ⟨d0, d1, d2, D⟩ := TP3.out.points (by omega) (by omega) (by omega) (by omega) ho hgr hat; have HG1 := Lib.hid D; clear D ho hgr hat)
      | (at_builtin; ((refine wpList_append_own_at _ rfl _ _ 24 rfl w1.heap.size 3 il (.int .i64 0) 1 8 Tryz.underlying24 hil hzl hsl hbl rfl (by decide) _ _ _ rfl (HG1.out.l.alloc _) ⟨w4.heap.size, 0, none⟩ 1 1 [intV n] rfl rfl ?e1 ?e2 ?e3 ?e4 ?e5 ?_); (case e1 => exact one_new' _ _ _ _ _); (case e2 => exact one_cell (by rfl)); (case e3 => rw [← HLL.out]; unfold maxLen; omega); (case e4 => rw [← HLL.out]; omega); (case e5 => have := HG1.out.hB; simp at this ⊢; omega); intro v2 w5 ho hgr _ hat; obtain ⟨A4, q4, rfl⟩ := ownsRow_slice ho; obtain ⟨d3, d4, d5, D⟩ := HG1.out.labels (by omega) (by omega) (by omega) (by omega) ho hgr hat; have HG2 := Lib.hid D; clear D ho hgr hat)))
    clear c0 c1 d0 d1 d2 d3 d4 d5
    by_cases hf : finB (z1, z2) = true
    · have e : putT t (z1, z2) n = some (t.1 ++ [(z1, z2)], t.2 ++ [n]) := by unfold putT; rw [ha]; simp only []; rw [if_pos hf]
      have HE := Lib.hid e
      have HV := Lib.hid (HT.out.put HZ.out (by rw [← HLP.out]; exact hl) e).1
      clear ha hf e
      refine (spec_isTable_true _ true _ _ _ _ HG2.out.hasTab HV.out).mono ?_
      rintro _ w6 ⟨rfl, s6⟩
      have HG3 := Lib.hid (HG2.out.span s6)
      clear s6 HV
      obtain ⟨c0, c1, c2, c3, c4, c5⟩ := HG3.out.cells
      have HR := Lib.hid (HG3.out.result (by omega) (by omega))
      have HB := Lib.hid (box_stored (u' := .slice A3 (t.1.length + 1) q3) (v' := .slice A4 (t.2.length + 1) q4) HG3.out.r)
      go_wp2_with fail
      refine bodyPost_ret (v := .tuple #[.agg #[.slice A3 (t.1.length + 1) q3, .slice A4 (t.2.length + 1) q4], .bool true]) (by simp [results, Tryz.results27, go_sem, HB.out.1, HB.out.2]) rfl ?_
      rw [HE.out]
      exact ⟨⟨_, rfl, HR.out.1⟩, HR.out.2⟩
    · have hf2 : finB (z1, z2) = false := by simpa using hf
      have e : putT t (z1, z2) n = none := by unfold putT; rw [ha]; simp only []; rw [if_neg hf]
      have HE := Lib.hid e
      have HF := Lib.hid hf2
      clear ha hf hf2 e
      refine (spec_isTable_last t (z1, z2) n true _ _ _ _ HG2.out.hasTab HT.out (by rw [← HLP.out]; exact hl) HF.out).mono ?_
      rintro _ w6 ⟨rfl, s6⟩
      have HG3 := Lib.hid (HG2.out.span s6)
      clear s6
      obtain ⟨_, r0, r1, r2, r3⟩ := HG3.out.r
      have HB := Lib.hid (box_stored (u' := .slice none 0 0) (v' := .slice none 0 0) HG3.out.r)
      have HSS := Lib.hid ((HG3.out.s.setCell (p := ⟨w.heap.size + 1, 0, none⟩) (.inr (by simp)) (.slice none 0 0)).setCell (p := ⟨w.heap.size + 1, 1, none⟩) (.inr (by simp)) (.slice none 0 0))
      go_wp2_with fail
      refine bodyPost_ret (v := .tuple #[.agg #[.slice none 0 0, .slice none 0 0], .bool false]) (by simp [results, Tryz.results27, go_sem, HB.out.1, HB.out.2]) rfl ?_
      rw [HE.out]
      exact ⟨rfl, HSS.out⟩
end
end Go.Proofs.YtfafkdpefdpnkaaGreat
