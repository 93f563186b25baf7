/- FnSmall. Slices of numbers compared, marked, and looked at again. Marks looked at; tables compared, marked, looked at. -/
import Derived.Test.YtkjlodoppmipfaaGreatJg8
import Derived.Test.YtkjlodoppmipfaaGreatJg3
import Derived.Test.YtkjlodoppmipfaaGreatJg4
import Derived.Deep.RegionWith
namespace Go.Proofs.YtkjlodoppmipfaaGreat
section
open Ieee Go.RowKit

theorem FE.congC {op : BinOp} {k : FloatKind} {x x' y y' : Nat} (hx : FE k x x') (hy : FE k y y') : FE k (fC op k x y) (fC op k x' y') := by
  rcases hx with rfl | ⟨h1, h2⟩
  · rcases hy with rfl | ⟨h1, h2⟩
    · exact FE.refl _ _
    · exact .inr ⟨fC_nan (floatBits_nan_right h1), fC_nan (floatBits_nan_right h2)⟩
  · exact .inr ⟨fC_nan (floatBits_nan_left h1), fC_nan (floatBits_nan_left h2)⟩

theorem halves_congr {x x' : Nat} (h : FE .f32 x x') (k : Nat) : FE .f32 (halves x k) (halves x' k) := by
  induction k with
  | zero => exact h
  | succ k ih => exact FE.congC ih (FE.refl _ _)

theorem halves_add (x a b : Nat) : halves (halves x a) b = halves x (a + b) := by
  induction b with
  | zero => rfl
  | succ b ih => show fC .quo .f32 (halves (halves x a) b) 1073741824 = fC .quo .f32 (halves x (a + b)) 1073741824; rw [ih]

theorem zeroOf_rung (x : Nat) : rungOf Ieee.single (zeroOf x) = 0 := by
  unfold zeroOf
  cases negOf Ieee.single x <;> decide +kernel

theorem subB_flush (x : Nat) : subB (flushB x) = false := by
  unfold flushB
  cases h : subB x with
  | true =>
    simp only [if_true]
    unfold subB
    rw [zeroOf_rung]
    decide
  | false => simpa using h

theorem flush_flush (x : Nat) : flushB (flushB x) = flushB x := by
  rw [show flushB (flushB x) = if subB (flushB x) then zeroOf (flushB x) else flushB x from rfl, subB_flush]
  rfl

theorem nan_rung {x : Nat} (h : nanB .f32 x = true) : 2139095040 < rungOf Ieee.single x := by
  rcases Nat.lt_trichotomy (rungOf Ieee.single x) Ieee.single.infRung with h1 | h1 | h1
  · rw [not_nan_of_fin h1] at h; cases h
  · have hi := read_inf Ieee.single s_eb h1
    have : nanB .f32 x = false := by show (Ieee.single.read x).isNaN = false; rw [hi]; rfl
    rw [this] at h; cases h
  · rw [s_inf] at h1; exact h1

theorem nan_of_rung {x : Nat} (h : 2139095040 < rungOf Ieee.single x) : nanB .f32 x = true := read_nan Ieee.single s_eb (by rw [s_inf]; exact h)

theorem nan_subB {x : Nat} (h : nanB .f32 x = true) : subB x = false := by
  have := nan_rung h
  unfold subB
  rw [decide_eq_false_iff_not]; omega

theorem nan_flush {x : Nat} (h : nanB .f32 x = true) : flushB x = x := by
  unfold flushB; rw [nan_subB h]; rfl

theorem flush_not_nan {x : Nat} (h : nanB .f32 x = false) : nanB .f32 (flushB x) = false := by
  unfold flushB
  cases hs : subB x with
  | false => simpa using h
  | true =>
    simp only [if_true]
    exact not_nan_of_fin (by rw [zeroOf_rung, s_inf]; omega)

theorem isU_of_rung {x : Nat} (hx : x < 4294967296) (h : rungOf Ieee.single x < Ieee.single.infRung) : isU Ieee.single x (negOf Ieee.single x) (units Ieee.single (rungOf Ieee.single x)) := by
  refine ⟨rungOf Ieee.single x, ?_, h, rfl⟩
  unfold rungOf negOf Ieee.Format.word
  rw [s_sw]
  have h1 : x / 2147483648 < 2 := by omega
  rcases Nat.lt_or_ge (x / 2147483648) 1 with h2 | h2
  · have e : x / 2147483648 = 0 := by omega
    rw [e]
    simp; omega
  · have e : x / 2147483648 = 1 := by omega
    rw [e]
    simp; omega

theorem rep_s {q e : Nat} (hq : q < 16777216) (he : e ≤ 253) : Rep Ieee.single (q * 2 ^ e) := by
  refine rep_of _ (by rw [s_bin]; omega) ?_
  have h : Ieee.single.exponentBits = 8 := rfl
  rw [h]
  omega

theorem read_two_s : Ieee.single.read 1073741824 = .number false (2 ^ 23) (-22) := by decide +kernel
theorem isU_two_s : isU Ieee.single 1073741824 false (2 * 2 ^ 149) := ⟨1073741824, rfl, by rw [s_inf]; omega, by decide +kernel⟩

/-- A number from 2^-125 on loses no half. -/
theorem big_exact {x : Nat} (hx : x < 4294967296) (h : rungOf Ieee.single x < 2139095040) (hb : 16777216 ≤ rungOf Ieee.single x) : lossB x = false := by
  obtain ⟨kept, E, hu, hr, hk, hE1, hE2⟩ := split_rung h
  have hE : 1 ≤ E := by omega
  have h0 := isU_of_rung hx (by rw [s_inf]; exact h)
  rw [hu] at h0
  have hE' : E = (E - 1) + 1 := by omega
  have h1 : isU Ieee.single x (negOf Ieee.single x) (2 * (kept * 2 ^ (E - 1))) := by
    have e : kept * 2 ^ E = 2 * (kept * 2 ^ (E - 1)) := by
      rw [hE', Nat.pow_succ]
      simp only [Nat.add_sub_cancel]
      rw [Nat.mul_comm (2 ^ (E - 1)), Nat.mul_left_comm]
    rw [e] at h0
    exact h0
  obtain ⟨z, hz1, hz2⟩ := quo_isU h1 read_two_s rfl (by omega) (rep_s hk (by omega))
  have hz3 : isU Ieee.single z (negOf Ieee.single x) (kept * 2 ^ (E - 1)) := by simpa using hz2
  obtain ⟨y, hy1, hy2⟩ := mul_isU (K := 149) s_lp hz3 isU_two_s (rep_s (e := (E - 1) + 1) hk (by omega)) (twice_units kept (E - 1) 149)
  rw [← hE'] at hy2
  have hy3 : isU Ieee.single y (negOf Ieee.single x) (kept * 2 ^ E) := by simpa using hy2
  have hyx := isU_word hy3 h0
  unfold lossB
  have e1 : fC .quo .f32 x 1073741824 = z := by
    unfold fC
    have : floatBits .quo .f32 x 1073741824 = some z := hz1
    rw [this]
  have e2 : fC .mul .f32 z 1073741824 = y := by
    unfold fC
    have : floatBits .mul .f32 z 1073741824 = some y := hy1
    rw [this]
  rw [e1, e2, hyx, order_self, not_nan_of_fin (by rw [s_inf]; exact h)]
  rfl

set_option maxHeartbeats 400000 in
theorem at_any (B : Nat) (A : Option Addr) (n c : Nat) (i : Int) (w : World) (h0 : 0 ≤ i) (h1 : i ≤ 1000) (hn : n ≤ 1048576) (h : HasBy B w A n) :
    Calls Tryz.prog 8 #[.slice A n c, .int .i64 i] w fun e w' => (∃ v : Int, e = .returned (.int .i64 v) ∧ 0 ≤ v ∧ v ≤ 255) ∧ w = w' := by
  obtain ⟨k, rfl⟩ := Int.eq_ofNat_of_zero_le h0
  have hn' : (n : Int) ≤ 1048576 := by omega
  have h1' : (k : Int) ≤ 1000 := h1
  clear hn h0 h1
  by_cases hlt : k < n
  · obtain ⟨b, off, rfl, _, hcell⟩ := h (by omega)
    obtain ⟨u, u0, u1, hu⟩ := hcell k hlt
    clear hcell h
    go_enter Tryz.func8, Tryz.ntmps8
    go_wp2_with fail
    go_ret
    exact ⟨⟨u, rfl, u0, u1⟩, rfl⟩
  · have hge : n ≤ k := by omega
    clear h
    go_enter Tryz.func8, Tryz.ntmps8
    go_wp2_with fail
    go_ret
    exact ⟨⟨((k : Int) * 37 + (n : Int) * 11) % 256, rfl, by omega, by omega⟩, rfl⟩

theorem rung_C : rungOf Ieee.single 16777216 = 16777216 := by decide +kernel
theorem neg_C : negOf Ieee.single 16777216 = false := by decide +kernel
theorem units_C : units Ieee.single 16777216 = 16777216 := by decide +kernel

theorem units_lt24 {r : Nat} (h : r < 16777216) : units Ieee.single r = r := by
  unfold units
  rw [s_bin]
  by_cases hb : r < 8388608
  · rw [if_pos hb]
  · rw [if_neg hb]
    have h1 : r / 8388608 = 1 := by omega
    rw [h1]
    simp; omega

theorem units_ge24 {r : Nat} (h : 16777216 ≤ r) (hr : r < 2139095040) : 16777216 ≤ units Ieee.single r := by
  obtain ⟨kept, E, hu, he, hk, hE1, _⟩ := split_rung hr
  rw [hu]
  have h1 := hE1 (by omega)
  have h2 : 2 ^ 1 ≤ 2 ^ E := Nat.pow_le_pow_right (by decide) (by omega)
  have h3 : 8388608 * 2 ≤ kept * 2 ^ E := Nat.mul_le_mul h1 (by omega)
  omega

/-- How x and -x stand to 2^-125. -/
theorem big_cases {x : Nat} (h : rungOf Ieee.single x < 2139095040) :
    (FloatKind.f32.format.order x 16777216 = some .lt ∧ FloatKind.f32.format.order (Op.negFloat .f32 x) 16777216 = some .lt) ∨
    (16777216 ≤ rungOf Ieee.single x ∧ (FloatKind.f32.format.order x 16777216 = some .gt ∨ FloatKind.f32.format.order x 16777216 = some .eq ∨
      (FloatKind.f32.format.order x 16777216 = some .lt ∧ (FloatKind.f32.format.order (Op.negFloat .f32 x) 16777216 = some .gt ∨ FloatKind.f32.format.order (Op.negFloat .f32 x) 16777216 = some .eq)))) := by
  have hx : rungOf Ieee.single x < Ieee.single.infRung := by rw [s_inf]; exact h
  have hC : rungOf Ieee.single 16777216 < Ieee.single.infRung := by rw [rung_C, s_inf]; omega
  obtain ⟨n1, n2⟩ := neg_rung x
  have hn : rungOf Ieee.single (Op.negFloat .f32 x) < Ieee.single.infRung := by rw [n1]; exact hx
  have o1 := order_rung Ieee.single hx hC
  have o2 := order_rung Ieee.single hn hC
  rw [rung_C, neg_C, units_C] at o1 o2
  rw [n1, n2] at o2
  have o1' : FloatKind.f32.format.order x 16777216 = _ := o1
  have o2' : FloatKind.f32.format.order (Op.negFloat .f32 x) 16777216 = _ := o2
  rw [o1', o2']
  simp only [Option.some.injEq, cmp_lt, cmp_gt, cmp_eq]
  by_cases hb : 16777216 ≤ rungOf Ieee.single x
  · right
    have hu := units_ge24 hb h
    refine ⟨hb, ?_⟩
    cases negOf Ieee.single x <;> simp [sgn] <;> omega
  · left
    rw [units_lt24 (by omega)]
    cases negOf Ieee.single x <;> simp [sgn] <;> omega

/-- The end of the law: what stands behind the tests on x. -/
theorem small_end (x h1 h2 a b : Nat) (e1 : FE .f32 h1 (halves (halves x a) b)) (e2 : FE .f32 h2 (halves x (a + b))) :
    (nanB .f32 h1 = true ∧ nanB .f32 h2 = true) ∨ (h1 = h2 ∧ nanB .f32 h1 = false) := by
  rw [halves_add] at e1
  rcases e1.trans e2.symm with rfl | h
  · cases hn : nanB .f32 h1
    · exact .inr ⟨rfl, rfl⟩
    · exact .inl ⟨rfl, rfl⟩
  · exact .inl h

theorem small_end2 (x r1 r2 r3 : Nat) (p q : Int) (hp0 : 0 ≤ p) (hp1 : p < 160) (hq0 : 0 ≤ q) (hq1 : q < 160) (e1 : FE .f32 r1 (halves x (min p 400).toNat)) (e2 : FE .f32 r2 (halves r1 (min q 400).toNat)) (e3 : FE .f32 r3 (halves x (min (p + q) 400).toNat)) :
    (nanB .f32 r2 = true ∧ nanB .f32 r3 = true) ∨ (r2 = r3 ∧ nanB .f32 r2 = false) := by
  have a1 : (min p 400).toNat = p.toNat := by omega
  have a2 : (min q 400).toNat = q.toNat := by omega
  have a3 : (min (p + q) 400).toNat = p.toNat + q.toNat := by omega
  rw [a1] at e1
  rw [a2] at e2
  rw [a3] at e3
  exact small_end x r2 r3 _ _ (e2.trans (halves_congr e1 _)) e3
end
section
open Go.RowKit

/-- The same samples, but for the bits of NaN. -/
def SameL (xs ys : List Cx) : Prop := xs.length = ys.length ∧ ∀ (j : Nat) (x y : Cx), xs[j]? = some x → ys[j]? = some y → FE .f32 x.1 y.1 ∧ FE .f32 x.2 y.2

theorem SameL.refl (xs : List Cx) : SameL xs xs := ⟨rfl, fun j x y h1 h2 => by rw [h1] at h2; cases h2; exact ⟨FE.refl _ _, FE.refl _ _⟩⟩

/-- The mark k as a float. -/
def mkC (k : Nat) : Nat := (floatToFloatBits .f64 (floatOfInt .f64 (k : Int)) .f32).getD 0

theorem mkC_spec {k : Nat} (hk : k < 16777216) : floatToFloatBits .f64 (floatOfInt .f64 (k : Int)) .f32 = some (mkC k) ∧ nanB .f32 (mkC k) = false := by
  obtain ⟨r, hr, hu⟩ := rep_s (q := k) (e := 149) hk (by omega)
  have key : ∀ z n, n = 149 + 925 → AtY z k n → isU Ieee.double z false (k * 2 ^ (149 + 925)) := by intro z n hn h; subst hn; exact h
  have h := narrow (key _ _ (by rfl) (AtY.ofInt hk)) hu hr
  have e : mkC k = Ieee.single.word false r := by unfold mkC; rw [h]; rfl
  rw [e]
  refine ⟨h, ?_⟩
  have hi : isU Ieee.single (Ieee.single.word false r) false (units Ieee.single r) := ⟨r, rfl, hr, rfl⟩
  obtain ⟨m, g, h1, _⟩ := read_isU hi
  show (Ieee.single.read _).isNaN = false
  rw [h1]; rfl

theorem mk_conv {k : Nat} (hk : k < 16777216) (w : World) : fCv .f64 .f32 (floatOfInt .f64 (k : Int)) w = mkC k ∧ fCd .f64 .f32 (floatOfInt .f64 (k : Int)) = 0 := by
  obtain ⟨h, _⟩ := mkC_spec hk
  simp [fCv, fCd, h]

theorem one_conv (w : World) : fCv .f64 .f32 4607182418800017408 w = 1065353216 ∧ fCd .f64 .f32 4607182418800017408 = 0 := by
  have h : floatToFloatBits .f64 4607182418800017408 .f32 = some 1065353216 := by decide +kernel
  simp [fCv, fCd, h]

def marksC (n k : Nat) : List Cx := (List.range n).map fun j => (mkC (k + j), 1065353216)
def marksI (n k : Nat) : List Int := (List.range n).map fun j => ((k + j : Nat) : Int)
theorem marksC_length (n k : Nat) : (marksC n k).length = n := by simp [marksC]
theorem marksI_length (n k : Nat) : (marksI n k).length = n := by simp [marksI]
theorem marksC_get {n k j : Nat} {x : Cx} (h : (marksC n k)[j]? = some x) : j < n ∧ x = (mkC (k + j), 1065353216) := by
  simp only [marksC, List.getElem?_map, Option.map_eq_some_iff] at h
  obtain ⟨a, h1, rfl⟩ := h
  obtain ⟨h2, h3⟩ := List.getElem?_eq_some_iff.1 h1
  simp at h2 h3
  subst h3
  exact ⟨h2, rfl⟩
theorem marksI_get {n k j : Nat} {x : Int} (h : (marksI n k)[j]? = some x) : j < n ∧ x = ((k + j : Nat) : Int) := by
  simp only [marksI, List.getElem?_map, Option.map_eq_some_iff] at h
  obtain ⟨a, h1, rfl⟩ := h
  obtain ⟨h2, h3⟩ := List.getElem?_eq_some_iff.1 h1
  simp at h2 h3
  subst h3
  exact ⟨h2, rfl⟩

/-- A slice of marks, in the course of being marked: the first i are new. -/
def Marking (f : Nat → Value) (b off n i : Nat) (w0 w : World) : Prop :=
  Span b (b + 1) w0 w ∧ b < w.heap.size ∧ (∀ j, j < n → ∃ u, w.cell? ⟨b, off + j, none⟩ = some u) ∧ (∀ j, j < i → w.cell? ⟨b, off + j, none⟩ = some (f j)) ∧ (∀ j, j < n → w.frozen? ⟨b, off + j, none⟩ = false)

theorem Marking.step {f : Nat → Value} {b off n i : Nat} {w0 w : World} (h : Marking f b off n i w0 w) (hi : i < n) : Marking f b off n (i + 1) w0 (w.setCell ⟨b, off + i, none⟩ (f i)) := by
  obtain ⟨h1, h2, h3, h4, h5⟩ := h
  obtain ⟨u, hu⟩ := h3 i hi
  refine ⟨h1.setCell (.inl ⟨Nat.le_refl _, Nat.lt_succ_self _⟩) _, by simpa [World.setCell] using h2, fun j hj => ?_, fun j hj => ?_, fun j hj => by rw [World.frozen?_setCell]; exact h5 j hj⟩
  · by_cases hji : j = i
    · subst hji; exact ⟨_, World.cell?_setCell_same w ⟨b, off + j, none⟩ _ hu⟩
    · obtain ⟨u', hu'⟩ := h3 j hj
      exact ⟨u', (World.cell?_setCell_other w ⟨b, off + i, none⟩ ⟨b, off + j, none⟩ _ (by intro e; injection e; omega)).trans hu'⟩
  · by_cases hji : j = i
    · subst hji; exact World.cell?_setCell_same w ⟨b, off + j, none⟩ _ hu
    · exact (World.cell?_setCell_other w ⟨b, off + i, none⟩ ⟨b, off + j, none⟩ _ (by intro e; injection e; omega)).trans (h4 j (by omega))

/-- What marking gives. -/
def Marks {α : Type} (val : α → Value) (b lo hi : Nat) (v : Value) (xs : List α) (n k : Nat) (w : World) (e : Ending) (w' : World) : Prop :=
  e = .returned (.int .i64 ((k + n : Nat) : Int)) ∧ HasS val true b lo hi w' v xs ∧ Span b (b + 1) w w' ∧ Span lo hi w w' ∧ w'.heap.size = w.heap.size
end
section
open Go.RowKit

/-- A number comes back, and nothing old is turned. -/
def Num0 (r : Int) (w : World) (e : Ending) (w' : World) : Prop := e = .returned (.int .i64 r) ∧ Span 0 0 w w'
def True0 (w : World) (e : Ending) (w' : World) : Prop := e = .returned (.bool true) ∧ Span 0 0 w w'

/-- A table: points and labels. -/
abbrev Tab := List Cx × List Int
def HasTab (own : Bool) (lo hi : Nat) (w : World) (v : Value) (t : Tab) : Prop :=
  ∃ b1 b2 vP vL, v = .agg #[vP, vL] ∧ b1 ≠ b2 ∧ HasS cxV own b1 lo hi w vP t.1 ∧ HasS intV own b2 lo hi w vL t.2

theorem HasTab.span {own : Bool} {lo hi l r : Nat} {w w' : World} {v : Value} {t : Tab} (h : HasTab own lo hi w v t) (hs : Span l r w w') (hd : r ≤ l ∨ hi ≤ l ∨ r ≤ lo) : HasTab own lo hi w' v t := by
  obtain ⟨b1, b2, vP, vL, rfl, hne, h1, h2⟩ := h
  exact ⟨b1, b2, vP, vL, rfl, hne, h1.span hs (by omega), h2.span hs (by omega)⟩

theorem HasTab.weak {own : Bool} {lo hi lo' hi' : Nat} {w : World} {v : Value} {t : Tab} (h : HasTab own lo hi w v t) (h1 : lo' ≤ lo) (h2 : hi ≤ hi' ∨ w.heap.size ≤ hi') : HasTab own lo' hi' w v t := by
  obtain ⟨b1, b2, vP, vL, rfl, hne, g1, g2⟩ := h
  exact ⟨b1, b2, vP, vL, rfl, hne, g1.weak h1 h2, g2.weak h1 h2⟩

def SameT (t t' : Tab) : Prop := SameL t.1 t'.1 ∧ t.2 = t'.2
theorem SameT.refl (t : Tab) : SameT t t := ⟨SameL.refl _, rfl⟩

/-- What marking a table gives. -/
def MarksT (lo hi : Nat) (v : Value) (t : Tab) (k : Nat) (w : World) (e : Ending) (w' : World) : Prop :=
  e = .returned (.int .i64 ((k + t.1.length + t.2.length : Nat) : Int)) ∧ HasTab true lo hi w' v t ∧ Span lo hi w w'

def marksT (t : Tab) (k : Nat) : Tab := (marksC t.1.length k, marksI t.2.length (k + t.1.length))

theorem HasS.lt {α : Type} {val : α → Value} {own : Bool} {b lo hi : Nat} {w : World} {v : Value} {xs : List α} (h : HasS val own b lo hi w v xs) (hp : 0 < xs.length) : b < w.heap.size := by
  obtain ⟨A, cap, rfl, hcap, hc⟩ := h
  obtain ⟨off, rfl, _, _, h3, _⟩ := hc hp
  exact h3
end
end Go.Proofs.YtkjlodoppmipfaaGreat
