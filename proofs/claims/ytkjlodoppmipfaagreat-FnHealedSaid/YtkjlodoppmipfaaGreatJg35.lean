/- Floats that are whole numbers, of either zero. Samples whose parts are small whole numbers are drawn: MakeWhole. A sum and a delay of one sample in a loop: the sums of all samples. -/
import Derived.Test.YtkjlodoppmipfaaGreatJg10
import Derived.Test.YtkjlodoppmipfaaGreatJg34
import Derived.Outline
import Derived.Test.YtkjlodoppmipfaaGreatJg31
import Derived.Test.YtkjlodoppmipfaaGreatJg33
namespace Go.Proofs.YtkjlodoppmipfaaGreat
section
open Ieee Go.RowKit

/-- x is the whole number a (0 with any sign). -/
def Whole (x : Nat) (a : Int) : Prop := a.natAbs < 16777216 ∧ ∃ s, isU Ieee.single x s (a.natAbs * 2 ^ 149) ∧ sgn s (a.natAbs * 2 ^ 149) = a * ((2 ^ 149 : Nat) : Int)

theorem whole_fi {a : Int} (h : a.natAbs < 16777216) : Whole (fi a) a := ⟨h, _, isU_fi h, sgn_scaled a _⟩

theorem isU_negzero : isU Ieee.single 2147483648 true 0 := ⟨0, by decide +kernel, by rw [s_inf]; omega, by decide +kernel⟩
theorem whole_negzero : Whole 2147483648 0 := by
  refine ⟨by decide, true, ?_, ?_⟩
  · rw [Int.natAbs_zero, Nat.zero_mul]; exact isU_negzero
  · rw [Int.natAbs_zero, Nat.zero_mul, Int.zero_mul]; rfl

theorem whole_of {z : Nat} {neg : Bool} {c : Int} {K : Nat} (hK : K = 2 ^ 149) (hc : c.natAbs < 16777216) (h : isU Ieee.single z neg (c.natAbs * K)) (hs : sgn neg (c.natAbs * K) = c * (K : Int)) : Whole z c := by
  subst hK; exact ⟨hc, neg, h, hs⟩

theorem rep_whole {c : Int} (hc : c.natAbs < 16777216) : Rep Ieee.single (c.natAbs * 2 ^ 149) := rep_s (e := 149) hc (by omega)

theorem whole_add {x y : Nat} {a b : Int} (hx : Whole x a) (hy : Whole y b) (hc : (a + b).natAbs < 16777216) : ∃ z, floatBits .add .f32 x y = some z ∧ Whole z (a + b) := by
  obtain ⟨_, s, h1, h2⟩ := hx
  obtain ⟨_, t, h3, h4⟩ := hy
  have hr := rep_whole hc
  obtain ⟨K, hK⟩ : ∃ K, K = 2 ^ 149 := ⟨_, rfl⟩
  rw [← hK] at h1 h2 h3 h4 hr
  obtain ⟨z, neg, g1, g2, g3, _⟩ := add_isU h1 h3 hr (by rw [h2, h4]; exact abs_scaled_add a b K)
  rw [h2, h4, ← Int.add_mul] at g3
  exact ⟨z, g1, whole_of hK hc g2 g3⟩

theorem sgn_not (t : Bool) (U : Nat) : sgn (!t) U = -sgn t U := by cases t <;> simp [sgn]

theorem whole_sub {x y : Nat} {a b : Int} (hx : Whole x a) (hy : Whole y b) (hc : (a - b).natAbs < 16777216) : ∃ z, floatBits .sub .f32 x y = some z ∧ Whole z (a - b) := by
  obtain ⟨_, s, h1, h2⟩ := hx
  obtain ⟨_, t, h3, h4⟩ := hy
  have hr := rep_whole hc
  obtain ⟨K, hK⟩ : ∃ K, K = 2 ^ 149 := ⟨_, rfl⟩
  rw [← hK] at h1 h2 h3 h4 hr
  have h5 : sgn (!t) (b.natAbs * K) = (-b) * (K : Int) := by rw [sgn_not, h4, Int.neg_mul]
  obtain ⟨z, neg, g1, g2, g3, _⟩ := sub_isU h1 h3 hr (by rw [h2, h5, Int.sub_eq_add_neg]; exact abs_scaled_add a (-b) K)
  rw [h2, h5, ← Int.add_mul, ← Int.sub_eq_add_neg] at g3
  exact ⟨z, g1, whole_of hK hc g2 g3⟩

/-- A square is never -0. -/
theorem whole_square {x : Nat} {a : Int} (hx : Whole x a) (hc : (a * a).natAbs < 16777216) : floatBits .mul .f32 x x = some (fi (a * a)) := by
  obtain ⟨_, s, h1, h2⟩ := hx
  have hr := rep_whole hc
  have hz := isU_fi hc
  have hm : a.natAbs * 2 ^ 149 * (a.natAbs * 2 ^ 149) = (a * a).natAbs * 2 ^ 149 * 2 ^ 149 := by
    rw [Int.natAbs_mul]
    generalize 2 ^ 149 = K
    simp only [Nat.mul_assoc, Nat.mul_left_comm]
  obtain ⟨z, g1, g2⟩ := mul_isU (K := 149) s_lp h1 h1 hr hm
  have hn : (s ^^ s) = decide (a * a < 0) := by
    have : 0 ≤ a * a := by
      rcases Int.le_total 0 a with h | h
      · exact Int.mul_nonneg h h
      · exact Int.mul_nonneg_of_nonpos_of_nonpos h h
    cases s <;> simp <;> omega
  rw [hn] at g2
  rw [isU_word hz g2]
  exact g1

theorem order_whole {x y : Nat} {a b : Int} (hx : Whole x a) (hy : Whole y b) : FloatKind.f32.format.order x y = some (compare a b) := by
  obtain ⟨_, s, h1, h2⟩ := hx
  obtain ⟨_, t, h3, h4⟩ := hy
  have hp := big_pos
  generalize 2 ^ 149 = K at *
  have h : FloatKind.f32.format.order x y = _ := order_isU h1 h3
  rw [h, h2, h4, compare_mul a b K (by omega)]

theorem nan_whole {x : Nat} {a : Int} (h : Whole x a) : nanB .f32 x = false := by
  obtain ⟨_, s, h1, _⟩ := h
  obtain ⟨m, g, h, _⟩ := read_isU h1
  show (Ieee.single.read _).isNaN = false
  rw [h]; rfl

theorem isU_lt {x U : Nat} {s : Bool} (h : isU Ieee.single x s U) : x < 4294967296 ∧ rungOf Ieee.single x < 2139095040 := by
  obtain ⟨r, rfl, hr, _⟩ := h
  rw [s_inf] at hr
  unfold rungOf Ieee.Format.word
  rw [s_sw]
  cases s <;> simp <;> omega

theorem whole_lt {x : Nat} {a : Int} (h : Whole x a) : x < 4294967296 ∧ rungOf Ieee.single x < 2139095040 := by
  obtain ⟨_, s, h1, _⟩ := h
  exact isU_lt h1
end
section
open Go.RowKit

/-- A sample whose parts are whole numbers from -3 to 3. -/
def wholeS (z : Cx) : Prop := ∃ a b : Int, z = (fi a, fi b) ∧ -3 ≤ a ∧ a ≤ 3 ∧ -3 ≤ b ∧ b ≤ 3
def DrawnW (B : Nat) (a : Addr) (w : World) (e : Ending) (w' : World) : Prop :=
  ∃ z : Cx, e = .returned (.complex .f32 z.1 z.2) ∧ wholeS z ∧ Cur B w' a ∧ w.grownBy w' (some a.block)

set_option maxHeartbeats 1000000 in
theorem l2Small_w (B : Nat) (a : Addr) (w : World) (h : Cur B w a) : Calls Tryz.prog 50 #[.pointer (some a)] w (DrawnW B a w) := by
  go_enter Tryz.func50, Tryz.ntmps50
  go_wp2_with fail
  refine (l01Below_any B a 7 w h (by omega) (by omega)).mono ?_
  rintro _ w1 ⟨r, rfl, r0, r1, hc, hb⟩
  go_wp2_with fail
  refine (l01Below_any B a 7 w1 hc (by omega) (by omega)).mono ?_
  rintro _ w2 ⟨s, rfl, s0, s1, hc2, hb2⟩
  go_wp2_with fail
  go_ret
  exact ⟨(fi (r - 3), fi (s - 3)), rfl, ⟨r - 3, s - 3, rfl, by omega, by omega, by omega, by omega⟩, hc2, grown_trans hb hb2⟩

def MakesW (m : Nat) (w : World) (e : Ending) (w' : World) : Prop :=
  ∃ (v : Value) (xs : List Cx), e = .returned v ∧ xs.length ≤ m ∧ (∀ z ∈ xs, wholeS z) ∧ w'.ownsRow w.heap.size 23 1 v xs.length (xs.map cxV) ∧ Below w.heap.size w w'
def DrawingW (B : Nat) (a : Addr) (R : Nat) (w : World) (u : Value) (xs : List Cx) (wr : World) : Prop :=
  wr.ownsRow R 23 1 u xs.length (xs.map cxV) ∧ Cur B wr a ∧ w.grownBy wr (some a.block) ∧ (∀ z ∈ xs, wholeS z) ∧ w.heap.size < wr.heap.size
end
section
open Go.RowKit

def addC (a b : Cx) : Cx := (fC .add .f32 a.1 b.1, fC .add .f32 a.2 b.2)
def WholeC (x : Cx) (p : Int × Int) : Prop := Whole x.1 p.1 ∧ Whole x.2 p.2
theorem fC_some {op : BinOp} {k : FloatKind} {x y r : Nat} (h : floatBits op k x y = some r) : fC op k x y = r := by unfold fC; rw [h]
theorem addC_whole {x y : Cx} {p q : Int × Int} (hx : WholeC x p) (hy : WholeC y q) (h1 : (p.1 + q.1).natAbs < 16777216) (h2 : (p.2 + q.2).natAbs < 16777216) : Adds x y (addC x y) ∧ WholeC (addC x y) (p.1 + q.1, p.2 + q.2) := by
  obtain ⟨z1, e1, g1⟩ := whole_add hx.1 hy.1 h1
  obtain ⟨z2, e2, g2⟩ := whole_add hx.2 hy.2 h2
  refine ⟨?_, ?_, ?_⟩
  · unfold Adds cSumBits addC
    rw [e1, e2, fC_some e1, fC_some e2]
    rfl
  · unfold addC; rw [fC_some e1]; exact g1
  · unfold addC; rw [fC_some e2]; exact g2
theorem whole_zero : Whole 0 0 := by
  have h := whole_fi (a := 0) (by decide)
  rwa [show fi 0 = 0 by decide +kernel] at h
theorem wholeC_zero : WholeC (0, 0) (0, 0) := ⟨whole_zero, whole_zero⟩
theorem wholeC_of {z : Cx} (h : wholeS z) : ∃ p : Int × Int, WholeC z p ∧ p.1.natAbs ≤ 3 ∧ p.2.natAbs ≤ 3 := by
  obtain ⟨a, b, rfl, h1, h2, h3, h4⟩ := h
  exact ⟨(a, b), ⟨whole_fi (by omega), whole_fi (by omega)⟩, by simp only; omega, by simp only; omega⟩

/-- What the sum and the delay give, step by step. -/
def loopSD (zs : Nat → Cx) : Nat → Cx × Cx
  | 0 => ((0, 0), (0, 0))
  | r + 1 => (addC (addC (0, 0) (zs r)) (loopSD zs r).2, addC (0, 0) (addC (addC (0, 0) (zs r)) (loopSD zs r).2))
def sumT (zi : Nat → Int × Int) : Nat → Int × Int
  | 0 => (0, 0)
  | r + 1 => ((sumT zi r).1 + (zi r).1, (sumT zi r).2 + (zi r).2)
theorem sumT_le (zi : Nat → Int × Int) (h : ∀ r, (zi r).1.natAbs ≤ 3 ∧ (zi r).2.natAbs ≤ 3) : ∀ r, (sumT zi r).1.natAbs ≤ 3 * r ∧ (sumT zi r).2.natAbs ≤ 3 * r
  | 0 => by simp [sumT]
  | r + 1 => by
    have h1 := sumT_le zi h r
    have h2 := h r
    simp only [sumT]
    omega
theorem loop_facts (zs : Nat → Cx) (zi : Nat → Int × Int) (hz : ∀ r, WholeC (zs r) (zi r)) (h : ∀ r, (zi r).1.natAbs ≤ 3 ∧ (zi r).2.natAbs ≤ 3) : ∀ r, r ≤ 30 → WholeC (loopSD zs r).1 (sumT zi r) ∧ WholeC (loopSD zs r).2 (sumT zi r)
  | 0, _ => ⟨wholeC_zero, wholeC_zero⟩
  | r + 1, hr => by
    have ih := loop_facts zs zi hz h r (by omega)
    have b := sumT_le zi h r
    have c := h r
    have a1 := addC_whole wholeC_zero (hz r) (by simp only; omega) (by simp only; omega)
    have a2 := addC_whole a1.2 ih.2 (by simp only; omega) (by simp only; omega)
    have e : (0 + (zi r).1 + (sumT zi r).1, 0 + (zi r).2 + (sumT zi r).2) = sumT zi (r + 1) := by simp only [sumT]; congr 1 <;> omega
    have a3 := addC_whole wholeC_zero a2.2 (by simp only; omega) (by simp only; omega)
    rw [show (0 + (0 + (zi r).1 + (sumT zi r).1), 0 + (0 + (zi r).2 + (sumT zi r).2)) = sumT zi (r + 1) by simp only [sumT]; congr 1 <;> omega] at a3
    rw [show (((0, 0) : Int × Int).1 + (zi r).1 + (sumT zi r).1, ((0, 0) : Int × Int).2 + (zi r).2 + (sumT zi r).2) = sumT zi (r + 1) by simp only [sumT]; congr 1 <;> omega] at a2
    exact ⟨a2.2, a3.2⟩
theorem loop_adds (zs : Nat → Cx) (zi : Nat → Int × Int) (hz : ∀ r, WholeC (zs r) (zi r)) (h : ∀ r, (zi r).1.natAbs ≤ 3 ∧ (zi r).2.natAbs ≤ 3) (r : Nat) (hr : r < 30) :
    Adds (0, 0) (zs r) (addC (0, 0) (zs r)) ∧ Adds (addC (0, 0) (zs r)) (loopSD zs r).2 (loopSD zs (r + 1)).1 ∧ Adds (0, 0) (loopSD zs (r + 1)).1 (loopSD zs (r + 1)).2 := by
  have ih := loop_facts zs zi hz h r (by omega)
  have b := sumT_le zi h r
  have c := h r
  have a1 := addC_whole wholeC_zero (hz r) (by simp only; omega) (by simp only; omega)
  have a2 := addC_whole a1.2 ih.2 (by simp only; omega) (by simp only; omega)
  have a3 := addC_whole wholeC_zero a2.2 (by simp only; omega) (by simp only; omega)
  exact ⟨a1.1, a2.1, a3.1⟩

theorem ring1_ok (z : Cx) : VR ([z], 0, 1) := ⟨by simp, by simp, by simp, by simp, fun j h1 h2 => by
  have h1' : 1 ≤ j := h1
  have h2' : j < 1 := h2
  omega⟩
theorem ring1_push (z z' : Cx) : pushR ([z], 0, 1) z' = ([z'], 0, 1) := by simp [pushR, putR, takeR]
theorem ring1_oldest (z : Cx) : oldR ([z], 0, 1) = z := by simp [oldR, itemR]

def mDelay1 (A : Option Addr) (p : Nat) : Mw := ⟨4, 0, 0, 0, 0, 0, A, 1, p, 0, 1, none, 0, 0, none, 0, 0, 0, 0⟩
def loopMs (A : Option Addr) (p : Nat) : List Mw := [mSum, mDelay1 A p]
def loopCs : List (Nat × Nat) := [(0, 1), (1, 0)]
def loopSt (zs : Nat → Cx) (r : Nat) : Nat → List Un × List Cx
  | 0 => ([uSum, .ring [(loopSD zs r).2] 0], [(loopSD zs r).1, (loopSD zs r).2])
  | 1 => ([uSum, .ring [(loopSD zs r).2] 0], [(loopSD zs (r + 1)).1, (loopSD zs r).2])
  | _ => ([uSum, .ring [(loopSD zs (r + 1)).2] 0], [(loopSD zs (r + 1)).1, (loopSD zs r).2])

theorem okM_delay1 {A : Option Addr} {p : Nat} {o : Bool} {b lo hi : Nat} {w : World} {z : Cx} (h : HasS cxV o b lo hi w (.slice A 1 p) [z]) : OkM w (mDelay1 A p) := fun w' s =>
  isModule_delay [z] 0 1 p A rfl (ring1_ok z) o b lo hi w' (h.span s (.inl (Nat.le_refl _)))

theorem run_loop {w : World} {bM bC lo hi : Nat} {AM : Option Addr} {cM : Nat} {AC : Option Addr} {m cC : Nat} {A : Option Addr} {p : Nat} (hr : RkAt w bM bC lo hi AM 2 cM AC m cC (loopMs A p) loopCs) {o : Bool} {bd ld hd : Nat} (hd2 : HasS cxV o bd ld hd w (.slice A 1 p) [(0, 0)]) (xs : List Cx) (hx : ∀ z ∈ xs, wholeS z) (hl : xs.length ≤ 30) (ob : Bool) (b0 lo0 hi0 : Nat) (v : Value) (hb0 : b0 < w.heap.size) (hv : HasS cxV ob b0 lo0 hi0 w v xs) :
    Calls Tryz.prog 11 #[.agg #[.slice AM 2 cM, .slice AC m cC], .agg #[.int .i64 0, .int .i64 0], v, .int .i64 (xs.length : Int)] w (RanRk 2 m xs.length loopCs ((List.range xs.length).map fun r => (loopSD (fun i => xs.getD i (0, 0)) (r + 1)).1) (fun _ _ => True) w) := by
  obtain ⟨zs, hzs⟩ : ∃ zs : Nat → Cx, zs = fun i => xs.getD i (0, 0) := ⟨_, rfl⟩
  obtain ⟨zi, hzi, hzb⟩ : ∃ zi : Nat → Int × Int, (∀ r, WholeC (zs r) (zi r)) ∧ ∀ r, (zi r).1.natAbs ≤ 3 ∧ (zi r).2.natAbs ≤ 3 := by
    have hall : ∀ r, ∃ q : Int × Int, WholeC (zs r) q ∧ q.1.natAbs ≤ 3 ∧ q.2.natAbs ≤ 3 := fun r => by
      rw [hzs]
      simp only [List.getD_eq_getElem?_getD]
      cases h : xs[r]? with
      | none => exact ⟨(0, 0), wholeC_zero, by decide, by decide⟩
      | some z => exact wholeC_of (hx z (List.mem_of_getElem? h))
    exact ⟨fun r => Classical.choose (hall r), fun r => (Classical.choose_spec (hall r)).1, fun r => (Classical.choose_spec (hall r)).2⟩
  rw [← hzs]
  have hRs : Reads w (loopMs A p) [([], ([], [])), ([(0, 0)], ([], []))] := by
    refine ⟨rfl, fun i x r hx hr => ?_⟩
    match i, hx, hr with
    | 0, hx, hr => simp [loopMs] at hx hr; subst hx; subst hr; exact ⟨by simp, rfl, by simp, true, 0, 0, 0, 0, HasS.empty .., ⟨0, 1, _, _, rfl, by decide, HasS.empty .., HasS.empty ..⟩⟩
    | 1, hx, hr => simp [loopMs] at hx hr; subst hx; subst hr; exact ⟨by simp, rfl, by simp, false, bd, ld, hd, 0, hd2.bare, ⟨0, 1, _, _, rfl, by decide, HasS.empty .., HasS.empty ..⟩⟩
    | i + 2, hx, _ => simp [loopMs] at hx
  have st0 : (unOf [Kd.sum, Kd.delay] (loopMs A p) [([], ([], [])), ([(0, 0)], ([], []))], List.replicate 2 ((0, 0) : Cx)) = (([uSum, .ring [(0, 0)] 0], [(0, 0), (0, 0)]) : List Un × List Cx) := rfl
  have key := runRack_mix (n := 2) (Ms := loopMs A p) hr _ hRs [.sum, .delay] rfl (fun i kd x r hk hx hr => by
      match i, hk, hx, hr with
      | 0, hk, hx, hr => simp [loopMs] at hk hx hr; subst hk; subst hx; subst hr; exact ⟨rfl, by decide, fun h => by cases h⟩
      | 1, hk, hx, hr => simp [loopMs] at hk hx hr; subst hk; subst hx; subst hr; exact ⟨rfl, by decide, fun _ => ⟨by simp, show (0 : Int) ≤ 0 by decide, rfl⟩⟩
      | i + 2, hk, _, _ => simp at hk) [0, 1] (show orderC [5, 4] loopCs 2 = some [0, 1] by decide) 0 (.inr ⟨0, rfl, by decide⟩) 0 (by decide) xs (by omega) ob b0 lo0 hi0 v hb0 hv xs.length (by omega) (loopSt zs)
    (fun r hr1 => by
      rw [st0]
      cases r with
      | zero => rfl
      | succ r => rfl)
    (fun r hr1 i ys a hi => by
      rw [st0] at hi
      have : ys.length = 1 ∧ a = 0 := by
        cases r with
        | zero =>
          match i, hi with
          | 0, hi => simp [stAt, uSum] at hi
          | 1, hi => simp [stAt] at hi; obtain ⟨rfl, rfl⟩ := hi; exact ⟨rfl, rfl⟩
          | i + 2, hi => simp [stAt] at hi
        | succ r =>
          match i, hi with
          | 0, hi => simp [stAt, loopSt, uSum] at hi
          | 1, hi => simp [stAt, loopSt] at hi; obtain ⟨rfl, rfl⟩ := hi; exact ⟨rfl, rfl⟩
          | i + 2, hi => simp [stAt, loopSt] at hi
      omega)
    (fun r hr1 j i kd l hj hk hl2 => by
      obtain ⟨a1, a2, a3⟩ := loop_adds zs zi hzi hzb r (by omega)
      match j, hj with
      | 0, hj =>
        obtain rfl : i = 0 := by simp at hj; omega
        obtain rfl : kd = .sum := by simp at hk; exact hk.symm
        obtain rfl : l = [1] := by
          have : (feedsC 2 loopCs)[0]? = some [1] := rfl
          rw [this] at hl2; injection hl2 with hl2; exact hl2.symm
        refine ⟨fun j => if j = 0 then addC (0, 0) (zs r) else (loopSD zs (r + 1)).1, uSum, uSum, (loopSD zs (r + 1)).1, ?_, fun j hj => ?_, rfl, stepU_sum _, rfl⟩
        · rw [if_pos (by decide)]
          rw [hzs] at a1 ⊢
          exact a1
        · obtain rfl : j = 0 := by simp at hj; omega
          exact ⟨1, (loopSD zs r).2, rfl, rfl, a2⟩
      | 1, hj =>
        obtain rfl : i = 1 := by simp at hj; omega
        obtain rfl : kd = .delay := by simp at hk; exact hk.symm
        obtain rfl : l = [0] := by
          have : (feedsC 2 loopCs)[1]? = some [0] := rfl
          rw [this] at hl2; injection hl2 with hl2; exact hl2.symm
        have hs := stepU_delay [(loopSD zs r).2] 0 (ring1_ok _) (loopSD zs (r + 1)).2
        rw [show ([(loopSD zs r).2], 0, [(loopSD zs r).2].length) = (([(loopSD zs r).2], 0, 1) : Rn) from rfl, ring1_push, ring1_oldest] at hs
        refine ⟨fun j => if j = 0 then (0, 0) else (loopSD zs (r + 1)).2, .ring [(loopSD zs r).2] 0, .ring [(loopSD zs (r + 1)).2] 0, (loopSD zs r).2, ?_, fun j hj => ?_, rfl, hs, rfl⟩
        · rw [if_neg (show ¬ ((1 : Nat) : Int) = 0 by decide)]; rfl
        · obtain rfl : j = 0 := by simp at hj; omega
          exact ⟨0, (loopSD zs (r + 1)).1, rfl, rfl, a3⟩
      | j + 2, hj => simp at hj)
    ((List.range xs.length).map fun r => (loopSD zs (r + 1)).1) (by simp) (fun i y hy => by
      rw [List.getElem?_map] at hy
      by_cases hi : i < xs.length
      · rw [List.getElem?_range hi] at hy
        simp at hy
        subst hy
        rfl
      · rw [List.getElem?_eq_none (by simp; omega)] at hy; cases hy)
    (fun _ _ => True) (fun i kd u hk hu X g f => by
      rw [st0] at hu
      have hcase : (kd = .sum ∧ u = uSum) ∨ (kd = .delay ∧ ∃ z, u = .ring [z] 0) := by
        cases hN : xs.length with
        | zero =>
          rw [hN] at hu
          match i, hk, hu with
          | 0, hk, hu => simp [stAt] at hk hu; exact .inl ⟨hk.symm, hu.symm⟩
          | 1, hk, hu => simp [stAt] at hk hu; exact .inr ⟨hk.symm, _, hu.symm⟩
          | i + 2, hk, _ => simp at hk
        | succ r =>
          rw [hN] at hu
          match i, hk, hu with
          | 0, hk, hu => simp [stAt, loopSt] at hk hu; exact .inl ⟨hk.symm, hu.symm⟩
          | 1, hk, hu => simp [stAt, loopSt] at hk hu; exact .inr ⟨hk.symm, _, hu.symm⟩
          | i + 2, hk, _ => simp at hk
      rcases hcase with ⟨rfl, rfl⟩ | ⟨rfl, z, rfl⟩
      · exact fun w h => (modU_sum X g f w h).mono fun e w' ⟨m, h1, _, h3⟩ => ⟨m, h1, trivial, h3⟩
      · exact fun w h => (modU_delay [z] 0 X g f w h).mono fun e w' ⟨m, h1, _, h3⟩ => ⟨m, h1, trivial, h3⟩)
  exact key
end
end Go.Proofs.YtkjlodoppmipfaaGreat
