/- Delays are made. The rack of a sum and a delay of one, in a box: valid, copied. FnSuperposed: what the law reckons. -/
import Derived.Test.YtpiiflhdllpoiaaJq31
import Derived.Test.YtpiiflhdllpoiaaJq35
import Derived.Test.YtpiiflhdllpoiaaJq4
import Derived.Outline
import Derived.Test.YtpiiflhdllpoiaaJq44
import Derived.Test.YtpiiflhdllpoiaaJq47
import Derived.Test.YtpiiflhdllpoiaaJq39
import Derived.Test.YtpiiflhdllpoiaaJq33
import Derived.Test.YtpiiflhdllpoiaaJq48
namespace Go.Proofs.Ytpiiflhdllpoiaa
section
open Go.RowKit

def delayO (n : Int) : Option Md := if 1 ≤ n ∧ n ≤ 16 then some ⟨4, (0, 0), (0, 0), 0, ⟨List.replicate n.toNat (0, 0), 0, n⟩, 0, 0⟩ else none
theorem delayO_len (n : Int) : ((delayO n).getD zeroModule).ring.store.length ≤ 16 := by
  unfold delayO
  by_cases h : 1 ≤ n ∧ n ≤ 16
  · rw [if_pos h]; simp; omega
  · rw [if_neg h]; simp [zeroModule]

set_option maxRecDepth 100000 in
set_option maxHeartbeats 4000000 in
theorem impl_newDelay (n : Int) (w : World) : Calls Try.prog 7 #[.int .i64 n] w (GivesM (delayO n) w) := by
  unfold delayO
  by_cases h0 : 1 ≤ n ∧ n ≤ 16
  · have hr : ringO n = some ⟨List.replicate n.toNat (0, 0), 0, 0⟩ := if_pos h0
    rw [if_pos h0]
    have HR := Lib.hid hr
    clear hr
    go_enter Try.func7, Try.ntmps7
    go_wp2_with fail
    refine (impl_newRing n _).mono ?_
    rintro _ w1 ⟨v, rfl, x1, s1⟩
    rw [HR.out, show (some (⟨List.replicate n.toNat (0, 0), 0, 0⟩ : Rg)).getD zeroRing = ⟨List.replicate n.toNat (0, 0), 0, 0⟩ from rfl] at x1
    rw [HR.out]
    obtain ⟨A, c, rfl⟩ := x1.form
    have X1 := Lib.hid x1
    have B0 := (Bx.new w #[.int .i64 0, .complex .f32 0 0, .complex .f32 0 0, .float .f32 0, .slice none 0 0, .int .i64 0, .int .i64 0, .slice none 0 0, .slice none 0 0, .int .i64 0, .int .i64 0] 33).keep s1
    obtain ⟨b, hb⟩ : ∃ b, b = w.heap.size := ⟨_, rfl⟩
    rw [← hb] at B0 ⊢
    have HB := Lib.hid hb
    have S1 := Lib.hid s1
    clear hb s1 x1
    have c1 := B0.cellsA
    have c2 := B0.thawA
    have B0 := Lib.hid B0
    simp only
    go_wp2_with fail
    have B1 := (B0.out.alloc (.cells #[.slice A n.toNat c, .int .i64 0, .int .i64 n] 28)).set11 (.int .i64 4) (.complex .f32 0 0) (.complex .f32 0 0) (.float .f32 0) (.slice A n.toNat c) (.int .i64 0) (.int .i64 n) (.slice none 0 0) (.slice none 0 0) (.int .i64 0) (.int .i64 0)
    have d1 := B1.cells
    have T1 := (((Span.refl 0 0 w).alloc _).trans S1.out).alloc (.cells #[.slice A n.toNat c, .int .i64 0, .int .i64 n] 28)
    refine bodyPost_ret (v := .tuple #[.agg #[.int .i64 4, .complex .f32 0 0, .complex .f32 0 0, .float .f32 0, .slice A n.toNat c, .int .i64 0, .int .i64 n, .slice none 0 0, .slice none 0 0, .int .i64 0, .int .i64 0], .bool true]) (by simp [results, Try.results7, go_sem, d1]) rfl ⟨_, rfl, ?_, T1.set11 (by rw [HB.out]; exact Nat.le_refl _) _ _ _ _ _ _ _ _ _ _ _⟩
    obtain ⟨b2, vS, e2, g2⟩ := X1.out
    injection e2 with e2
    injection e2 with e2
    injection e2 with e2 _
    subst e2
    have P1 := ((Span.refl b (b + 1) w1).alloc (.cells #[.slice A n.toNat c, .int .i64 0, .int .i64 n] 28)).put11 (b := b) ⟨Nat.le_refl _, Nat.lt_succ_self _⟩ (.int .i64 4) (.complex .f32 0 0) (.complex .f32 0 0) (.float .f32 0) (.slice A n.toNat c) (.int .i64 0) (.int .i64 n) (.slice none 0 0) (.slice none 0 0) (.int .i64 0) (.int .i64 0)
    have hb := HB.out
    have z1 := P1.size
    have g3 := (g2.span P1 (by simp; omega)).weak (lo' := w.heap.size) (hi' := _) (by simp) (.inr (Nat.le_refl _))
    refine ⟨b2, _, rfl, ?_⟩
    simpa using g3
  · have hr : ringO n = none := if_neg h0
    rw [if_neg h0]
    have HR := Lib.hid hr
    clear hr h0
    go_enter Try.func7, Try.ntmps7
    go_wp2_with fail
    refine (impl_newRing n _).mono ?_
    rintro _ w1 ⟨v, rfl, x1, s1⟩
    rw [HR.out, show (none : Option Rg).getD zeroRing = ⟨[], 0, 0⟩ from rfl] at x1
    rw [HR.out]
    obtain ⟨A, c, rfl⟩ := x1.form
    have X1 := Lib.hid x1
    have B0 := (Bx.new w #[.int .i64 0, .complex .f32 0 0, .complex .f32 0 0, .float .f32 0, .slice none 0 0, .int .i64 0, .int .i64 0, .slice none 0 0, .slice none 0 0, .int .i64 0, .int .i64 0] 33).keep s1
    obtain ⟨b, hb⟩ : ∃ b, b = w.heap.size := ⟨_, rfl⟩
    rw [← hb] at B0 ⊢
    have HB := Lib.hid hb
    have S1 := Lib.hid s1
    clear hb s1 x1
    have c1 := B0.cellsA
    have c2 := B0.thawA
    have B0 := Lib.hid B0
    simp only
    go_wp2_with fail
    have B1 := (B0.out.alloc (.cells #[.slice A 0 c, .int .i64 0, .int .i64 0] 28)).set11 (.int .i64 0) (.complex .f32 0 0) (.complex .f32 0 0) (.float .f32 0) (.slice none 0 0) (.int .i64 0) (.int .i64 0) (.slice none 0 0) (.slice none 0 0) (.int .i64 0) (.int .i64 0)
    have d1 := B1.cells
    have T1 := (((Span.refl 0 0 w).alloc _).trans S1.out).alloc (.cells #[.slice A 0 c, .int .i64 0, .int .i64 0] 28)
    refine bodyPost_ret (v := .tuple #[.agg #[.int .i64 0, .complex .f32 0 0, .complex .f32 0 0, .float .f32 0, .slice none 0 0, .int .i64 0, .int .i64 0, .slice none 0 0, .slice none 0 0, .int .i64 0, .int .i64 0], .bool false]) (by simp [results, Try.results7, go_sem, d1]) rfl ⟨_, rfl, HasM0.plain _ _ _ _ _ (0, 0) (0, 0) _ _ _, T1.set11 (by rw [HB.out]; exact Nat.le_refl _) _ _ _ _ _ _ _ _ _ _ _⟩
end
section
open Go.RowKit

theorem HasS.atJ {α : Type} {val : α → Value} {o : Bool} {b b' off lo hi n c j : Nat} {w : World} {xs : List α} {x : α} (h : HasS val o b lo hi w (.slice (some ⟨b', off, none⟩) n c) xs) (hj : xs[j]? = some x) : w.cell? ⟨b', off + j, none⟩ = some (val x) := by
  obtain ⟨A', cap, e, _, hc⟩ := h
  obtain ⟨off', rfl, _, _, _, hcell, _⟩ := hc (by have := (List.getElem?_eq_some_iff.1 hj).1; omega)
  injection e with e1 _ _
  injection e1 with e1
  injection e1 with e2 e3
  subst e2
  subst e3
  exact hcell j x hj
theorem copies_sum (w : World) : CopiesM mSum [] w := fun w' _ =>
  (copyModule_nil 5 0 0 0 0 0 0 0 w').mono fun _ _ ⟨h1, h2⟩ => ⟨mSum, h1, .inl ⟨rfl, rfl⟩, h2⟩
theorem copies_delay1 {A : Option Addr} {p : Nat} {o : Bool} {b lo hi : Nat} {w : World} {z : Cx} (h : HasS cxV o b lo hi w (.slice A 1 p) [z]) : CopiesM (mDelay1 A p) [z] w := fun w' s =>
  (copyModule_delay [z] 1 p 0 A rfl (by simp) o b lo hi w' (h.span s (.inl (Nat.le_refl _)))).mono fun _ _ ⟨A', p', bs, h1, h2, h3⟩ =>
    ⟨{ mDelay1 A p with S := A', sp := p' }, h1, .inr ⟨A', p', bs, _, rfl, ⟨rfl, by simp⟩, h2⟩, h3⟩
theorem loop_okN {A : Option Addr} {p : Nat} (hA : A ≠ none) (b : Nat) (w : World) (Ns : List Mw) (h : CopN b w (loopMs A p) [[], [(0, 0)]] Ns) : ∀ x ∈ Ns, OkM w x := by
  intro x hx
  obtain ⟨i, hi⟩ := List.getElem?_of_mem hx
  obtain ⟨m, r, h1, h2, h3⟩ := h i x hi
  match i, h1, h2 with
  | 0, h1, h2 =>
    simp [loopMs] at h1 h2
    subst h1; subst h2
    rcases h3 with ⟨rfl, _⟩ | ⟨_, _, _, _, _, h4, _⟩
    · exact okM_sum _
    · exact absurd h4.2 (by simp)
  | 1, h1, h2 =>
    simp [loopMs] at h1 h2
    subst h1; subst h2
    rcases h3 with ⟨rfl, h4⟩ | ⟨A', p', bs, hi', rfl, h4, h5⟩
    · exact absurd h4 hA
    · exact okM_delay1 h5
  | i + 2, h1, _ => simp [loopMs] at h1

theorem loop_copies {A : Option Addr} {p : Nat} {o : Bool} {b lo hi : Nat} {w : World} (h : HasS cxV o b lo hi w (.slice A 1 p) [(0, 0)]) : ([[], [(0, 0)]] : List (List Cx)).length = (loopMs A p).length ∧ ∀ (i : Nat) (x : Mw) (r : List Cx), (loopMs A p)[i]? = some x → ([[], [(0, 0)]] : List (List Cx))[i]? = some r → CopiesM x r w := by
  refine ⟨rfl, fun i x r hx hr => ?_⟩
  match i, hx, hr with
  | 0, hx, hr => simp [loopMs] at hx hr; subst hx; subst hr; exact copies_sum w
  | 1, hx, hr => simp [loopMs] at hx hr; subst hx; subst hr; exact copies_delay1 h
  | i + 2, hx, _ => simp [loopMs] at hx
theorem loop_addCable {w : World} {bM bC lo hi : Nat} {AM : Option Addr} {cM : Nat} {AC : Option Addr} {m cC : Nat} {A : Option Addr} {p : Nat} (hA : A ≠ none) (hr : RkAt w bM bC lo hi AM 2 cM AC m cC (loopMs A p) loopCs) {o : Bool} {bd ld hd : Nat} (hd2 : HasS cxV o bd ld hd w (.slice A 1 p) [(0, 0)]) (f t : Nat) (hf : f < 2) (ht : t < 2) (ok : Bool) (hok : (orderC [5, 4] (loopCs ++ [(f, t)]) 2).isSome = ok) :
    Calls Try.prog 15 #[.agg #[.slice AM 2 cM, .slice AC m cC], .int .i64 (f : Int), .int .i64 (t : Int)] w fun e w' => (∃ A1 n1 c1 A2 n2 c2, e = .returned (.tuple #[.agg #[.slice A1 n1 c1, .slice A2 n2 c2], .bool ok])) ∧ Span 0 0 w w' := by
  have hm : m = 2 := hr.cabs.len.1
  have := addCable_any hr [[], [(0, 0)]] (loop_copies hd2) (fun b w' Ns h => loop_okN hA b w' Ns h) (by decide : (orderC [5, 4] loopCs 2).isSome = true) f t hf ht (by omega)
  rw [show (loopMs A p).map Mw.k = [5, 4] from rfl, hok] at this
  exact this
/-- The sums as the law reckons them. -/
def sumL (zs : Nat → Cx) : Nat → Cx
  | 0 => (0, 0)
  | r + 1 => addC (sumL zs r) (zs r)
theorem sumL_whole (zs : Nat → Cx) (zi : Nat → Int × Int) (hz : ∀ r, WholeC (zs r) (zi r)) (h : ∀ r, (zi r).1.natAbs ≤ 3 ∧ (zi r).2.natAbs ≤ 3) : ∀ r, r ≤ 30 → WholeC (sumL zs r) (sumT zi r)
  | 0, _ => wholeC_zero
  | r + 1, hr => by
    have ih := sumL_whole zs zi hz h r (by omega)
    have b := sumT_le zi h r
    have c := h r
    exact (addC_whole ih (hz r) (by omega) (by omega)).2
theorem cmp_self (a : Int) : compare a a = .eq := by simp [compare, compareOfLessAndEq]
theorem add_facts {x z : Nat} {a b : Int} (hx : Whole x a) (hz : Whole z b) (h : (a + b).natAbs < 16777216) : (∀ w, fAr .add .f32 x z w = fC .add .f32 x z) ∧ fDr .add .f32 x z = 0 := by
  obtain ⟨r, e, _⟩ := whole_add hx hz h
  have h3 : fC .add .f32 x z = r := fC_some e
  rw [h3]
  exact ar_of e
theorem sumL_facts (zs : Nat → Cx) (zi : Nat → Int × Int) (hz : ∀ r, WholeC (zs r) (zi r)) (h : ∀ r, (zi r).1.natAbs ≤ 3 ∧ (zi r).2.natAbs ≤ 3) (r : Nat) (hr : r < 30) :
    ((∀ w, fAr .add .f32 (sumL zs r).1 (zs r).1 w = (sumL zs (r + 1)).1) ∧ fDr .add .f32 (sumL zs r).1 (zs r).1 = 0) ∧ ((∀ w, fAr .add .f32 (sumL zs r).2 (zs r).2 w = (sumL zs (r + 1)).2) ∧ fDr .add .f32 (sumL zs r).2 (zs r).2 = 0) ∧
    FloatKind.f32.format.order (loopSD zs (r + 1)).1.1 (sumL zs (r + 1)).1 = some .eq ∧ FloatKind.f32.format.order (loopSD zs (r + 1)).1.2 (sumL zs (r + 1)).2 = some .eq := by
  have ih := sumL_whole zs zi hz h r (by omega)
  have i2 := sumL_whole zs zi hz h (r + 1) (by omega)
  have lf := (loop_facts zs zi hz h (r + 1) (by omega)).1
  have b := sumT_le zi h r
  have c := h r
  refine ⟨add_facts ih.1 (hz r).1 (by omega), add_facts ih.2 (hz r).2 (by omega), ?_, ?_⟩
  · rw [order_whole lf.1 i2.1, cmp_self]
  · rw [order_whole lf.2 i2.2, cmp_self]
theorem orderC_none : (orderC [5, 4] (loopCs ++ [(0, 0)]) 2).isSome = false := by decide
theorem orderC_some : (orderC [5, 4] (loopCs ++ [(1, 1)]) 2).isSome = true := by decide
theorem orderC_loop : (orderC [5, 4] loopCs 2).isSome = true := by decide
end
section
open Go.RowKit

theorem newDelayS (n : Nat) (h1 : 1 ≤ n) (h2 : n ≤ 16) (w : World) : Calls Try.prog 7 #[.int .i64 (n : Int)] w fun e w' => ∃ Ad pd bd, e = .returned (.tuple #[.agg #[.int .i64 4, .complex .f32 0 0, .complex .f32 0 0, .float .f32 0, .slice Ad n pd, .int .i64 0, .int .i64 (n : Int), .slice none 0 0, .slice none 0 0, .int .i64 0, .int .i64 0], .bool true]) ∧ HasS cxV true bd w.heap.size w'.heap.size w' (.slice Ad n pd) (List.replicate n (0, 0)) ∧ Span 0 0 w w' := by
  have hd : delayO (n : Int) = some ⟨4, (0, 0), (0, 0), 0, ⟨List.replicate n (0, 0), 0, n⟩, 0, 0⟩ := by
    unfold delayO
    rw [if_pos (by omega), Int.toNat_natCast]
  have h := impl_newDelay (n : Int) w
  rw [hd] at h
  refine h.mono ?_
  rintro _ w' ⟨v, rfl, ⟨b, vS, rfl, hs⟩, s⟩
  have hs' : HasS cxV true b w.heap.size w'.heap.size w' vS (List.replicate n (0, 0)) := hs
  obtain ⟨A, p, rfl, -, -⟩ := id hs'
  rw [List.length_replicate] at hs' ⊢
  exact ⟨A, p, b, rfl, hs', s⟩

/-- A list of small whole samples: its numbers, 0 behind its end. -/
theorem wholes2 (xs : List Cx) (hx : ∀ z ∈ xs, wholeS z) : ∃ zi : Nat → Int × Int, (∀ r, WholeC (xs.getD r (0, 0)) (zi r)) ∧ (∀ r, (zi r).1.natAbs ≤ 3 ∧ (zi r).2.natAbs ≤ 3) ∧ ∀ r, xs.length ≤ r → zi r = (0, 0) := by
  have hall : ∀ r, ∃ q : Int × Int, WholeC (xs.getD r (0, 0)) q ∧ (q.1.natAbs ≤ 3 ∧ q.2.natAbs ≤ 3) ∧ (xs.length ≤ r → q = (0, 0)) := fun r => by
    simp only [List.getD_eq_getElem?_getD]
    cases h : xs[r]? with
    | none => exact ⟨(0, 0), wholeC_zero, by decide, fun _ => rfl⟩
    | some z =>
      obtain ⟨p, h1, h2⟩ := wholeC_of (hx z (List.mem_of_getElem? h))
      exact ⟨p, h1, h2, fun hr => by have := (List.getElem?_eq_some_iff.1 h).1; omega⟩
  exact ⟨fun r => Classical.choose (hall r), fun r => (Classical.choose_spec (hall r)).1, fun r => (Classical.choose_spec (hall r)).2.1, fun r hr => (Classical.choose_spec (hall r)).2.2 hr⟩

def dblC (z : Cx) : Cx := (fC .mul .f32 1073741824 z.1, fC .mul .f32 1073741824 z.2)
theorem dbl_facts {x : Nat} {a : Int} (hx : Whole x a) (h : (2 * a).natAbs < 16777216) : ((∀ w, fAr .mul .f32 1073741824 x w = fC .mul .f32 1073741824 x) ∧ fDr .mul .f32 1073741824 x = 0) ∧ Whole (fC .mul .f32 1073741824 x) (2 * a) := by
  obtain ⟨r, e, hr⟩ := mul2_whole hx h
  have h3 : fC .mul .f32 1073741824 x = r := fC_some e
  rw [h3]
  exact ⟨ar_of e, hr⟩
theorem dblC_whole {z : Cx} {p : Int × Int} (hz : WholeC z p) (h1 : (2 * p.1).natAbs < 16777216) (h2 : (2 * p.2).natAbs < 16777216) : WholeC (dblC z) (addZ p p) := by
  have e1 := (dbl_facts hz.1 h1).2
  have e2 := (dbl_facts hz.2 h2).2
  have q : addZ p p = (2 * p.1, 2 * p.2) := by simp only [addZ]; congr 1 <;> omega
  rw [q]; exact ⟨e1, e2⟩
/-- The two lists, of which the first i are there. -/
def bothL (xf yf : Nat → Cx) (i : Nat) : List Cx := (List.range i).map fun r => addC (xf r) (yf r)
def twiceL (xf : Nat → Cx) (i : Nat) : List Cx := (List.range i).map fun r => dblC (xf r)
theorem bothL_next (xf yf : Nat → Cx) (i : Nat) : bothL xf yf (i + 1) = bothL xf yf i ++ [addC (xf i) (yf i)] := by unfold bothL; rw [List.range_succ, List.map_append]; rfl
theorem twiceL_next (xf : Nat → Cx) (i : Nat) : twiceL xf (i + 1) = twiceL xf i ++ [dblC (xf i)] := by unfold twiceL; rw [List.range_succ, List.map_append]; rfl
theorem bothL_get (xf yf : Nat → Cx) {i r : Nat} (h : r < i) : (bothL xf yf i).getD r (0, 0) = addC (xf r) (yf r) := by unfold bothL; rw [List.getD_eq_getElem?_getD, range_get _ h]; rfl
theorem twiceL_get (xf : Nat → Cx) {i r : Nat} (h : r < i) : (twiceL xf i).getD r (0, 0) = dblC (xf r) := by unfold twiceL; rw [List.getD_eq_getElem?_getD, range_get _ h]; rfl

section
variable {xs ys : List Cx} {xi yi : Nat → Int × Int}
theorem both_whole (hx : ∀ r, WholeC (xs.getD r (0, 0)) (xi r)) (hy : ∀ r, WholeC (ys.getD r (0, 0)) (yi r)) (bx : ∀ r, (xi r).1.natAbs ≤ 3 ∧ (xi r).2.natAbs ≤ 3) (by_ : ∀ r, (yi r).1.natAbs ≤ 3 ∧ (yi r).2.natAbs ≤ 3) (zx : ∀ r, xs.length ≤ r → xi r = (0, 0)) (zy : ∀ r, ys.length ≤ r → yi r = (0, 0)) (lx : xs.length ≤ 20) (ly : ys.length ≤ 20) (r : Nat) :
    WholeC ((bothL (fun r => xs.getD r (0, 0)) (fun r => ys.getD r (0, 0)) 20).getD r (0, 0)) (addZ (xi r) (yi r)) := by
  by_cases hr : r < 20
  · rw [bothL_get _ _ hr]
    have a := bx r
    have b := by_ r
    exact (addC_whole (hx r) (hy r) (by omega) (by omega)).2
  · rw [zx r (by omega), zy r (by omega), List.getD_eq_getElem?_getD, List.getElem?_eq_none (by simp [bothL]; omega)]
    exact wholeC_zero
theorem twice_whole (hx : ∀ r, WholeC (xs.getD r (0, 0)) (xi r)) (bx : ∀ r, (xi r).1.natAbs ≤ 3 ∧ (xi r).2.natAbs ≤ 3) (zx : ∀ r, xs.length ≤ r → xi r = (0, 0)) (lx : xs.length ≤ 20) (r : Nat) :
    WholeC ((twiceL (fun r => xs.getD r (0, 0)) 20).getD r (0, 0)) (addZ (xi r) (xi r)) := by
  by_cases hr : r < 20
  · rw [twiceL_get _ hr]
    have a := bx r
    exact dblC_whole (hx r) (by omega) (by omega)
  · rw [zx r (by omega), List.getD_eq_getElem?_getD, List.getElem?_eq_none (by simp [twiceL]; omega)]
    exact wholeC_zero
end

/-- What the last loop asks, of sample k. -/
theorem last_facts {ds fa : Nat → Nat} (hfa : ∀ i, 0 < i → fa i < i) {x y b t : Nat → Cx} {xi yi : Nat → Int × Int} (hx : ∀ r, WholeC (x r) (xi r)) (hy : ∀ r, WholeC (y r) (yi r)) (hb : ∀ r, WholeC (b r) (addZ (xi r) (yi r))) (ht : ∀ r, WholeC (t r) (addZ (xi r) (xi r))) (bx : ∀ r, (xi r).1.natAbs ≤ 3 ∧ (xi r).2.natAbs ≤ 3) (by_ : ∀ r, (yi r).1.natAbs ≤ 3 ∧ (yi r).2.natAbs ≤ 3) (k : Nat) :
    (((∀ w, fAr .add .f32 (outS ds fa x 5 k).1 (outS ds fa y 5 k).1 w = fC .add .f32 (outS ds fa x 5 k).1 (outS ds fa y 5 k).1) ∧ fDr .add .f32 (outS ds fa x 5 k).1 (outS ds fa y 5 k).1 = 0) ∧ ((∀ w, fAr .add .f32 (outS ds fa x 5 k).2 (outS ds fa y 5 k).2 w = fC .add .f32 (outS ds fa x 5 k).2 (outS ds fa y 5 k).2) ∧ fDr .add .f32 (outS ds fa x 5 k).2 (outS ds fa y 5 k).2 = 0)) ∧
    (((∀ w, fAr .mul .f32 1073741824 (outS ds fa x 5 k).1 w = fC .mul .f32 1073741824 (outS ds fa x 5 k).1) ∧ fDr .mul .f32 1073741824 (outS ds fa x 5 k).1 = 0) ∧ ((∀ w, fAr .mul .f32 1073741824 (outS ds fa x 5 k).2 w = fC .mul .f32 1073741824 (outS ds fa x 5 k).2) ∧ fDr .mul .f32 1073741824 (outS ds fa x 5 k).2 = 0)) ∧
    (FloatKind.f32.format.order (outS ds fa b 5 k).1 (fC .add .f32 (outS ds fa x 5 k).1 (outS ds fa y 5 k).1) = some .eq ∧ FloatKind.f32.format.order (outS ds fa b 5 k).2 (fC .add .f32 (outS ds fa x 5 k).2 (outS ds fa y 5 k).2) = some .eq) ∧
    (FloatKind.f32.format.order (outS ds fa t 5 k).1 (fC .mul .f32 1073741824 (outS ds fa x 5 k).1) = some .eq ∧ FloatKind.f32.format.order (outS ds fa t 5 k).2 (fC .mul .f32 1073741824 (outS ds fa x 5 k).2) = some .eq) := by
  have ba : ∀ r, (addZ (xi r) (yi r)).1.natAbs ≤ 6 ∧ (addZ (xi r) (yi r)).2.natAbs ≤ 6 := fun r => by
    have a := bx r; have b := by_ r; simp only [addZ]; omega
  have bt : ∀ r, (addZ (xi r) (xi r)).1.natAbs ≤ 6 ∧ (addZ (xi r) (xi r)).2.natAbs ≤ 6 := fun r => by
    have a := bx r; simp only [addZ]; omega
  have wu := (out_whole ds fa hfa x xi hx 3 bx 6 (by decide) 5 (by decide) k).2
  have wv := (out_whole ds fa hfa y yi hy 3 by_ 6 (by decide) 5 (by decide) k).2
  have ww := (out_whole ds fa hfa b _ hb 6 ba 6 (by decide) 5 (by decide) k).2
  have wt := (out_whole ds fa hfa t _ ht 6 bt 6 (by decide) 5 (by decide) k).2
  rw [outZ_add ds fa hfa] at ww wt
  have lu := outZ_le ds fa hfa xi 3 bx 5 k
  have lv := outZ_le ds fa hfa yi 3 by_ 5 k
  have a1 := add_facts wu.1 wv.1 (by omega)
  have a2 := add_facts wu.2 wv.2 (by omega)
  have m1 := dbl_facts wu.1 (by omega)
  have m2 := dbl_facts wu.2 (by omega)
  have ws := (addC_whole wu wv (by omega) (by omega)).2
  refine ⟨⟨a1, a2⟩, ⟨m1.1, m2.1⟩, ⟨?_, ?_⟩, ?_, ?_⟩
  · have h := order_whole ww.1 ws.1
    rw [show (addZ (outZ ds fa xi 5 k) (outZ ds fa yi 5 k)).1 = (outZ ds fa xi 5 k).1 + (outZ ds fa yi 5 k).1 from rfl, cmp_self] at h
    exact h
  · have h := order_whole ww.2 ws.2
    rw [show (addZ (outZ ds fa xi 5 k) (outZ ds fa yi 5 k)).2 = (outZ ds fa xi 5 k).2 + (outZ ds fa yi 5 k).2 from rfl, cmp_self] at h
    exact h
  · have h := order_whole wt.1 m1.2
    rw [show (addZ (outZ ds fa xi 5 k) (outZ ds fa xi 5 k)).1 = 2 * (outZ ds fa xi 5 k).1 by simp only [addZ]; omega, cmp_self] at h
    exact h
  · have h := order_whole wt.2 m2.2
    rw [show (addZ (outZ ds fa xi 5 k) (outZ ds fa xi 5 k)).2 = 2 * (outZ ds fa xi 5 k).2 by simp only [addZ]; omega, cmp_self] at h
    exact h

theorem row_new (w : World) (L : List Value) (e : TypeId) : ∀ (j : Nat) (u : Value), L[j]? = some u → (w.alloc (.cells L.toArray e)).cell? ((⟨w.heap.size, 0, none⟩ : Addr).add j) = some u := by
  intro j u hj
  have h : (⟨w.heap.size, 0, none⟩ : Addr).add j = ⟨w.heap.size, j, none⟩ := by
    unfold Addr.add
    split
    · rename_i h; subst h; rfl
    · rw [Nat.zero_add]
  rw [h, World.cell?_alloc_new, List.getElem?_toArray]
  exact hj
theorem mw_one (x : Mw) : ∀ u ∈ Mw.l x, u.oneCell' = true := by
  intro u hu
  simp only [Mw.l, List.mem_cons, List.not_mem_nil, or_false] at hu
  rcases hu with rfl | rfl | rfl | rfl | rfl | rfl | rfl | rfl | rfl | rfl | rfl <;> rfl
/-- An own list, as one that reads. -/
theorem own_reads {w : World} {base : Nat} {v : Value} {n : Nat} {xs : List Cx} (h : w.ownsRow base 24 1 v n (xs.map cxV)) (h0 : 0 < w.heap.size) : ∃ b, HasS cxV true b 0 w.heap.size w v xs ∧ b < w.heap.size := by
  obtain ⟨b, h1, _⟩ := ownsRow_hasS h
  by_cases hp : 0 < xs.length
  · obtain ⟨_, _, _, _, hc⟩ := id h1
    obtain ⟨_, _, _, _, h3, _⟩ := hc hp
    exact ⟨b, h1.weak (Nat.zero_le _) (.inl (Nat.le_refl _)), h3⟩
  · have : xs = [] := List.eq_nil_of_length_eq_zero (by omega)
    subst this
    obtain ⟨A, c, rfl, _, _⟩ := h1
    exact ⟨0, HasS.empty .., h0⟩
end
end Go.Proofs.Ytpiiflhdllpoiaa
