/- The rack of a sum and a delay of one, in a box: valid, copied. -/
import Derived.Test.YtpiiflhdllpoiaaJq43
import Derived.Test.YtpiiflhdllpoiaaJq44
import Derived.Test.YtpiiflhdllpoiaaJq45
import Derived.Test.YtpiiflhdllpoiaaJq38
import Derived.Test.YtpiiflhdllpoiaaJq33
import Derived.Outline
namespace Go.Proofs.Ytpiiflhdllpoiaa
open Go.RowKit

theorem HasS.atJ {α : Type} {val : α → Value} {o : Bool} {b b' off lo hi n c j : Nat} {w : World} {xs : List α} {x : α} (h : HasS val o b lo hi w (.slice (some ⟨b', off, none⟩) n c) xs) (hj : xs[j]? = some x) : w.cell? ⟨b', off + j, none⟩ = some (val x) := by
  obtain ⟨A', cap, e, _, hc⟩ := h
  obtain ⟨off', rfl, _, _, _, hcell, _⟩ := hc (by have := (List.getElem?_eq_some_iff.1 hj).1; omega)
  injection e with e1 _ _
  injection e1 with e1
  injection e1 with e2 e3
  subst e2
  subst e3
  exact hcell j x hj
theorem copies_sum (w : World) : CopiesM mSum [] w := fun w' _ =>
  (copyModule_nil 5 0 0 0 0 0 0 0 w').mono fun _ _ ⟨h1, h2⟩ => ⟨mSum, h1, .inl ⟨rfl, rfl⟩, h2⟩
theorem copies_delay1 {A : Option Addr} {p : Nat} {o : Bool} {b lo hi : Nat} {w : World} {z : Cx} (h : HasS cxV o b lo hi w (.slice A 1 p) [z]) : CopiesM (mDelay1 A p) [z] w := fun w' s =>
  (copyModule_delay [z] 1 p 0 A rfl (by simp) o b lo hi w' (h.span s (.inl (Nat.le_refl _)))).mono fun _ _ ⟨A', p', bs, h1, h2, h3⟩ =>
    ⟨{ mDelay1 A p with S := A', sp := p' }, h1, .inr ⟨A', p', bs, _, rfl, ⟨rfl, by simp⟩, h2⟩, h3⟩
theorem loop_okN {A : Option Addr} {p : Nat} (hA : A ≠ none) (b : Nat) (w : World) (Ns : List Mw) (h : CopN b w (loopMs A p) [[], [(0, 0)]] Ns) : ∀ x ∈ Ns, OkM w x := by
  intro x hx
  obtain ⟨i, hi⟩ := List.getElem?_of_mem hx
  obtain ⟨m, r, h1, h2, h3⟩ := h i x hi
  match i, h1, h2 with
  | 0, h1, h2 =>
    simp [loopMs] at h1 h2
    subst h1; subst h2
    rcases h3 with ⟨rfl, _⟩ | ⟨_, _, _, _, _, h4, _⟩
    · exact okM_sum _
    · exact absurd h4.2 (by simp)
  | 1, h1, h2 =>
    simp [loopMs] at h1 h2
    subst h1; subst h2
    rcases h3 with ⟨rfl, h4⟩ | ⟨A', p', bs, hi', rfl, h4, h5⟩
    · exact absurd h4 hA
    · exact okM_delay1 h5
  | i + 2, h1, _ => simp [loopMs] at h1

theorem loop_copies {A : Option Addr} {p : Nat} {o : Bool} {b lo hi : Nat} {w : World} (h : HasS cxV o b lo hi w (.slice A 1 p) [(0, 0)]) : ([[], [(0, 0)]] : List (List Cx)).length = (loopMs A p).length ∧ ∀ (i : Nat) (x : Mw) (r : List Cx), (loopMs A p)[i]? = some x → ([[], [(0, 0)]] : List (List Cx))[i]? = some r → CopiesM x r w := by
  refine ⟨rfl, fun i x r hx hr => ?_⟩
  match i, hx, hr with
  | 0, hx, hr => simp [loopMs] at hx hr; subst hx; subst hr; exact copies_sum w
  | 1, hx, hr => simp [loopMs] at hx hr; subst hx; subst hr; exact copies_delay1 h
  | i + 2, hx, _ => simp [loopMs] at hx
theorem loop_addCable {w : World} {bM bC lo hi : Nat} {AM : Option Addr} {cM : Nat} {AC : Option Addr} {m cC : Nat} {A : Option Addr} {p : Nat} (hA : A ≠ none) (hr : RkAt w bM bC lo hi AM 2 cM AC m cC (loopMs A p) loopCs) {o : Bool} {bd ld hd : Nat} (hd2 : HasS cxV o bd ld hd w (.slice A 1 p) [(0, 0)]) (f t : Nat) (hf : f < 2) (ht : t < 2) (ok : Bool) (hok : (orderC [5, 4] (loopCs ++ [(f, t)]) 2).isSome = ok) :
    Calls Try.prog 15 #[.agg #[.slice AM 2 cM, .slice AC m cC], .int .i64 (f : Int), .int .i64 (t : Int)] w fun e w' => (∃ A1 n1 c1 A2 n2 c2, e = .returned (.tuple #[.agg #[.slice A1 n1 c1, .slice A2 n2 c2], .bool ok])) ∧ Span 0 0 w w' := by
  have hm : m = 2 := hr.cabs.len.1
  have := addCable_any hr [[], [(0, 0)]] (loop_copies hd2) (fun b w' Ns h => loop_okN hA b w' Ns h) (by decide : (orderC [5, 4] loopCs 2).isSome = true) f t hf ht (by omega)
  rw [show (loopMs A p).map Mw.k = [5, 4] from rfl, hok] at this
  exact this
/-- The sums as the law reckons them. -/
def sumL (zs : Nat → Cx) : Nat → Cx
  | 0 => (0, 0)
  | r + 1 => addC (sumL zs r) (zs r)
theorem sumL_whole (zs : Nat → Cx) (zi : Nat → Int × Int) (hz : ∀ r, WholeC (zs r) (zi r)) (h : ∀ r, (zi r).1.natAbs ≤ 3 ∧ (zi r).2.natAbs ≤ 3) : ∀ r, r ≤ 30 → WholeC (sumL zs r) (sumT zi r)
  | 0, _ => wholeC_zero
  | r + 1, hr => by
    have ih := sumL_whole zs zi hz h r (by omega)
    have b := sumT_le zi h r
    have c := h r
    exact (addC_whole ih (hz r) (by omega) (by omega)).2
theorem cmp_self (a : Int) : compare a a = .eq := by simp [compare, compareOfLessAndEq]
theorem add_facts {x z : Nat} {a b : Int} (hx : Whole x a) (hz : Whole z b) (h : (a + b).natAbs < 16777216) : (∀ w, fAr .add .f32 x z w = fC .add .f32 x z) ∧ fDr .add .f32 x z = 0 := by
  obtain ⟨r, e, _⟩ := whole_add hx hz h
  have h3 : fC .add .f32 x z = r := fC_some e
  rw [h3]
  exact ar_of e
theorem sumL_facts (zs : Nat → Cx) (zi : Nat → Int × Int) (hz : ∀ r, WholeC (zs r) (zi r)) (h : ∀ r, (zi r).1.natAbs ≤ 3 ∧ (zi r).2.natAbs ≤ 3) (r : Nat) (hr : r < 30) :
    ((∀ w, fAr .add .f32 (sumL zs r).1 (zs r).1 w = (sumL zs (r + 1)).1) ∧ fDr .add .f32 (sumL zs r).1 (zs r).1 = 0) ∧ ((∀ w, fAr .add .f32 (sumL zs r).2 (zs r).2 w = (sumL zs (r + 1)).2) ∧ fDr .add .f32 (sumL zs r).2 (zs r).2 = 0) ∧
    FloatKind.f32.format.order (loopSD zs (r + 1)).1.1 (sumL zs (r + 1)).1 = some .eq ∧ FloatKind.f32.format.order (loopSD zs (r + 1)).1.2 (sumL zs (r + 1)).2 = some .eq := by
  have ih := sumL_whole zs zi hz h r (by omega)
  have i2 := sumL_whole zs zi hz h (r + 1) (by omega)
  have lf := (loop_facts zs zi hz h (r + 1) (by omega)).1
  have b := sumT_le zi h r
  have c := h r
  refine ⟨add_facts ih.1 (hz r).1 (by omega), add_facts ih.2 (hz r).2 (by omega), ?_, ?_⟩
  · rw [order_whole lf.1 i2.1, cmp_self]
  · rw [order_whole lf.2 i2.2, cmp_self]
theorem orderC_none : (orderC [5, 4] (loopCs ++ [(0, 0)]) 2).isSome = false := by decide
theorem orderC_some : (orderC [5, 4] (loopCs ++ [(1, 1)]) 2).isSome = true := by decide
theorem orderC_loop : (orderC [5, 4] loopCs 2).isSome = true := by decide
end Go.Proofs.Ytpiiflhdllpoiaa
