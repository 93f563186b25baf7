/- AppendWindow, of the program and of the model. -/
import Derived.Test.YtlhocjoncblocaaJq54
import Derived.Test.YtlhocjoncblocaaRqVK
namespace Go.Proofs.Ytlhocjoncblocaa
open Go.RowKit

/-- What an appended window gives. -/
def appW (p : Pl) (tg src : Nat) : Option Pl := (winP p src).bind fun xs => appP p tg xs

theorem VP.appW_ok {p q : Pl} {tg src : Nat} (h : VP p) (hq : appW p tg src = some q) : VP q := by
  unfold appW at hq
  cases hw : winP p src with
  | none => rw [hw] at hq; cases hq
  | some xs => rw [hw] at hq; exact (h.app hq).1

theorem winP_lenA {p : Pl} (hv : VP p) {k : Nat} {ys : List Cx} (h : winP p k = some ys) : ys.length ≤ 256 := by
  unfold winP at h
  rw [Option.map_eq_some_iff] at h
  obtain ⟨x, hx, rfl⟩ := h
  have := hv.size
  simp
  omega

theorem WinS.oneA {ys : List Cx} {w : World} {e : Ending} {w' : World} (h : WinS (some ys) w e w') :
    ∃ (A : Option Addr) (c b : Nat), e = .returned (.tuple #[.slice A ys.length c, .bool true]) ∧ HasS cxV true b w.heap.size w'.heap.size w' (.slice A ys.length c) ys ∧ Span 0 0 w w' := by
  obtain ⟨⟨v, b, rfl, hs⟩, h2⟩ := h
  obtain ⟨A, c, rfl, _⟩ := id hs
  exact ⟨A, c, b, rfl, hs, h2⟩

theorem GivesQ.okA {o : Option Pl} {w : World} {e : Ending} {w' : World} (h : GivesQ o w e w') (hv : ∀ q, o = some q → VP q) :
    ∃ (q : Pl) (A : Option Addr) (c : Nat) (A' : Option Addr) (c' : Nat), e = .returned (.tuple #[.agg #[.slice A q.1.length c, .slice A' q.2.length c'], .bool o.isSome]) ∧ (∀ q', o = some q' → q' = q) ∧ VP q ∧ HasP w.heap.size w'.heap.size w' (.agg #[.slice A q.1.length c, .slice A' q.2.length c']) q ∧ Span 0 0 w w' := by
  obtain ⟨h1, h2⟩ := h
  cases o with
  | none => exact ⟨([], []), none, 0, none, 0, h1, (fun q hq => by cases hq), VP.none_, HasP.none_ _ _ _, h2⟩
  | some q =>
    obtain ⟨v, rfl, hp⟩ := h1
    obtain ⟨A, c, A', c', rfl⟩ := hp.form
    exact ⟨q, A, c, A', c', rfl, (fun q' hq => by injection hq with hq; exact hq.symm), hv q rfl, hp, h2⟩

set_option maxRecDepth 100000 in
set_option maxHeartbeats 4000000 in
theorem impl_appendWindow (p : Pl) (tg src : Nat) (lo hi : Nat) (v : Value) (w : World) (hx : HasP lo hi w v p) (hp : VP p) (hto : tg ≤ 4194304) (hsrc : src ≤ 4194304) :
    Calls Try.prog 27 #[v, .int .i64 (tg : Int), .int .i64 (src : Int)] w (GivesQ (appW p tg src) w) := by
  have HX := Lib.hid hx
  have HV := Lib.hid hp
  obtain ⟨AS, cS, AL, cL, rfl⟩ := hx.form
  have X0 := Lib.hid ((Box.new w (.slice AS p.1.length cS) (.slice AL p.2.length cL) 26).alloc (.cells #[.slice none 0 0, .slice none 0 0] 26))
  have X1 := Lib.hid (Box.new (w.alloc (.cells #[.slice AS p.1.length cS, .slice AL p.2.length cL] 26)) (.slice none 0 0) (.slice none 0 0) 26)
  rw [show (w.alloc (.cells #[.slice AS p.1.length cS, .slice AL p.2.length cL] 26)).heap.size = w.heap.size + 1 by simp] at X1
  have HS := Lib.hid (((Span.refl 0 0 w).alloc (.cells #[.slice AS p.1.length cS, .slice AL p.2.length cL] 26)).alloc (.cells #[.slice none 0 0, .slice none 0 0] 26))
  obtain ⟨_, x0, x1, _, _⟩ := X0.out
  clear hp hx
  go_enter Try.func27, Try.ntmps27
  go_wp2_with fail
  refine (impl_windowOf p src lo hi _ _ (HX.out.span HS.out (.inl (Nat.le_refl _))) HV.out hsrc).mono ?_
  intro e1 w1 h1
  cases hw : winP p src with
  | none =>
    rw [hw] at h1
    obtain ⟨rfl, s1⟩ := h1
    have HG : Hid (appW p tg src = none) := by unfold Hid appW; rw [hw]; rfl
    have Y1 := Lib.hid (X1.out.span s1 (.inl (Nat.le_refl _)))
    have S1 := Lib.hid (s1.after HS.out)
    have HB := Lib.hid (box_stored (u' := .slice none 0 0) (v' := .slice none 0 0) Y1.out)
    have HSF := Lib.hid ((S1.out.setCell (p := ⟨w.heap.size + 1, 0, none⟩) (.inr (by simp only; omega)) (.slice none 0 0)).setCell (p := ⟨w.heap.size + 1, 1, none⟩) (.inr (by simp only; omega)) (.slice none 0 0))
    clear s1 x0 x1 X0 X1 HS hw
    obtain ⟨_, y0, y1, y2, y3⟩ := Y1.out
    go_wp2_with fail
    refine bodyPost_ret (v := .tuple #[.agg #[.slice none 0 0, .slice none 0 0], .bool false]) (by simp [results, Try.results27, go_sem, HB.out.1, HB.out.2]) rfl ?_
    rw [HG.out]
    exact ⟨rfl, HSF.out⟩
  | some xs =>
    rw [hw] at h1
    obtain ⟨W, c9, b9, rfl, hs9, s1⟩ := h1.oneA
    have HG : Hid (appW p tg src = appP p tg xs) := by unfold Hid appW; rw [hw]; rfl
    have HL : Hid (xs.length ≤ 256) := winP_lenA HV.out hw
    have HS9 := Lib.hid hs9.bare
    have Y0 := Lib.hid (X0.out.span s1 (.inl (Nat.le_refl _)))
    have Y1 := Lib.hid (X1.out.span s1 (.inl (Nat.le_refl _)))
    have S1 := Lib.hid (s1.after HS.out)
    clear s1 hs9 x0 x1 X0 X1 HS hw
    obtain ⟨_, x0, x1, _, _⟩ := Y0.out
    go_wp2_with fail
    refine (impl_appendTo p tg xs _ _ _ _ _ _ _ w1 (HX.out.span S1.out (.inl (Nat.le_refl _))) HV.out hto HS9.out (by have := HL.out; omega)).mono ?_
    intro e2 w2 h2
    cases hq : appP p tg xs with
    | none =>
      rw [hq] at h2
      obtain ⟨rfl, s2⟩ := h2
      have HG2 : Hid (appW p tg src = none) := by unfold Hid; rw [HG.out, hq]
      have Z1 := Lib.hid (Y1.out.span s2 (.inl (Nat.le_refl _)))
      have S2 := Lib.hid (s2.after S1.out)
      have HB := Lib.hid (box_stored (u' := .slice none 0 0) (v' := .slice none 0 0) Z1.out)
      have HSF := Lib.hid ((S2.out.setCell (p := ⟨w.heap.size + 1, 0, none⟩) (.inr (by simp only; omega)) (.slice none 0 0)).setCell (p := ⟨w.heap.size + 1, 1, none⟩) (.inr (by simp only; omega)) (.slice none 0 0))
      clear s2 x0 x1 Y0 Y1 hq
      obtain ⟨_, y0, y1, y2, y3⟩ := Z1.out
      go_wp2_with fail
      refine bodyPost_ret (v := .tuple #[.agg #[.slice none 0 0, .slice none 0 0], .bool false]) (by simp [results, Try.results27, go_sem, HB.out.1, HB.out.2]) rfl ?_
      rw [HG2.out]
      exact ⟨rfl, HSF.out⟩
    | some q =>
      rw [hq] at h2
      obtain ⟨⟨v2, rfl, hp2⟩, s2⟩ := h2
      obtain ⟨B1, u1, B2, u2, rfl⟩ := hp2.form
      have HG2 : Hid (appW p tg src = some q) := by unfold Hid; rw [HG.out, hq]
      have Z1 := Lib.hid (Y1.out.span s2 (.inl (Nat.le_refl _)))
      have S2 := Lib.hid (s2.after S1.out)
      have HB := Lib.hid (box_stored (u' := .slice B1 q.1.length u1) (v' := .slice B2 q.2.length u2) Z1.out)
      have HSF := Lib.hid ((S2.out.setCell (p := ⟨w.heap.size + 1, 0, none⟩) (.inr (by simp only; omega)) (.slice B1 q.1.length u1)).setCell (p := ⟨w.heap.size + 1, 1, none⟩) (.inr (by simp only; omega)) (.slice B2 q.2.length u2))
      have TT := (Span.refl (w.heap.size + 1) (w.heap.size + 1 + 1) w2).put2 (b := w.heap.size + 1) ⟨Nat.le_refl _, Nat.lt_succ_self _⟩ (.slice B1 q.1.length u1) (.slice B2 q.2.length u2)
      have hY := Y1.out.1
      have HPF := Lib.hid ((hp2.span TT (by omega)).weak (lo' := w.heap.size) (by omega) (.inl TT.size))
      clear s2 x0 x1 Y0 Y1 hq TT hp2 hY
      obtain ⟨_, y0, y1, y2, y3⟩ := Z1.out
      go_wp2_with fail
      refine bodyPost_ret (v := .tuple #[.agg #[.slice B1 q.1.length u1, .slice B2 q.2.length u2], .bool true]) (by simp [results, Try.results27, go_sem, HB.out.1, HB.out.2]) rfl ?_
      rw [HG2.out]
      exact ⟨⟨_, rfl, HPF.out⟩, HSF.out⟩

set_option maxRecDepth 100000 in
set_option maxHeartbeats 4000000 in
theorem spec_appendWindow (p : Pl) (tg src : Nat) (lo hi : Nat) (v : Value) (w : World) (hx : HasP lo hi w v p) (hp : VP p) (hto : tg ≤ 4194304) (hsrc : src ≤ 4194304) :
    Calls Try.prog 28 #[v, .int .i64 (tg : Int), .int .i64 (src : Int)] w (GivesQ (appW p tg src) w) := by
  have HX := Lib.hid hx
  have HV := Lib.hid hp
  obtain ⟨AS, cS, AL, cL, rfl⟩ := hx.form
  have X0 := Lib.hid ((Box.new w (.slice AS p.1.length cS) (.slice AL p.2.length cL) 26).alloc (.cells #[.slice none 0 0, .slice none 0 0] 26))
  have X1 := Lib.hid (Box.new (w.alloc (.cells #[.slice AS p.1.length cS, .slice AL p.2.length cL] 26)) (.slice none 0 0) (.slice none 0 0) 26)
  rw [show (w.alloc (.cells #[.slice AS p.1.length cS, .slice AL p.2.length cL] 26)).heap.size = w.heap.size + 1 by simp] at X1
  have HS := Lib.hid (((Span.refl 0 0 w).alloc (.cells #[.slice AS p.1.length cS, .slice AL p.2.length cL] 26)).alloc (.cells #[.slice none 0 0, .slice none 0 0] 26))
  obtain ⟨_, x0, x1, _, _⟩ := X0.out
  clear hp hx
  go_enter Try.func28, Try.ntmps28
  go_wp2_with fail
  refine (spec_windowOf p src lo hi _ _ (HX.out.span HS.out (.inl (Nat.le_refl _))) HV.out hsrc).mono ?_
  intro e1 w1 h1
  cases hw : winP p src with
  | none =>
    rw [hw] at h1
    obtain ⟨rfl, s1⟩ := h1
    have HG : Hid (appW p tg src = none) := by unfold Hid appW; rw [hw]; rfl
    have Y1 := Lib.hid (X1.out.span s1 (.inl (Nat.le_refl _)))
    have S1 := Lib.hid (s1.after HS.out)
    have HB := Lib.hid (box_stored (u' := .slice none 0 0) (v' := .slice none 0 0) Y1.out)
    have HSF := Lib.hid ((S1.out.setCell (p := ⟨w.heap.size + 1, 0, none⟩) (.inr (by simp only; omega)) (.slice none 0 0)).setCell (p := ⟨w.heap.size + 1, 1, none⟩) (.inr (by simp only; omega)) (.slice none 0 0))
    clear s1 x0 x1 X0 X1 HS hw
    obtain ⟨_, y0, y1, y2, y3⟩ := Y1.out
    go_wp2_with fail
    refine bodyPost_ret (v := .tuple #[.agg #[.slice none 0 0, .slice none 0 0], .bool false]) (by simp [results, Try.results28, go_sem, HB.out.1, HB.out.2]) rfl ?_
    rw [HG.out]
    exact ⟨rfl, HSF.out⟩
  | some xs =>
    rw [hw] at h1
    obtain ⟨W, c9, b9, rfl, hs9, s1⟩ := h1.oneA
    have HG : Hid (appW p tg src = appP p tg xs) := by unfold Hid appW; rw [hw]; rfl
    have HL : Hid (xs.length ≤ 256) := winP_lenA HV.out hw
    have HS9 := Lib.hid hs9.bare
    have Y0 := Lib.hid (X0.out.span s1 (.inl (Nat.le_refl _)))
    have Y1 := Lib.hid (X1.out.span s1 (.inl (Nat.le_refl _)))
    have S1 := Lib.hid (s1.after HS.out)
    clear s1 hs9 x0 x1 X0 X1 HS hw
    obtain ⟨_, x0, x1, _, _⟩ := Y0.out
    go_wp2_with fail
    refine (spec_appendTo p tg xs _ _ _ _ _ _ _ w1 (HX.out.span S1.out (.inl (Nat.le_refl _))) HV.out hto HS9.out (by have := HL.out; omega)).mono ?_
    intro e2 w2 h2
    cases hq : appP p tg xs with
    | none =>
      rw [hq] at h2
      obtain ⟨rfl, s2⟩ := h2
      have HG2 : Hid (appW p tg src = none) := by unfold Hid; rw [HG.out, hq]
      have Z1 := Lib.hid (Y1.out.span s2 (.inl (Nat.le_refl _)))
      have S2 := Lib.hid (s2.after S1.out)
      have HB := Lib.hid (box_stored (u' := .slice none 0 0) (v' := .slice none 0 0) Z1.out)
      have HSF := Lib.hid ((S2.out.setCell (p := ⟨w.heap.size + 1, 0, none⟩) (.inr (by simp only; omega)) (.slice none 0 0)).setCell (p := ⟨w.heap.size + 1, 1, none⟩) (.inr (by simp only; omega)) (.slice none 0 0))
      clear s2 x0 x1 Y0 Y1 hq
      obtain ⟨_, y0, y1, y2, y3⟩ := Z1.out
      go_wp2_with fail
      refine bodyPost_ret (v := .tuple #[.agg #[.slice none 0 0, .slice none 0 0], .bool false]) (by simp [results, Try.results28, go_sem, HB.out.1, HB.out.2]) rfl ?_
      rw [HG2.out]
      exact ⟨rfl, HSF.out⟩
    | some q =>
      rw [hq] at h2
      obtain ⟨⟨v2, rfl, hp2⟩, s2⟩ := h2
      obtain ⟨B1, u1, B2, u2, rfl⟩ := hp2.form
      have HG2 : Hid (appW p tg src = some q) := by unfold Hid; rw [HG.out, hq]
      have Z1 := Lib.hid (Y1.out.span s2 (.inl (Nat.le_refl _)))
      have S2 := Lib.hid (s2.after S1.out)
      have HB := Lib.hid (box_stored (u' := .slice B1 q.1.length u1) (v' := .slice B2 q.2.length u2) Z1.out)
      have HSF := Lib.hid ((S2.out.setCell (p := ⟨w.heap.size + 1, 0, none⟩) (.inr (by simp only; omega)) (.slice B1 q.1.length u1)).setCell (p := ⟨w.heap.size + 1, 1, none⟩) (.inr (by simp only; omega)) (.slice B2 q.2.length u2))
      have TT := (Span.refl (w.heap.size + 1) (w.heap.size + 1 + 1) w2).put2 (b := w.heap.size + 1) ⟨Nat.le_refl _, Nat.lt_succ_self _⟩ (.slice B1 q.1.length u1) (.slice B2 q.2.length u2)
      have hY := Y1.out.1
      have HPF := Lib.hid ((hp2.span TT (by omega)).weak (lo' := w.heap.size) (by omega) (.inl TT.size))
      clear s2 x0 x1 Y0 Y1 hq TT hp2 hY
      obtain ⟨_, y0, y1, y2, y3⟩ := Z1.out
      go_wp2_with fail
      refine bodyPost_ret (v := .tuple #[.agg #[.slice B1 q.1.length u1, .slice B2 q.2.length u2], .bool true]) (by simp [results, Try.results28, go_sem, HB.out.1, HB.out.2]) rfl ?_
      rw [HG2.out]
      exact ⟨⟨_, rfl, HPF.out⟩, HSF.out⟩
end Go.Proofs.Ytlhocjoncblocaa
