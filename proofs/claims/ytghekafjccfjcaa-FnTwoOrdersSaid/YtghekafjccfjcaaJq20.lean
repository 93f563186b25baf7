/- Racks in memory: their modules and cables; the parts of a valid rack. -/
import Derived.Test.YtghekafjccfjcaaJq19
import Derived.Outline
namespace Go.Proofs.Ytghekafjccfjcaa
open Go.RowKit

/-- A module as its eleven cells tell it. -/
structure Mw where
  k : Int
  t1 : Nat
  t2 : Nat
  s1 : Nat
  s2 : Nat
  lv : Nat
  S : Option Addr
  sn : Nat
  sp : Nat
  a : Int
  cnt : Int
  P : Option Addr
  pn : Nat
  pp : Nat
  L : Option Addr
  ln : Nat
  lp : Nat
  c : Int
  f : Int
def Mw.l (m : Mw) : List Value := [.int .i64 m.k, .complex .f32 m.t1 m.t2, .complex .f32 m.s1 m.s2, .float .f32 m.lv, .slice m.S m.sn m.sp, .int .i64 m.a, .int .i64 m.cnt, .slice m.P m.pn m.pp, .slice m.L m.ln m.lp, .int .i64 m.c, .int .i64 m.f]

theorem HasC.mw {b b' off lo hi n c j : Nat} {w : World} {L : List Mw} {m : Mw} (h : HasC 11 Mw.l b lo hi w (.slice (some ⟨b', off, none⟩) n c) L) (hj : L[j]? = some m) : MAt w b' (off + j * 11) (.int .i64 m.k) (.complex .f32 m.t1 m.t2) (.complex .f32 m.s1 m.s2) (.float .f32 m.lv) (.slice m.S m.sn m.sp) (.int .i64 m.a) (.int .i64 m.cnt) (.slice m.P m.pn m.pp) (.slice m.L m.ln m.lp) (.int .i64 m.c) (.int .i64 m.f) :=
  ⟨h.at_ hj (i := 0) rfl, h.at_ hj (i := 1) rfl, h.at_ hj (i := 2) rfl, h.at_ hj (i := 3) rfl, h.at_ hj (i := 4) rfl, h.at_ hj (i := 5) rfl, h.at_ hj (i := 6) rfl, h.at_ hj (i := 7) rfl, h.at_ hj (i := 8) rfl, h.at_ hj (i := 9) rfl, h.at_ hj (i := 10) rfl⟩

/-- A module that is found valid, in this world and behind whatever makes new blocks alone. -/
def OkM (w : World) (m : Mw) : Prop := ∀ w', Span 0 0 w w' → Calls Try.prog 29 #[.agg #[.int .i64 m.k, .complex .f32 m.t1 m.t2, .complex .f32 m.s1 m.s2, .float .f32 m.lv, .slice m.S m.sn m.sp, .int .i64 m.a, .int .i64 m.cnt, .slice m.P m.pn m.pp, .slice m.L m.ln m.lp, .int .i64 m.c, .int .i64 m.f]] w' (True0 w')
theorem OkM.keep {w w' : World} {m : Mw} (h : OkM w m) (s : Span 0 0 w w') : OkM w' m := fun w2 s2 => h w2 (s.trans s2)

set_option maxRecDepth 100000 in
theorem isIndex_true (i n : Nat) (h : i < n) (w : World) : Calls Try.prog 15 #[.int .i64 (i : Int), .int .i64 (n : Int)] w fun e w' => e = .returned (.bool true) ∧ w = w' := by
  have h1 : (0 : Int) ≤ (i : Int) := by omega
  have h2 : (i : Int) < (n : Int) := by omega
  clear h
  go_enter Try.func15, Try.ntmps15
  go_wp2_with fail
  go_ret
  exact ⟨rfl, rfl⟩

/-- A valid rack in memory but for the order of its modules. -/
structure RkAt (w : World) (bM bC lo hi : Nat) (AM : Option Addr) (n cM : Nat) (AC : Option Addr) (m cC : Nat) (Ms : List Mw) (Cs : List (Nat × Nat)) : Prop where
  mods : HasC 11 Mw.l bM lo hi w (.slice AM n cM) Ms
  cabs : HasC 2 cabC bC lo hi w (.slice AC m cC) Cs
  most : n ≤ 16 ∧ m ≤ 40
  ok : ∀ x ∈ Ms, OkM w x
  ends : ∀ x ∈ Cs, x.1 < n ∧ x.2 < n
theorem RkAt.keep {w w' : World} {bM bC lo hi : Nat} {AM : Option Addr} {n cM : Nat} {AC : Option Addr} {m cC : Nat} {Ms : List Mw} {Cs : List (Nat × Nat)} (h : RkAt w bM bC lo hi AM n cM AC m cC Ms Cs) (s : Span 0 0 w w') : RkAt w' bM bC lo hi AM n cM AC m cC Ms Cs :=
  ⟨h.mods.keep s, h.cabs.keep s, h.most, fun x hx => (h.ok x hx).keep s, h.ends⟩

set_option maxRecDepth 100000 in
set_option maxHeartbeats 4000000 in
theorem hasValidParts_true {w : World} {bM bC lo hi : Nat} {AM : Option Addr} {n cM : Nat} {AC : Option Addr} {m cC : Nat} {Ms : List Mw} {Cs : List (Nat × Nat)} (hr : RkAt w bM bC lo hi AM n cM AC m cC Ms Cs) :
    Calls Try.prog 24 #[.agg #[.slice AM n cM, .slice AC m cC]] w (True0 w) := by
  have HR := Lib.hid hr
  have HN := Lib.hid hr.mods.len.1
  have HM := Lib.hid hr.cabs.len.1
  have i1 : decide ((16 : Int) < (n : Int)) = false := by rw [decide_eq_false_iff_not]; have := hr.most; omega
  have i2 : decide ((40 : Int) < (m : Int)) = false := by rw [decide_eq_false_iff_not]; have := hr.most; omega
  have i3 : (n : Int) ≤ 16 := by have := hr.most; omega
  have i4 : (m : Int) ≤ 40 := by have := hr.most; omega
  clear hr
  go_enter Try.func24, Try.ntmps24
  go_wp2_with fail
  have BX := Lib.hid (Bx.new w #[.slice AM n cM, .slice AC m cC] 45)
  have HS := Lib.hid ((Span.refl 0 0 w).alloc (.cells #[.slice AM n cM, .slice AC m cC] 45))
  generalize w.alloc (.cells #[.slice AM n cM, .slice AC m cC] 45) = w0 at *
  go_loopw [20] (fun q wr => ∃ k : Nat, k ≤ n ∧ q = .int .i64 k ∧ Span 0 0 w0 wr) (fun q _ => n - (intOf q).toNat)
  case atStart => exact ⟨0, Nat.zero_le _, rfl, Span.refl _ _ _⟩
  case round =>
    obtain ⟨k, hk, rfl, hs⟩ := hrel
    by_cases hlt : k < n
    · obtain ⟨x, hx⟩ := getElem?_some (xs := Ms) (j := k) (by rw [← HN.out]; exact hlt)
      have R := HR.out.keep (HS.out.trans hs)
      have OK := Lib.hid (R.ok x (List.mem_of_getElem? hx))
      obtain ⟨off, hoff⟩ := R.mods.addr (by rw [← HN.out]; omega)
      subst hoff
      obtain ⟨c0, c1, c2, c3, c4, c5, c6, c7, c8, c9, c10⟩ := R.mods.mw hx
      have HSR := Lib.hid hs
      have j1 : (0 : Int) ≤ (k : Int) := by omega
      have j2 : (k : Int) < (n : Int) := by omega
      clear R hx hs
      obtain ⟨k', t1, t2, s1, s2, lv, S, sn, sp, a, cnt, P, pn, pp, L, ln, lp, c, f⟩ := x
      simp only at c0 c1 c2 c3 c4 c5 c6 c7 c8 c9 c10
      go_wp2_with fail
      refine (OK.out _ ((Span.refl 0 0 _).alloc _)).mono ?_
      rintro _ wa ⟨rfl, sa⟩
      have SA := Lib.hid ((HSR.out.alloc (.cells #[.int .i64 k', .complex .f32 t1 t2, .complex .f32 s1 s2, .float .f32 lv, .slice S sn sp, .int .i64 a, .int .i64 cnt, .slice P pn pp, .slice L ln lp, .int .i64 c, .int .i64 f] 37)).trans sa)
      clear sa c0 c1 c2 c3 c4 c5 c6 c7 c8 c9 c10
      go_wp2_with fail
      go_roundw
      case rel => exact ⟨k + 1, by omega, by go_num, SA.out⟩
      case measure => simp [intOf]; omega
    · have cB := (BX.out.keep hs).cells
      have HSR := Lib.hid hs
      have BX1 := Lib.hid (BX.out.keep hs)
      obtain ⟨w1, rfl⟩ : ∃ t, t = wr := ⟨_, rfl⟩
      clear hs
      go_wp2_with fail
      clear cB
      go_loopw [31] (fun q wr => ∃ k : Nat, k ≤ m ∧ q = .int .i64 k ∧ Span 0 0 w1 wr) (fun q _ => m - (intOf q).toNat)
      case atStart => exact ⟨0, Nat.zero_le _, rfl, Span.refl _ _ _⟩
      case round =>
        obtain ⟨k2, hk2, rfl, hs⟩ := hrel
        by_cases hlt2 : k2 < m
        · obtain ⟨⟨x, y⟩, hx⟩ := getElem?_some (xs := Cs) (j := k2) (by rw [← HM.out]; exact hlt2)
          have R := HR.out.keep ((HS.out.trans HSR.out).trans hs)
          obtain ⟨e1, e2⟩ := R.ends (x, y) (List.mem_of_getElem? hx)
          have I1 := Lib.hid (isIndex_true x n e1)
          have I2 := Lib.hid (isIndex_true y n e2)
          obtain ⟨off, hoff⟩ := R.cabs.addr (by rw [← HM.out]; omega)
          subst hoff
          obtain ⟨c0, c1⟩ := R.cabs.cable hx
          have cA := (BX1.out.keep hs).cellsA
          have HS2 := Lib.hid (hs.alloc (.cells #[.int .i64 (x : Int), .int .i64 (y : Int)] 42))
          have j1 : (0 : Int) ≤ (k2 : Int) := by omega
          have j2 : (k2 : Int) < (m : Int) := by omega
          clear R hx hs e1 e2
          simp only at c0 c1
          go_wp2_with fail
          refine (I1.out _).mono ?_
          rintro _ _ ⟨rfl, rfl⟩
          go_wp2_with fail
          refine (I2.out _).mono ?_
          rintro _ _ ⟨rfl, rfl⟩
          go_wp2_with fail
          go_roundw
          case rel => exact ⟨k2 + 1, by omega, by go_num, HS2.out⟩
          case measure => simp [intOf]; omega
        · have HS2 := Lib.hid ((HS.out.trans HSR.out).trans hs)
          clear hs
          go_wp2_with fail
          go_ret
          exact ⟨rfl, HS2.out⟩
end Go.Proofs.Ytghekafjccfjcaa
