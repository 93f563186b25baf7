/- Lists of changes: asked by the model and by the program; compared. The law. -/
import Derived.Test.YtihdpljkllpkaaaJq32
import Derived.Test.YtihdpljkllpkaaaJq5
import Derived.Deep.DeepCutAuto
import Derived.Outline
namespace Go.Proofs.Ytihdpljkllpkaaa
open Go.RowKit

set_option maxRecDepth 100000 in
set_option maxHeartbeats 2000000 in
theorem spec_are (L : List Ch) (b lo hi : Nat) (v : Value) (w : World) (hL : HasC 2 chC b lo hi w v L) (hm : L.length ≤ 1048576) :
    Calls Try.prog 5 #[v] w (BoolIs (areOk L) w) := by
  have HL := Lib.hid hL
  obtain ⟨A, cap, rfl, -, -⟩ := hL
  obtain ⟨n, hn⟩ : ∃ n, n = L.length := ⟨_, rfl⟩
  have HN := Lib.hid hn
  rw [← hn] at HL hm ⊢
  have i1 : (n : Int) ≤ 1048576 := by omega
  have i0 : (0 : Int) ≤ (n : Int) := by omega
  clear hn hm
  go_enter Try.func5, Try.ntmps5
  go_wp2_with fail
  go_loopw [7] (fun q wr => ∃ k : Nat, k ≤ n ∧ q = .int .i64 k ∧ (L.take k).all atOk = true ∧ Span 0 0 w wr) (fun q _ => n - (intOf q).toNat)
  case atStart => exact ⟨0, Nat.zero_le _, rfl, rfl, Span.refl _ _ _⟩
  case round =>
    obtain ⟨k, hk, rfl, hall, hs⟩ := hrel
    have HALL := Lib.hid hall
    have HSR := Lib.hid hs
    by_cases hlt : k < n
    · obtain ⟨x, hx⟩ := getElem?_some (xs := L) (j := k) (by rw [← HN.out]; exact hlt)
      have R := HL.out.keep hs
      obtain ⟨off, hoff⟩ := R.addr (by rw [← HN.out]; omega)
      subst hoff
      obtain ⟨c0, c1⟩ := R.change hx
      have HX := Lib.hid hx
      have j1 : (0 : Int) ≤ (k : Int) := by omega
      have j2 : (k : Int) < (n : Int) := by omega
      have LI := Lib.hid (l1In_any x.1 0 500)
      clear R hx hs hall
      obtain ⟨a, s⟩ := x
      simp only at c0 c1 LI
      have SA := Lib.hid (HSR.out.alloc (.cells #[.int .i64 a, .string s] 32))
      cases hok : atOk (a, s) with
      | true =>
        have hd : decide (0 ≤ a ∧ a ≤ 500) = true := hok
        rw [hd] at LI
        have HOK := Lib.hid hok
        clear hok hd
        go_wp2_with fail
        refine (LI.out _).mono ?_
        rintro _ _ ⟨rfl, rfl⟩
        go_wp2_with fail
        go_roundw
        case rel => exact ⟨k + 1, by omega, by go_num, all_take HALL.out HX.out HOK.out, SA.out⟩
        case measure => simp [intOf]; omega
      | false =>
        have hd : decide (0 ≤ a ∧ a ≤ 500) = false := hok
        rw [hd] at LI
        have HA : Hid (areOk L = false) := by unfold areOk; rw [all_not HX.out hok]; exact rfl
        clear hok hd
        go_wp2_with fail
        refine (LI.out _).mono ?_
        rintro _ _ ⟨rfl, rfl⟩
        go_wp2_with fail
        go_ret
        exact ⟨by rw [HA.out]; rfl, SA.out⟩
    · have hkn : k = n := by omega
      subst hkn
      have HA : Hid (areOk L = decide (k ≤ 30)) := by unfold areOk; rw [HN.out, List.take_length] at hall; rw [hall, ← HN.out]; exact rfl
      clear hs hall
      by_cases h30 : k ≤ 30
      · have h30' : (k : Int) ≤ 30 := by omega
        rw [decide_eq_true h30] at HA
        go_wp2_with fail
        go_ret
        exact ⟨by rw [HA.out]; rfl, HSR.out⟩
      · have h30' : decide ((k : Int) ≤ 30) = false := decide_eq_false (by omega)
        rw [decide_eq_false h30] at HA
        go_wp2_with fail
        go_ret
        exact ⟨by rw [HA.out]; rfl, HSR.out⟩

set_option maxRecDepth 100000 in
set_option maxHeartbeats 2000000 in
theorem areAll_ch (L : List Ch) (b lo hi : Nat) (v : Value) (w : World) (hL : HasC 2 chC b lo hi w v L) (hm : L.length ≤ 1048576) :
    Calls Try.prog 12 #[v, .int .i64 30, .func (.func 13) #[] #[]] w (BoolIs (areOk L) w) := by
  have HL := Lib.hid hL
  obtain ⟨A, cap, rfl, -, -⟩ := hL
  obtain ⟨n, hn⟩ : ∃ n, n = L.length := ⟨_, rfl⟩
  have HN := Lib.hid hn
  rw [← hn] at HL hm ⊢
  have i1 : (n : Int) ≤ 1048576 := by omega
  have i0 : (0 : Int) ≤ (n : Int) := by omega
  clear hn hm
  by_cases h30 : 30 < n
  · have h30' : (30 : Int) < (n : Int) := by omega
    have HA : Hid (areOk L = false) := by unfold areOk; rw [← HN.out, decide_eq_false (show ¬ n ≤ 30 by omega), Bool.and_false]; exact rfl
    clear h30
    go_enter Try.func12, Try.ntmps12
    go_wp2_with fail
    go_ret
    exact ⟨by rw [HA.out]; rfl, Span.refl _ _ _⟩
  · have h30' : decide ((30 : Int) < (n : Int)) = false := decide_eq_false (by omega)
    have HT : Hid (decide (L.length ≤ 30) = true) := decide_eq_true (by rw [← HN.out]; omega)
    clear h30
    go_enter Try.func12, Try.ntmps12
    go_wp2_with fail
    go_loopw [15] (fun q wr => ∃ k : Nat, k ≤ n ∧ q = .int .i64 k ∧ (L.take k).all atOk = true ∧ Span 0 0 w wr) (fun q _ => n - (intOf q).toNat)
    case atStart => exact ⟨0, Nat.zero_le _, rfl, rfl, Span.refl _ _ _⟩
    case round =>
      obtain ⟨k, hk, rfl, hall, hs⟩ := hrel
      have HALL := Lib.hid hall
      have HSR := Lib.hid hs
      by_cases hlt : k < n
      · obtain ⟨x, hx⟩ := getElem?_some (xs := L) (j := k) (by rw [← HN.out]; exact hlt)
        have R := HL.out.keep hs
        obtain ⟨off, hoff⟩ := R.addr (by rw [← HN.out]; omega)
        subst hoff
        obtain ⟨c0, c1⟩ := R.change hx
        have HX := Lib.hid hx
        have j1 : (0 : Int) ≤ (k : Int) := by omega
        have j2 : (k : Int) < (n : Int) := by omega
        have AC := Lib.hid (at_closure x)
        clear R hx hs hall h30'
        cases hok : atOk x with
        | true =>
          rw [hok] at AC
          have HOK := Lib.hid hok
          clear hok
          obtain ⟨a, s⟩ := x
          simp only at c0 c1 AC
          have SA := Lib.hid (HSR.out.alloc (.cells #[.int .i64 a, .string s] 32))
          go_wp2_with fail
          refine (AC.out _).mono ?_
          rintro _ wa ⟨rfl, sa⟩
          have SB := Lib.hid (SA.out.trans sa)
          clear sa
          go_wp2_with fail
          go_roundw
          case rel => exact ⟨k + 1, by omega, by go_num, all_take HALL.out HX.out HOK.out, SB.out⟩
          case measure => simp [intOf]; omega
        | false =>
          rw [hok] at AC
          have HA : Hid (areOk L = false) := by unfold areOk; rw [all_not HX.out hok]; exact rfl
          clear hok
          obtain ⟨a, s⟩ := x
          simp only at c0 c1 AC
          have SA := Lib.hid (HSR.out.alloc (.cells #[.int .i64 a, .string s] 32))
          go_wp2_with fail
          refine (AC.out _).mono ?_
          rintro _ wa ⟨rfl, sa⟩
          have SB := Lib.hid (SA.out.trans sa)
          clear sa
          go_wp2_with fail
          go_ret
          exact ⟨by rw [HA.out]; rfl, SB.out⟩
      · have hkn : k = n := by omega
        subst hkn
        have HA : Hid (areOk L = true) := by unfold areOk; rw [HN.out, List.take_length] at hall; rw [hall, HT.out]; exact rfl
        clear hs hall h30'
        go_wp2_with fail
        go_ret
        exact ⟨by rw [HA.out]; rfl, HSR.out⟩

set_option maxRecDepth 100000 in
theorem impl_are (L : List Ch) (b lo hi : Nat) (v : Value) (w : World) (hL : HasC 2 chC b lo hi w v L) (hm : L.length ≤ 1048576) :
    Calls Try.prog 7 #[v] w (BoolIs (areOk L) w) := by
  have HR := Lib.hid (areAll_ch L b lo hi v w hL hm)
  obtain ⟨A, cap, rfl, -, -⟩ := hL
  clear hm
  go_enter Try.func7, Try.ntmps7
  go_wp2_with fail
  refine HR.out.mono ?_
  rintro _ wa ⟨rfl, sa⟩
  have SA := Lib.hid sa
  clear sa
  go_wp2_with fail
  go_ret
  exact ⟨rfl, SA.out⟩

set_option maxRecDepth 100000 in
set_option maxHeartbeats 2000000 in
theorem eqChangeS_any (L : List Ch) (b1 lo1 hi1 b2 lo2 hi2 : Nat) (v1 v2 : Value) (w : World) (h1 : HasC 2 chC b1 lo1 hi1 w v1 L) (h2 : HasC 2 chC b2 lo2 hi2 w v2 L) (hm : L.length ≤ 1048576) :
    Calls Try.prog 8 #[v1, v2] w (BoolIs true w) := by
  have HL1 := Lib.hid h1
  have HL2 := Lib.hid h2
  obtain ⟨A, cap, rfl, -, -⟩ := h1
  obtain ⟨A', cap', rfl, -, -⟩ := h2
  obtain ⟨n, hn⟩ : ∃ n, n = L.length := ⟨_, rfl⟩
  have HN := Lib.hid hn
  rw [← hn] at HL1 HL2 hm ⊢
  have i1 : (n : Int) ≤ 1048576 := by omega
  have i0 : (0 : Int) ≤ (n : Int) := by omega
  clear hn hm
  go_enter Try.func8, Try.ntmps8
  go_wp2_with fail
  go_loopw [5] (fun q wr => ∃ k : Nat, k ≤ n ∧ q = .int .i64 k ∧ Span 0 0 w wr) (fun q _ => n - (intOf q).toNat)
  case atStart => exact ⟨0, Nat.zero_le _, rfl, Span.refl _ _ _⟩
  case round =>
    obtain ⟨k, hk, rfl, hs⟩ := hrel
    have HSR := Lib.hid hs
    by_cases hlt : k < n
    · obtain ⟨x, hx⟩ := getElem?_some (xs := L) (j := k) (by rw [← HN.out]; exact hlt)
      have R1 := HL1.out.keep hs
      have R2 := HL2.out.keep hs
      obtain ⟨off, hoff⟩ := R1.addr (by rw [← HN.out]; omega)
      subst hoff
      obtain ⟨off', hoff'⟩ := R2.addr (by rw [← HN.out]; omega)
      subst hoff'
      obtain ⟨c0, c1⟩ := R1.change hx
      obtain ⟨e0, e1⟩ := R2.change hx
      have j1 : (0 : Int) ≤ (k : Int) := by omega
      have j2 : (k : Int) < (n : Int) := by omega
      have EQ := Lib.hid (eqChange_any x)
      clear R1 R2 hx hs
      obtain ⟨a, s⟩ := x
      simp only at c0 c1 e0 e1 EQ
      go_wp2_with fail
      go_region_with (go_at_call 15; refine (EQ.out _).mono ?_; rintro _ wa ⟨rfl, sa⟩; have SB := Lib.hid (HSR.out.trans sa.undrawn'); clear sa)
      all_goals
        go_wp2_with fail
        go_roundw
        case rel => exact ⟨k + 1, by omega, by go_num, SB.out⟩
        case measure => simp [intOf]; omega
    · have hkn : k = n := by omega
      subst hkn
      clear hs
      go_wp2_with fail
      go_ret
      exact ⟨rfl, HSR.out⟩
end Go.Proofs.Ytihdpljkllpkaaa
