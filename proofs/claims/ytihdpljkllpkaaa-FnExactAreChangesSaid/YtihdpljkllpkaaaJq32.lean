/- Lists of changes: copied, asked, compared. -/
import Derived.Test.YtihdpljkllpkaaaJq31
import Derived.Test.YtihdpljkllpkaaaJq17
import Derived.Outline
namespace Go.Proofs.Ytihdpljkllpkaaa
open Go.RowKit

/-- A list of its own. -/
def GivesCh (L : List Ch) (w : World) (e : Ending) (w' : World) : Prop :=
  ∃ b, e = .returned (.slice (some ⟨b, 0, none⟩) L.length L.length) ∧ w.heap.size ≤ b ∧ HasC 2 chC b b w'.heap.size w' (.slice (some ⟨b, 0, none⟩) L.length L.length) L ∧ Span 0 0 w w'

set_option maxRecDepth 100000 in
set_option maxHeartbeats 2000000 in
theorem toChangeS_any (L : List Ch) (b0 lo hi : Nat) (v : Value) (w : World) (hL : HasC 2 chC b0 lo hi w v L) (hm : L.length ≤ 1048576) :
    Calls Try.prog 6 #[v] w (GivesCh L w) := by
  have HL := Lib.hid hL
  obtain ⟨A, cap, rfl, -, -⟩ := hL
  obtain ⟨n, hn⟩ : ∃ n, n = L.length := ⟨_, rfl⟩
  have HN := Lib.hid hn
  rw [← hn] at HL hm ⊢
  have i1 : (n : Int) ≤ 1048576 := by omega
  have i0 : (0 : Int) ≤ (n : Int) := by omega
  have hmk := run_make_chs w n hm
  clear hn hm
  go_enter Try.func6, Try.ntmps6
  go_wp2_with fail
  clear hmk
  have MK := Lib.hid (MadeCh.new w n)
  have S2 := Lib.hid ((Span.refl 0 0 w).alloc (.cells (madeCells zCh (n * 2)) 32))
  generalize w.alloc (.cells (madeCells zCh (n * 2)) 32) = w2 at *
  obtain ⟨b, hb⟩ : ∃ t, t = w.heap.size := ⟨_, rfl⟩
  rw [← hb] at MK ⊢
  have HB := Lib.hid hb
  clear hb
  go_loopw [4] (fun q wr => ∃ (k : Nat) (Ns : List Ch), k ≤ n ∧ q = .int .i64 k ∧ Ns.length = k ∧ Ns = L.take k ∧ MadeCh b n wr Ns ∧ Span 0 0 w wr) (fun q _ => n - (intOf q).toNat)
  case atStart => exact ⟨0, [], Nat.zero_le _, rfl, rfl, by simp, MK.out, S2.out⟩
  case round =>
    clear MK S2
    obtain ⟨k, Ns, hk, rfl, hNs, hNt, hmk, hs⟩ := hrel
    by_cases hlt : k < n
    · obtain ⟨x, hx⟩ := getElem?_some (xs := L) (j := k) (by rw [← HN.out]; exact hlt)
      have TC := Lib.hid (toChange_any x wr)
      have R := HL.out.keep hs
      obtain ⟨off, hoff⟩ := R.addr (by rw [← HN.out]; omega)
      subst hoff
      obtain ⟨c0, c1⟩ := R.change hx
      have HX := Lib.hid hx
      have HMK := Lib.hid hmk
      have HSR := Lib.hid hs
      have HNS := Lib.hid hNs
      have HNT := Lib.hid hNt
      have j1 : (0 : Int) ≤ (k : Int) := by omega
      have j2 : (k : Int) < (n : Int) := by omega
      clear R hx hmk hs hNs hNt
      obtain ⟨a, s⟩ := x
      simp only at c0 c1 TC
      go_wp2_with fail
      refine TC.out.mono ?_
      rintro _ wa ⟨rfl, sa⟩
      have SA := Lib.hid sa
      have MA := HMK.out.span sa (.inl (Nat.le_refl _))
      obtain ⟨v0, d0⟩ := MA.2.1 (k * 2) (by omega)
      obtain ⟨v1, d1⟩ := MA.2.1 (k * 2 + 1) (by omega)
      have fz := MA.2.2.1
      have HMA := Lib.hid MA
      clear MA sa c0 c1
      go_wp2_with fail
      go_roundw
      case rel =>
        have z3 := HB.out
        have SQ := ch_cellsSet (lo := b) (hi := b + 1) (b := b) (a := wa) ⟨Nat.le_refl _, Nat.lt_succ_self _⟩ (chC (a, s)) (k * 2) wa (Span.refl _ _ _)
        have SWA := HSR.out.trans SA.out
        have SW : Span 0 0 w (wa.setCells b (k * 2) (chC (a, s))) := ⟨SQ.os.trans SWA.os, SQ.tape.trans SWA.tape, SQ.output.trans SWA.output, Nat.le_trans SWA.size SQ.size, fun j hj _ => (SQ.block j (Nat.lt_of_lt_of_le hj SWA.size) (by omega)).trans (SWA.block j hj (by omega))⟩
        have MP := HMA.out.put (a, s) (by rw [HNS.out]; exact hlt)
        rw [HNS.out] at MP
        exact ⟨k + 1, Ns ++ [(a, s)], by omega, by go_num, by rw [List.length_append, HNS.out]; rfl, by rw [HNT.out, List.take_add_one, HX.out]; rfl, MP, SW⟩
      case measure => simp [intOf]; omega
    · have hkn : k = n := by omega
      subst hkn
      have HMK := Lib.hid hmk
      have HSR := Lib.hid hs
      have HNS := Lib.hid hNs
      have HNT := Lib.hid hNt
      clear hmk hs hNs hNt
      go_wp2_with fail
      go_ret
      have z3 := HB.out
      have hc := HMK.out.hasC HNS.out
      have hN : Ns = L := by rw [HNT.out, HN.out, List.take_length]
      rw [hN] at hc
      exact ⟨b, by rw [← HN.out]; rfl, by omega, by rw [← HN.out]; exact hc.weak (Nat.le_refl _) (.inr (Nat.le_refl _)), HSR.out⟩

def atOk (x : Ch) : Bool := decide (0 ≤ x.1 ∧ x.1 ≤ 500)
def areOk (L : List Ch) : Bool := L.all atOk && decide (L.length ≤ 30)
theorem all_not {α : Type} {p : α → Bool} {L : List α} {j : Nat} {x : α} (h : L[j]? = some x) (hp : p x = false) : L.all p = false := by
  rw [List.all_eq_false]
  exact ⟨x, List.mem_of_getElem? h, by rw [hp]; decide⟩
theorem all_take {α : Type} {p : α → Bool} {L : List α} {k : Nat} {x : α} (h : (L.take k).all p = true) (hk : L[k]? = some x) (hp : p x = true) : (L.take (k + 1)).all p = true := by
  rw [List.take_add_one, hk, List.all_append, h]
  simp [hp]

set_option maxRecDepth 100000 in
theorem isRunLength_any (x : Int) (w : World) : Calls Try.prog 14 #[.int .i64 x] w (BoolIs (decide (0 ≤ x ∧ x ≤ 500)) w) := by
  by_cases h1 : 0 ≤ x
  · by_cases h2 : x ≤ 500
    · rw [decide_eq_true (show 0 ≤ x ∧ x ≤ 500 from ⟨h1, h2⟩)]
      go_enter Try.func14, Try.ntmps14
      go_wp2_with fail
      go_ret
      exact ⟨rfl, Span.refl _ _ _⟩
    · rw [decide_eq_false (show ¬ (0 ≤ x ∧ x ≤ 500) from fun h => h2 h.2)]
      go_enter Try.func14, Try.ntmps14
      go_wp2_with fail
      go_ret
      exact ⟨rfl, Span.refl _ _ _⟩
  · rw [decide_eq_false (show ¬ (0 ≤ x ∧ x ≤ 500) from fun h => h1 h.1)]
    go_enter Try.func14, Try.ntmps14
    go_wp2_with fail
    go_ret
    exact ⟨rfl, Span.refl _ _ _⟩

set_option maxRecDepth 100000 in
theorem at_closure (x : Ch) (w : World) : Calls Try.prog 13 #[.agg #[.int .i64 x.1, .string x.2]] w (BoolIs (atOk x) w) := by
  obtain ⟨a, s⟩ := x
  obtain ⟨q, hq⟩ : ∃ q, q = atOk (a, s) := ⟨_, rfl⟩
  have HR : Hid (∀ w, Calls Try.prog 14 #[.int .i64 a] w (BoolIs q w)) := by rw [hq]; exact isRunLength_any a
  rw [← hq]
  clear hq
  simp only
  go_enter Try.func13, Try.ntmps13
  go_wp2_with fail
  refine (HR.out _).mono ?_
  rintro _ wa ⟨rfl, sa⟩
  have SA := Lib.hid (((Span.refl 0 0 w).alloc (.cells #[.int .i64 a, .string s] 32)).trans sa)
  clear sa
  go_wp2_with fail
  go_ret
  exact ⟨rfl, SA.out⟩
end Go.Proofs.Ytihdpljkllpkaaa
