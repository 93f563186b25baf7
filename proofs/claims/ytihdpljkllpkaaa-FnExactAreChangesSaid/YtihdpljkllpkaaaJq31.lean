/- Lists of changes: counted, copied, compared. -/
import Derived.Test.YtihdpljkllpkaaaJq30
import Derived.Test.YtihdpljkllpkaaaJq5
import Derived.Outline
namespace Go.Proofs.Ytihdpljkllpkaaa
open Go.RowKit

/-- A number comes back, and nothing old is turned. -/
def NumTo (lo hi : Int) (w : World) (e : Ending) (w' : World) : Prop := ∃ r : Int, e = .returned (.int .i64 r) ∧ lo ≤ r ∧ r ≤ hi ∧ Span 0 0 w w'
def BoolIs (b : Bool) (w : World) (e : Ending) (w' : World) : Prop := e = .returned (.bool b) ∧ Span 0 0 w w'
def ChIs (x : Ch) (w : World) (e : Ending) (w' : World) : Prop := e = .returned (.agg #[.int .i64 x.1, .string x.2]) ∧ Span 0 0 w w'

set_option maxRecDepth 100000 in
set_option maxHeartbeats 1000000 in
theorem szChange_any (x : Ch) (l : Int) (h0 : 0 ≤ l) (h1 : l ≤ 1048576) (hx : OkCh x) (w : World) :
    Calls Try.prog 9 #[.agg #[.int .i64 x.1, .string x.2], .int .i64 l] w (NumTo (-1) 1048576 w) := by
  obtain ⟨a, s⟩ := x
  have hs : (s.size : Int) ≤ 9223372036854775807 := by have := hx.2.2; unfold maxLen at this; simp only at this; omega
  have hs0 : (0 : Int) ≤ (s.size : Int) := by omega
  clear hx
  simp only
  by_cases hc : l - (s.size : Int) < 0
  · go_enter Try.func9, Try.ntmps9
    go_wp2_with fail
    go_ret
    exact ⟨_, rfl, by omega, by omega, (Span.refl 0 0 w).alloc _⟩
  · go_enter Try.func9, Try.ntmps9
    go_wp2_with fail
    go_ret
    exact ⟨_, rfl, by omega, by omega, (Span.refl 0 0 w).alloc _⟩

set_option maxRecDepth 100000 in
set_option maxHeartbeats 1000000 in
theorem szChangeS_any (L : List Ch) (b : Nat) (v : Value) (w : World) (hL : HasC 2 chC b 0 w.heap.size w v L) (hok : ∀ x ∈ L, OkCh x) (hm : L.length ≤ maxLen) :
    Calls Try.prog 4 #[v, .int .i64 1048576] w (fun e w' => ∃ r : Int, e = .returned (.int .i64 r) ∧ (0 ≤ r → L.length ≤ 1048576) ∧ r ≤ 1048576 ∧ -1 ≤ r ∧ Span 0 0 w w') := by
  have HL := Lib.hid hL
  have HOK := Lib.hid hok
  obtain ⟨A, cap, rfl, -, -⟩ := hL
  obtain ⟨n, hn⟩ : ∃ n, n = L.length := ⟨_, rfl⟩
  have HN := Lib.hid hn
  have i1 : (n : Int) ≤ 9223372036854775807 := by unfold maxLen at hm; omega
  have i0 : (0 : Int) ≤ (n : Int) := by omega
  clear hok hm
  rw [← hn] at HL ⊢
  clear hn
  go_enter Try.func4, Try.ntmps4
  by_cases hc : 1048576 - (n : Int) < 0
  · go_wp2_with fail
    go_ret
    exact ⟨_, rfl, fun h => absurd h (by decide), by decide, by decide, Span.refl _ _ _⟩
  · have hc' : 0 ≤ 1048576 - (n : Int) := by omega
    go_wp2_with fail
    clear hc
    go_loopw [1, 5] (fun l q wr => ∃ (k : Nat) (z : Int), k ≤ n ∧ q = .int .i64 k ∧ l = .int .i64 z ∧ 0 ≤ z ∧ z ≤ 1048576 ∧ Span 0 0 w wr) (fun _ q _ => n - (intOf q).toNat)
    case atStart => exact ⟨0, _, Nat.zero_le _, rfl, rfl, hc', by omega, Span.refl _ _ _⟩
    case round =>
      obtain ⟨k, z, hk, rfl, rfl, z0, z1, hs⟩ := hrel
      by_cases hlt : k < n
      · obtain ⟨x, hx⟩ := getElem?_some (xs := L) (j := k) (by rw [← HN.out]; exact hlt)
        have R := HL.out.keep hs
        obtain ⟨off, hoff⟩ := R.addr (by rw [← HN.out]; omega)
        subst hoff
        obtain ⟨c0, c1⟩ := R.change hx
        have SZ := Lib.hid (szChange_any x z z0 z1 (HOK.out x (List.mem_of_getElem? hx)) wr)
        have HSR := Lib.hid hs
        have j1 : (0 : Int) ≤ (k : Int) := by omega
        have j2 : (k : Int) < (n : Int) := by omega
        clear R hx hs
        obtain ⟨a, s⟩ := x
        simp only at c0 c1 SZ
        go_wp2_with fail
        refine SZ.out.mono ?_
        rintro _ wa ⟨r, rfl, r0, r1, sa⟩
        have SA := Lib.hid (HSR.out.trans sa)
        clear sa c0 c1
        by_cases hr : r < 0
        · go_wp2_with fail
          go_ret
          exact ⟨_, rfl, fun h => absurd h (by decide), by decide, by decide, SA.out⟩
        · go_wp2_with fail
          go_roundw
          case rel => exact ⟨k + 1, r, by omega, by go_num, rfl, by omega, r1, SA.out⟩
          case measure => simp [intOf]; omega
      · have hkn : k = n := by omega
        subst hkn
        go_wp2_with fail
        go_ret
        exact ⟨_, rfl, fun _ => by have := HN.out; omega, z1, by omega, hs⟩

set_option maxRecDepth 100000 in
set_option maxHeartbeats 1000000 in
theorem toChange_any (x : Ch) (w : World) : Calls Try.prog 11 #[.agg #[.int .i64 x.1, .string x.2]] w (ChIs x w) := by
  obtain ⟨a, s⟩ := x
  simp only
  go_enter Try.func11, Try.ntmps11
  go_wp2_with fail
  refine bodyPost_ret (v := .agg #[.int .i64 a, .string s]) (by simp [results, Try.results11, go_sem]) rfl ⟨rfl, ?_⟩
  exact (((Span.refl 0 0 w).alloc _).alloc _).alloc _

set_option maxRecDepth 100000 in
set_option maxHeartbeats 1000000 in
theorem eqChange_any (x : Ch) (w : World) : Calls Try.prog 15 #[.agg #[.int .i64 x.1, .string x.2], .agg #[.int .i64 x.1, .string x.2]] w (BoolIs true w) := by
  obtain ⟨a, s⟩ := x
  simp only
  go_enter Try.func15, Try.ntmps15
  go_wp2_with fail
  go_ret
  exact ⟨rfl, ((Span.refl 0 0 w).alloc _).alloc _⟩
end Go.Proofs.Ytihdpljkllpkaaa
