/- Any number that is drawn. -/
import Derived.Test.YtfafkdpefdpnkaaGreatJq15
namespace Go.Proofs.YtfafkdpefdpnkaaGreat
open Go.RowKit

set_option maxHeartbeats 400000 in
theorem l01Int_any (B : Nat) (a : Addr) (b n c : Nat) (lo hi : Int) (w : World) (h : Cur B w a) (hb : b ≠ a.block) (hn : 1 ≤ n) (hn2 : n ≤ 100)
    (hc : ∀ j, j < n → ∃ u : Int, lo ≤ u ∧ u ≤ hi ∧ w.cell? ⟨b, j, none⟩ = some (.int .i64 u)) :
    Calls Tryz.prog 46 #[.pointer (some a), .slice (some ⟨b, 0, none⟩) n c] w fun e w' => (∃ u : Int, e = .returned (.int .i64 u) ∧ lo ≤ u ∧ u ≤ hi ∧ Cur B w' a) ∧ w.grownBy w' (some a.block) := by
  have Hc := Lib.hid hc
  clear hc
  go_enter Tryz.func46, Tryz.ntmps46
  go_wp2_with fail
  refine (l01Below_any B a n w h (by omega) (by omega)).mono ?_
  rintro _ w1 ⟨r, rfl, r0, r1, hcur, hg⟩
  obtain ⟨k, rfl⟩ := Int.eq_ofNat_of_zero_le r0
  have hkn : k < n := by omega
  obtain ⟨u, u0, u1, hu⟩ := Hc.out k hkn
  have hu1 := hg.cell hu (by intro he; injection he with he; exact hb he)
  clear hu r0 r1
  go_wp2_with fail
  go_ret
  exact ⟨⟨u, rfl, u0, u1, hcur⟩, hg⟩

theorem Cur.lt {B : Nat} {w : World} {a : Addr} (h : Cur B w a) : a.block < w.heap.size := by
  obtain ⟨g, A, n, c, i, x, rfl, _, hh, _⟩ := h
  rcases Nat.lt_or_ge g w.heap.size with h1 | h1
  · exact h1
  · rw [Array.getElem?_eq_none h1] at hh; cases hh
theorem Cur.alloc {B : Nat} {w : World} {a : Addr} (h : Cur B w a) (o : Obj) : Cur B (w.alloc o) a := by
  have hlt := h.lt
  obtain ⟨g, A, n, c, i, x, rfl, hg, hh, hi, hn, hby⟩ := h
  refine ⟨g, A, n, c, i, x, rfl, hg, (Below.heap_alloc w o g hlt).trans hh, hi, hn, fun hp => ?_⟩
  obtain ⟨b, off, rfl, hb, hc⟩ := hby hp
  refine ⟨b, off, rfl, hb, fun j hj => ?_⟩
  obtain ⟨u, u0, u1, hu⟩ := hc j hj
  exact ⟨u, u0, u1, (World.cell?_alloc_lt w o ⟨b, off + j, none⟩ (World.block_lt_of_cell? w ⟨b, off + j, none⟩ hu)).trans hu⟩

def MakesCur (w : World) (e : Ending) (w' : World) : Prop := ∃ a, e = .returned (.pointer (some a)) ∧ a.block = w.heap.size ∧ Cur w.heap.size w' a ∧ Below w.heap.size w w'

set_option maxHeartbeats 1000000 in
theorem l01New_any (A : Option Addr) (n c : Nat) (w : World) (hn : n ≤ 1048576) (h : HasBy w.heap.size w A n) :
    Calls Tryz.prog 14 #[.slice A n c] w (MakesCur w) := by
  have Hby := Lib.hid h
  have Hn := Lib.hid hn
  have i0 : (n : Int) ≤ 1048576 := by omega
  clear h hn
  go_enter Tryz.func14, Tryz.ntmps14
  go_wp2
  go_loopw [3, 4] (fun v i wr => ∃ (k : Nat) (x : Int), k ≤ n ∧ i = .int .i64 k ∧ v = .int .i64 x ∧ w = wr) (fun _ i _ => n - (intOf i).toNat)
  case atStart => exact ⟨0, _, Nat.zero_le _, rfl, rfl, rfl⟩
  case round =>
    obtain ⟨k, x, hk, rfl, rfl, rfl⟩ := hrel
    by_cases hlt : k < n
    · by_cases hlt2 : k < 4000
      · obtain ⟨b, off, rfl, hbB, hcell⟩ := Hby.out (by omega)
        obtain ⟨u, u0, u1, hu⟩ := hcell k hlt
        have i1 : decide ((k : Int) < 4000) = true := by rw [decide_eq_true_eq]; omega
        clear hcell hlt2
        go_wp2
        go_roundw
        case rel => exact ⟨k + 1, _, by omega, by go_num, rfl, by first | rfl | trivial⟩
        case measure => simp [intOf]; omega
      · have i1 : decide ((k : Int) < 4000) = false := by rw [decide_eq_false_iff_not]; omega
        clear hlt2
        go_wp2
        go_ret
        refine ⟨⟨w.heap.size, 0, none⟩, rfl, rfl, ⟨w.heap.size, A, n, c, 0, x, rfl, Nat.le_refl _, ?_, Nat.zero_le _, Hn.out, Hby.out.below ((Below.refl _ _).alloc (Nat.le_refl _) _)⟩, (Below.refl _ _).alloc (Nat.le_refl _) _⟩
        show (w.heap.push _)[w.heap.size]? = _
        simp
    · have hk2 : n ≤ k := by omega
      go_wp2
      go_ret
      refine ⟨⟨w.heap.size, 0, none⟩, rfl, rfl, ⟨w.heap.size, A, n, c, 0, x, rfl, Nat.le_refl _, ?_, Nat.zero_le _, Hn.out, Hby.out.below ((Below.refl _ _).alloc (Nat.le_refl _) _)⟩, (Below.refl _ _).alloc (Nat.le_refl _) _⟩
      show (w.heap.push _)[w.heap.size]? = _
      simp

set_option maxHeartbeats 1000000 in
theorem l1Any_any (B : Nat) (a : Addr) (w : World) (h : Cur B w a) : Calls Tryz.prog 37 #[.pointer (some a)] w (DrawnF B a w) := by
  go_enter Tryz.func37, Tryz.ntmps37
  go_wp2_with fail
  refine (l01Once_any B a 8 w h (by omega) (by omega)).mono ?_
  rintro _ w1 ⟨o1, rfl, hc1, hg1⟩
  cases o1 with
  | true =>
    go_wp2_with fail
    refine (l1Odd_any B a w1 hc1).mono ?_
    rintro _ w2 ⟨r, rfl, hr, hc2, hg2⟩
    go_wp2_with fail
    go_ret
    exact ⟨r, rfl, hr, hc2, grown_trans hg1 hg2⟩
  | false =>
    go_wp2_with fail
    refine (l01Once_any B a 6 w1 hc1 (by omega) (by omega)).mono ?_
    rintro _ w2 ⟨o2, rfl, hc2, hg2⟩
    have hg12 := grown_trans hg1 hg2
    cases o2 with
    | false =>
      go_wp2_with fail
      refine (l1Some_any B a w2 hc2).mono ?_
      rintro _ w3 ⟨r, rfl, hr, hc3, hg3⟩
      go_wp2_with fail
      go_ret
      exact ⟨r, rfl, hr, hc3, grown_trans hg12 hg3⟩
    | true =>
      go_wp2_with fail
      refine (l01Below_any B a 40 w2 hc2 (by omega) (by omega)).mono ?_
      rintro _ w3 ⟨q, rfl, q0, q1, hc3, hg3⟩
      have hg123 := grown_trans hg12 hg3
      go_wp2_with fail
      have hlt := Cur.lt hc3
      refine (l01Int_any B a w3.heap.size 5 5 (-8388608) 2139095019 _ ?_ (by omega) (by omega) (by omega) ?_).mono ?_
      · exact hc3.alloc _
      · intro j hj
        have hj5 : j = 0 ∨ j = 1 ∨ j = 2 ∨ j = 3 ∨ j = 4 := by omega
        rcases hj5 with rfl | rfl | rfl | rfl | rfl
        · exact ⟨0, by omega, by omega, by rw [World.cell?_alloc_new]; rfl⟩
        · exact ⟨8388608, by omega, by omega, by rw [World.cell?_alloc_new]; rfl⟩
        · exact ⟨-8388608, by omega, by omega, by rw [World.cell?_alloc_new]; rfl⟩
        · exact ⟨1065353216, by omega, by omega, by rw [World.cell?_alloc_new]; rfl⟩
        · exact ⟨2139095019, by omega, by omega, by rw [World.cell?_alloc_new]; rfl⟩
      rintro _ w4 ⟨⟨u, rfl, u0, u1, hc4⟩, hg4⟩
      have hg1234 : w.grownBy w4 (some a.block) := grown_trans (grown_alloc_other hg123 _) hg4
      go_wp2_with fail
      refine (spec_fromSteps (q - 20 + u) _).mono ?_
      rintro _ _ ⟨m, rfl, rfl⟩
      by_cases hin : -2139095039 ≤ q - 20 + u ∧ q - 20 + u ≤ 2139095039
      · have hlt := fromB_lt hin
        rw [if_pos hin]
        generalize fromB (q - 20 + u) = r at *
        go_wp2_with fail
        go_ret
        exact ⟨r, rfl, hlt, Cur.drewN hc4 _, grown_drewN hg1234 _⟩
      · rw [if_neg hin]
        go_wp2_with fail
        go_ret
        exact ⟨0, rfl, by decide, Cur.drewN hc4 _, grown_drewN hg1234 _⟩

/-- A number of single precision comes back; old memory is as it was. -/
def MakesFloat (w : World) (e : Ending) (w' : World) : Prop := ∃ r, e = .returned (.float .f32 r) ∧ r < 4294967296 ∧ Below w.heap.size w w'
end Go.Proofs.YtfafkdpefdpnkaaGreat
