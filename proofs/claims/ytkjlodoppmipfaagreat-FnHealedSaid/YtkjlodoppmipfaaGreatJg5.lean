/- The cursor over the bytes of a draw. -/
import Derived.Test.YtkjlodoppmipfaaGreatJg2
import Derived.BigRegion
namespace Go.Proofs.YtkjlodoppmipfaaGreat
open Go.RowKit

/-- A slice of bytes below block B; nil is let in. -/
def HasBy (B : Nat) (w : World) (A : Option Addr) (n : Nat) : Prop :=
  0 < n → ∃ b off, A = some ⟨b, off, none⟩ ∧ b < B ∧ ∀ j, j < n → ∃ u : Int, 0 ≤ u ∧ u ≤ 255 ∧ w.cell? ⟨b, off + j, none⟩ = some (.int .u8 u)

/-- The cursor at a: its block is the call's own, from B on. -/
def Cur (B : Nat) (w : World) (a : Addr) : Prop :=
  ∃ (g : Nat) (A : Option Addr) (n c i : Nat) (h : Int), a = ⟨g, 0, none⟩ ∧ B ≤ g ∧ w.heap[g]? = some (.cells #[.slice A n c, .int .i64 i, .int .i64 h] 101 (0, 0)) ∧ i ≤ n ∧ n ≤ 1048576 ∧ HasBy B w A n

theorem HasBy.below {B : Nat} {w w' : World} {A : Option Addr} {n : Nat} (h : HasBy B w A n) (hb : Below B w w') : HasBy B w' A n := fun hn => by
  obtain ⟨b, off, rfl, hlt, hc⟩ := h hn
  refine ⟨b, off, rfl, hlt, fun j hj => ?_⟩
  obtain ⟨u, h0, h1, h2⟩ := hc j hj
  exact ⟨u, h0, h1, (hb.cell (p := ⟨b, off + j, none⟩) hlt).trans h2⟩

theorem HasBy.grown {B : Nat} {w w' : World} {A : Option Addr} {n g : Nat} (h : HasBy B w A n) (hb : w.grownBy w' (some g)) (hg : B ≤ g) : HasBy B w' A n := fun hn => by
  obtain ⟨b, off, rfl, hlt, hc⟩ := h hn
  refine ⟨b, off, rfl, hlt, fun j hj => ?_⟩
  obtain ⟨u, h0, h1, h2⟩ := hc j hj
  exact ⟨u, h0, h1, hb.cell h2 (by intro he; injection he with he; simp only at he; omega)⟩

theorem grown_trans {a b c : World} {row : Option Nat} (h : a.grownBy b row) (k : b.grownBy c row) : a.grownBy c row :=
  ⟨k.os.trans h.os, k.tape.trans h.tape, k.output.trans h.output, Nat.le_trans h.size k.size, fun i hi hne => (k.block i (Nat.lt_of_lt_of_le hi h.size) hne).trans (h.block i hi hne)⟩
theorem grown_drew {a b : World} {row : Option Nat} (h : a.grownBy b row) : a.grownBy b.drew row := ⟨h.os, h.tape, h.output, h.size, h.block⟩
theorem grown_drewN {a b : World} {row : Option Nat} (h : a.grownBy b row) (n : Nat) : a.grownBy (b.drewN n) row := ⟨h.os, h.tape, h.output, h.size, h.block⟩
theorem grown_setCell (w : World) (g o : Nat) (v : Value) : w.grownBy (w.setCell ⟨g, o, none⟩ v) (some g) :=
  ⟨rfl, rfl, rfl, by simp [World.setCell], fun k _ hne => Below.heap_setCell w ⟨g, o, none⟩ v k (fun e => hne (by rw [e]))⟩
theorem grown_alloc_other {a b : World} {row : Option Nat} (h : a.grownBy b row) (o : Obj) : a.grownBy (b.alloc o) row := grown_trans h (World.grownBy_alloc b o row)

theorem and255 (x : Int) : 0 ≤ bits .and .i64 x 255 ∧ bits .and .i64 x 255 ≤ 255 := by
  unfold bits
  have hb : IntKind.i64.bits = 64 := rfl
  rw [hb]
  simp only []
  have h1 : (BitVec.ofInt 64 x &&& BitVec.ofInt 64 255).toNat ≤ 255 := by
    rw [BitVec.toNat_and]
    have : (BitVec.ofInt 64 255).toNat = 255 := by decide +kernel
    rw [this]
    exact Nat.and_le_right
  generalize (BitVec.ofInt 64 x &&& BitVec.ofInt 64 255).toNat = m at *
  rw [IntKind.wrap_i64]
  omega

/-- A number below n comes back, the cursor has moved. -/
def Drawn (B : Nat) (a : Addr) (w : World) (m : Int) (e : Ending) (w' : World) : Prop :=
  ∃ r : Int, e = .returned (.int .i64 r) ∧ 0 ≤ r ∧ r < m ∧ Cur B w' a ∧ w.grownBy w' (some a.block)

set_option maxHeartbeats 1000000 in
theorem l01Byte_any (B : Nat) (a : Addr) (w : World) (h : Cur B w a) : Calls Tryz.prog 62 #[.pointer (some a)] w (Drawn B a w 256) := by
  obtain ⟨g, A, n, c, i, x, rfl, hg, hh, hi, hn, hby⟩ := h
  have c0 : w.cell? ⟨g, 0, none⟩ = some (.slice A n c) := by simp [World.cell?, hh]
  have c1 : w.cell? ⟨g, 1, none⟩ = some (.int .i64 i) := by simp [World.cell?, hh]
  have c2 : w.cell? ⟨g, 2, none⟩ = some (.int .i64 x) := by simp [World.cell?, hh]
  have f1 : w.frozen? ⟨g, 1, none⟩ = false := by simp [World.frozen?, hh]
  have f2 : w.frozen? ⟨g, 2, none⟩ = false := by simp [World.frozen?, hh]
  have Hh := Lib.hid hh
  clear hh
  by_cases hlt : i < n
  · obtain ⟨b, off, rfl, hbB, hcell⟩ := hby (by omega)
    obtain ⟨u, u0, u1, hu⟩ := hcell i hlt
    have Hby := Lib.hid hby
    clear hby hcell
    go_enter Tryz.func62, Tryz.ntmps62
    go_wp2_with fail
    generalize wrap64 (wrap64 (x * 6364136223846793005) + 1442695040888963407) = y
    have d0 : (w.setCell ⟨g, 2, none⟩ (.int .i64 y)).cell? ⟨g, 0, none⟩ = some (.slice (some ⟨b, off, none⟩) n c) := (World.cell?_setCell_other w ⟨g, 2, none⟩ ⟨g, 0, none⟩ _ (by simp)).trans c0
    have d1 : (w.setCell ⟨g, 2, none⟩ (.int .i64 y)).cell? ⟨g, 1, none⟩ = some (.int .i64 i) := (World.cell?_setCell_other w ⟨g, 2, none⟩ ⟨g, 1, none⟩ _ (by simp)).trans c1
    have d2 : (w.setCell ⟨g, 2, none⟩ (.int .i64 y)).cell? ⟨g, 2, none⟩ = some (.int .i64 y) := World.cell?_setCell_same w ⟨g, 2, none⟩ _ c2
    have du : (w.setCell ⟨g, 2, none⟩ (.int .i64 y)).cell? ⟨b, off + i, none⟩ = some (.int .u8 u) := (World.cell?_setCell_other w ⟨g, 2, none⟩ ⟨b, off + i, none⟩ _ (by intro hh; injection hh with h1; omega)).trans hu
    have e1 : (w.setCell ⟨g, 2, none⟩ (.int .i64 y)).frozen? ⟨g, 1, none⟩ = false := by rw [World.frozen?_setCell]; exact f1
    have Hw1 : Hid ((w.setCell ⟨g, 2, none⟩ (.int .i64 y)).heap[g]? = some (.cells #[.slice (some ⟨b, off, none⟩) n c, .int .i64 i, .int .i64 y] 101 (0, 0)) ∧ w.grownBy (w.setCell ⟨g, 2, none⟩ (.int .i64 y)) (some g)) := by
      refine ⟨?_, grown_setCell w g 2 _⟩
      simp [World.setCell, Array.getElem?_modify, Hh.out]
    generalize w.setCell ⟨g, 2, none⟩ (.int .i64 y) = w1 at *
    clear c0 c1 c2 f1 f2 hu
    go_region
    go_wp2_with fail
    obtain ⟨b0, b1⟩ := and255 (bits .xor .i64 (y / 8589934592) (y / 35184372088832))
    generalize bits .and .i64 (bits .xor .i64 (y / 8589934592) (y / 35184372088832)) 255 = v at *
    go_region
    go_wp2_with fail
    go_region
    go_wp2_with fail
    go_ret
    obtain ⟨hw1, hb1⟩ := Hw1.out
    have hv := and255 (v + u)
    have hbl : w.grownBy ((w1.drew.drew.drew).setCell ⟨g, 1, none⟩ (.int .i64 ((i : Int) + 1))) (some g) := grown_trans (grown_drew (grown_drew (grown_drew hb1))) (grown_setCell _ g 1 _)
    refine ⟨_, rfl, hv.1, by have := hv.2; omega, ⟨g, some ⟨b, off, none⟩, n, c, i + 1, y, rfl, hg, ?_, by omega, hn, Hby.out.grown hbl hg⟩, hbl⟩
    simp [World.setCell, Array.getElem?_modify, World.drew, hw1]
  · have hin : n = i := by omega
    subst hin
    go_enter Tryz.func62, Tryz.ntmps62
    go_wp2_with fail
    generalize wrap64 (wrap64 (x * 6364136223846793005) + 1442695040888963407) = y
    have d0 : (w.setCell ⟨g, 2, none⟩ (.int .i64 y)).cell? ⟨g, 0, none⟩ = some (.slice A n c) := (World.cell?_setCell_other w ⟨g, 2, none⟩ ⟨g, 0, none⟩ _ (by simp)).trans c0
    have d1 : (w.setCell ⟨g, 2, none⟩ (.int .i64 y)).cell? ⟨g, 1, none⟩ = some (.int .i64 n) := (World.cell?_setCell_other w ⟨g, 2, none⟩ ⟨g, 1, none⟩ _ (by simp)).trans c1
    have d2 : (w.setCell ⟨g, 2, none⟩ (.int .i64 y)).cell? ⟨g, 2, none⟩ = some (.int .i64 y) := World.cell?_setCell_same w ⟨g, 2, none⟩ _ c2
    have e1 : (w.setCell ⟨g, 2, none⟩ (.int .i64 y)).frozen? ⟨g, 1, none⟩ = false := by rw [World.frozen?_setCell]; exact f1
    have Hw1 : Hid ((w.setCell ⟨g, 2, none⟩ (.int .i64 y)).heap[g]? = some (.cells #[.slice A n c, .int .i64 n, .int .i64 y] 101 (0, 0)) ∧ w.grownBy (w.setCell ⟨g, 2, none⟩ (.int .i64 y)) (some g)) := by
      refine ⟨?_, grown_setCell w g 2 _⟩
      simp [World.setCell, Array.getElem?_modify, Hh.out]
    generalize w.setCell ⟨g, 2, none⟩ (.int .i64 y) = w1 at *
    clear c0 c1 c2 f1 f2
    go_region
    go_wp2_with fail
    obtain ⟨b0, b1⟩ := and255 (bits .xor .i64 (y / 8589934592) (y / 35184372088832))
    generalize bits .and .i64 (bits .xor .i64 (y / 8589934592) (y / 35184372088832)) 255 = v at *
    go_region
    go_wp2_with fail
    go_ret
    obtain ⟨hw1, hb1⟩ := Hw1.out
    exact ⟨v, rfl, b0, by omega, ⟨g, A, n, c, n, y, rfl, hg, hw1, Nat.le_refl _, hn, hby.grown (grown_drew (grown_drew hb1)) hg⟩, grown_drew (grown_drew hb1)⟩

set_option maxHeartbeats 1000000 in
theorem l01Below_any (B : Nat) (a : Addr) (m : Int) (w : World) (h : Cur B w a) (h1 : 1 ≤ m) (h2 : m ≤ 9223372036854775807) :
    Calls Tryz.prog 49 #[.pointer (some a), .int .i64 m] w (Drawn B a w m) := by
  by_cases hm : m ≤ 256
  · go_enter Tryz.func49, Tryz.ntmps49
    go_wp2_with fail
    refine (l01Byte_any B a w h).mono ?_
    rintro _ w1 ⟨r, rfl, r0, r1, hc, hb⟩
    have hmne : (m == 0) = false := by rw [beq_eq_false_iff_ne]; omega
    go_wp2_with fail
    go_ret
    exact ⟨r % m, by rfl, Int.emod_nonneg _ (by omega), Int.emod_lt_of_pos _ (by omega), hc, hb⟩
  · go_enter Tryz.func49, Tryz.ntmps49
    go_wp2_with fail
    refine (l01Byte_any B a w h).mono ?_
    rintro _ w1 ⟨r, rfl, r0, r1, hc, hb⟩
    go_wp2_with fail
    refine (l01Byte_any B a w1 hc).mono ?_
    rintro _ w2 ⟨s, rfl, s0, s1, hc2, hb2⟩
    go_wp2_with fail
    refine (l01Byte_any B a w2 hc2).mono ?_
    rintro _ w3 ⟨t, rfl, t0, t1, hc3, hb3⟩
    go_wp2_with fail
    refine (l01Byte_any B a w3 hc3).mono ?_
    rintro _ w4 ⟨u, rfl, u0, u1, hc4, hb4⟩
    have hmne : (m == 0) = false := by rw [beq_eq_false_iff_ne]; omega
    go_wp2_with fail
    go_ret
    exact ⟨(r * 16777216 + s * 65536 + t * 256 + u) % m, by rfl, Int.emod_nonneg _ (by omega), Int.emod_lt_of_pos _ (by omega), hc4, grown_trans (grown_trans (grown_trans hb hb2) hb3) hb4⟩
end Go.Proofs.YtkjlodoppmipfaaGreat
