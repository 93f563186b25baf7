/- The cursor over the bytes of a draw. -/
import Derived.Test.YtghekafjccfjcaaJq3
import Derived.ProofKit
import Derived.BigRegion
namespace Go.Proofs.Ytghekafjccfjcaa
section
open Go.RowKit

/-- The law answers true; what was there is as it was. -/
def Says (w : World) (e : Ending) (w' : World) : Prop := e = .returned (.bool true) ∧ Below w.heap.size w w'

theorem Below.drewN {B : Nat} {a w : World} (h : Below B a w) (n : Nat) : Below B a (w.drewN n) := ⟨h.os, h.tape, h.output, h.size, h.block⟩

theorem i64_both {n : Int} (h : (Lit.int .i64 n).wf = true) : -9223372036854775808 ≤ n ∧ n ≤ 9223372036854775807 := by
  have e1 : IntKind.i64.min = -9223372036854775808 := by decide +kernel
  have e2 : IntKind.i64.max = 9223372036854775807 := by decide +kernel
  simp only [Lit.wf, e1, e2, Bool.and_eq_true, decide_eq_true_eq] at h
  exact h
theorem i64_low {n : Int} (h : (Lit.int .i64 n).wf = true) : -9223372036854775808 ≤ n := (i64_both h).1
theorem i64_high {n : Int} (h : (Lit.int .i64 n).wf = true) : n ≤ 9223372036854775807 := (i64_both h).2
end
section
open Go.RowKit

theorem HasF.drewN {w : World} {v : Value} {xs : List Nat} (h : HasF w v xs) (n : Nat) : HasF (w.drewN n) v xs := h
theorem HasF.below {w w' : World} {v : Value} {xs : List Nat} {B : Nat} (h : HasF w v xs) (hb : Below B w w') (hB : w.heap.size ≤ B) : HasF w' v xs := by
  obtain ⟨A, cap, rfl, hcap, hc⟩ := h
  refine ⟨A, cap, rfl, hcap, fun hp => ?_⟩
  obtain ⟨b, off, rfl, hcell⟩ := hc hp
  refine ⟨b, off, rfl, fun j hj => ?_⟩
  have h0 := hcell j hj
  have hlt := World.block_lt_of_cell? w ⟨b, off + j, none⟩ h0
  rw [← h0]
  exact hb.cell (p := ⟨b, off + j, none⟩) (by simp only at hlt ⊢; omega)

/-- A block of n cells of this type, none frozen, whose first k are f's. -/
def Filled (w : World) (g : Nat) (e : TypeId) (n k : Nat) (f : Nat → Value) : Prop :=
  ∃ cs : Array Value, w.heap[g]? = some (.cells cs e (0, 0)) ∧ cs.size = n ∧ ∀ j, j < k → cs[j]? = some (f j)

theorem Filled.cell {w : World} {g : Nat} {e : TypeId} {n k : Nat} {f : Nat → Value} (h : Filled w g e n k f) {j : Nat} (hj : j < n) : ∃ u, w.cell? ⟨g, j, none⟩ = some u := by
  obtain ⟨cs, hh, hs, _⟩ := h
  refine ⟨cs[j]'(by omega), ?_⟩
  unfold World.cell?
  simp only [hh]
  simp [Array.getElem?_eq_getElem (show j < cs.size by omega)]
theorem Filled.at_ {w : World} {g : Nat} {e : TypeId} {n k : Nat} {f : Nat → Value} (h : Filled w g e n k f) {j : Nat} (hj : j < k) : w.cell? ⟨g, j, none⟩ = some (f j) := by
  obtain ⟨cs, hh, hs, hf⟩ := h
  unfold World.cell?
  simp only [hh]
  simp [hf j hj]
theorem Filled.frozen {w : World} {g : Nat} {e : TypeId} {n k : Nat} {f : Nat → Value} (h : Filled w g e n k f) (j : Nat) : w.frozen? ⟨g, j, none⟩ = false := by
  obtain ⟨cs, hh, _, _⟩ := h
  simp [World.frozen?, hh]
theorem Filled.step {w : World} {g : Nat} {e : TypeId} {n k : Nat} {f : Nat → Value} (h : Filled w g e n k f) (hk : k < n) : Filled (w.setCell ⟨g, k, none⟩ (f k)) g e n (k + 1) f := by
  obtain ⟨cs, hh, hs, hf⟩ := h
  refine ⟨cs.setIfInBounds k (f k), ?_, by simp [hs], fun j hj => ?_⟩
  · simp [World.setCell, Array.getElem?_modify, hh]
  · by_cases hjk : j = k
    · subst hjk; rw [Array.getElem?_setIfInBounds_self_of_lt (by omega)]
    · rw [Array.getElem?_setIfInBounds_ne (by omega)]; exact hf j (by omega)
theorem Filled.drewN {w : World} {g : Nat} {e : TypeId} {n k : Nat} {f : Nat → Value} (h : Filled w g e n k f) (m : Nat) : Filled (w.drewN m) g e n k f := h

def zerosV (z : Value) (n : Nat) : Array Value := Array.replicate n z

theorem Filled.made (w : World) (e : TypeId) (z : Value) (n : Nat) (f : Nat → Value) : Filled (w.alloc (.cells (zerosV z n) e)) w.heap.size e n 0 f := by
  refine ⟨zerosV z n, ?_, by simp [zerosV], fun j hj => absurd hj (by omega)⟩
  show (w.heap.push _)[w.heap.size]? = _
  simp

/-- make of n zero values. -/
theorem run_make_zeros {P : Program} (w : World) (t e : TypeId) (z : Value) (bytes : Nat) (ht : P.underlying t = some (.slice e)) (hi : (P.info? e).map (fun i => (i.zero, i.size, i.bytes)) = some (some z, 1, bytes)) (hz : z.cells = #[z])
    (n : Nat) (hb : bytes * n ≤ 281474976710656) (h63 : n ≤ 9223372036854775807) :
    (Instr.makeSlice t (.int .i64 (n : Int)) (.int .i64 (n : Int))).run P w = .ok (.slice (some ⟨w.heap.size, 0, none⟩) n n) (w.alloc (.cells (zerosV z n) e)) := by
  obtain ⟨i, h1, h2, h3, h4⟩ := info_parts hi
  have hb' : (i.bytes : Int) * (n : Int) ≤ 281474976710656 := by
    rw [h4]
    have h : ((bytes * n : Nat) : Int) ≤ 281474976710656 := by omega
    rwa [Int.natCast_mul] at h
  have := run_make (P := P) w t e i z ht h1 h2 .i64 .i64 n n (by omega) (by omega) hb' (by omega)
  rw [this, h3, hz]
  simp only [Int.toNat_natCast, Nat.mul_one]
  congr 3
  unfold madeCells zerosV
  apply Array.ext
  · simp
  · intro j h1 h2
    simp [Nat.mod_one]

theorem info_f32 : (Try.prog.info? 24).map (fun i => (i.zero, i.size, i.bytes)) = some (some (.float .f32 0), 1, 4) := by kernel_rfl

/-- A new slice of floats, and nothing old is turned. -/
def MakesF (w : World) (xs : List Nat) (e : Ending) (w' : World) : Prop := ∃ v, e = .returned v ∧ HasF w' v xs ∧ Below w.heap.size w w'
end
section
open Go.RowKit

/-- A slice of bytes below block B; nil is let in. -/
def HasBy (B : Nat) (w : World) (A : Option Addr) (n : Nat) : Prop :=
  0 < n → ∃ b off, A = some ⟨b, off, none⟩ ∧ b < B ∧ ∀ j, j < n → ∃ u : Int, 0 ≤ u ∧ u ≤ 255 ∧ w.cell? ⟨b, off + j, none⟩ = some (.int .u8 u)

theorem HasBy.below {B : Nat} {w w' : World} {A : Option Addr} {n : Nat} (h : HasBy B w A n) (hb : Below B w w') : HasBy B w' A n := fun hn => by
  obtain ⟨b, off, rfl, hlt, hc⟩ := h hn
  refine ⟨b, off, rfl, hlt, fun j hj => ?_⟩
  obtain ⟨u, h0, h1, h2⟩ := hc j hj
  exact ⟨u, h0, h1, (hb.cell (p := ⟨b, off + j, none⟩) hlt).trans h2⟩

theorem HasBy.grown {B : Nat} {w w' : World} {A : Option Addr} {n g : Nat} (h : HasBy B w A n) (hb : w.grownBy w' (some g)) (hg : B ≤ g) : HasBy B w' A n := fun hn => by
  obtain ⟨b, off, rfl, hlt, hc⟩ := h hn
  refine ⟨b, off, rfl, hlt, fun j hj => ?_⟩
  obtain ⟨u, h0, h1, h2⟩ := hc j hj
  exact ⟨u, h0, h1, hb.cell h2 (by intro he; injection he with he; simp only at he; omega)⟩

theorem grown_trans {a b c : World} {row : Option Nat} (h : a.grownBy b row) (k : b.grownBy c row) : a.grownBy c row :=
  ⟨k.os.trans h.os, k.tape.trans h.tape, k.output.trans h.output, Nat.le_trans h.size k.size, fun i hi hne => (k.block i (Nat.lt_of_lt_of_le hi h.size) hne).trans (h.block i hi hne)⟩
theorem grown_drew {a b : World} {row : Option Nat} (h : a.grownBy b row) : a.grownBy b.drew row := ⟨h.os, h.tape, h.output, h.size, h.block⟩
theorem grown_drewN {a b : World} {row : Option Nat} (h : a.grownBy b row) (n : Nat) : a.grownBy (b.drewN n) row := ⟨h.os, h.tape, h.output, h.size, h.block⟩
theorem grown_setCell (w : World) (g o : Nat) (v : Value) : w.grownBy (w.setCell ⟨g, o, none⟩ v) (some g) :=
  ⟨rfl, rfl, rfl, by simp [World.setCell], fun k _ hne => Below.heap_setCell w ⟨g, o, none⟩ v k (fun e => hne (by rw [e]))⟩
theorem grown_alloc_other {a b : World} {row : Option Nat} (h : a.grownBy b row) (o : Obj) : a.grownBy (b.alloc o) row := grown_trans h (World.grownBy_alloc b o row)

theorem and255 (x : Int) : 0 ≤ bits .and .i64 x 255 ∧ bits .and .i64 x 255 ≤ 255 := by
  unfold bits
  have hb : IntKind.i64.bits = 64 := rfl
  rw [hb]
  simp only []
  have h1 : (BitVec.ofInt 64 x &&& BitVec.ofInt 64 255).toNat ≤ 255 := by
    rw [BitVec.toNat_and]
    have : (BitVec.ofInt 64 255).toNat = 255 := by decide +kernel
    rw [this]
    exact Nat.and_le_right
  generalize (BitVec.ofInt 64 x &&& BitVec.ofInt 64 255).toNat = m at *
  rw [IntKind.wrap_i64]
  omega
end
end Go.Proofs.Ytghekafjccfjcaa
