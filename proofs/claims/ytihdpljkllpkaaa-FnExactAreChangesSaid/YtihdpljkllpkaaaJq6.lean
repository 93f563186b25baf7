/-  -/
import Derived.Test.YtihdpljkllpkaaaJq4
import Derived.Test.YtihdpljkllpkaaaJq5
namespace Go.Proofs.Ytihdpljkllpkaaa
open Go.RowKit

theorem HasF.drewN {w : World} {v : Value} {xs : List Nat} (h : HasF w v xs) (n : Nat) : HasF (w.drewN n) v xs := h
theorem HasF.below {w w' : World} {v : Value} {xs : List Nat} {B : Nat} (h : HasF w v xs) (hb : Below B w w') (hB : w.heap.size ≤ B) : HasF w' v xs := by
  obtain ⟨A, cap, rfl, hcap, hc⟩ := h
  refine ⟨A, cap, rfl, hcap, fun hp => ?_⟩
  obtain ⟨b, off, rfl, hcell⟩ := hc hp
  refine ⟨b, off, rfl, fun j hj => ?_⟩
  have h0 := hcell j hj
  have hlt := World.block_lt_of_cell? w ⟨b, off + j, none⟩ h0
  rw [← h0]
  exact hb.cell (p := ⟨b, off + j, none⟩) (by simp only at hlt ⊢; omega)

/-- A block of n cells of this type, none frozen, whose first k are f's. -/
def Filled (w : World) (g : Nat) (e : TypeId) (n k : Nat) (f : Nat → Value) : Prop :=
  ∃ cs : Array Value, w.heap[g]? = some (.cells cs e (0, 0)) ∧ cs.size = n ∧ ∀ j, j < k → cs[j]? = some (f j)

theorem Filled.cell {w : World} {g : Nat} {e : TypeId} {n k : Nat} {f : Nat → Value} (h : Filled w g e n k f) {j : Nat} (hj : j < n) : ∃ u, w.cell? ⟨g, j, none⟩ = some u := by
  obtain ⟨cs, hh, hs, _⟩ := h
  refine ⟨cs[j]'(by omega), ?_⟩
  unfold World.cell?
  simp only [hh]
  simp [Array.getElem?_eq_getElem (show j < cs.size by omega)]
theorem Filled.at_ {w : World} {g : Nat} {e : TypeId} {n k : Nat} {f : Nat → Value} (h : Filled w g e n k f) {j : Nat} (hj : j < k) : w.cell? ⟨g, j, none⟩ = some (f j) := by
  obtain ⟨cs, hh, hs, hf⟩ := h
  unfold World.cell?
  simp only [hh]
  simp [hf j hj]
theorem Filled.frozen {w : World} {g : Nat} {e : TypeId} {n k : Nat} {f : Nat → Value} (h : Filled w g e n k f) (j : Nat) : w.frozen? ⟨g, j, none⟩ = false := by
  obtain ⟨cs, hh, _, _⟩ := h
  simp [World.frozen?, hh]
theorem Filled.step {w : World} {g : Nat} {e : TypeId} {n k : Nat} {f : Nat → Value} (h : Filled w g e n k f) (hk : k < n) : Filled (w.setCell ⟨g, k, none⟩ (f k)) g e n (k + 1) f := by
  obtain ⟨cs, hh, hs, hf⟩ := h
  refine ⟨cs.setIfInBounds k (f k), ?_, by simp [hs], fun j hj => ?_⟩
  · simp [World.setCell, Array.getElem?_modify, hh]
  · by_cases hjk : j = k
    · subst hjk; rw [Array.getElem?_setIfInBounds_self_of_lt (by omega)]
    · rw [Array.getElem?_setIfInBounds_ne (by omega)]; exact hf j (by omega)
theorem Filled.drewN {w : World} {g : Nat} {e : TypeId} {n k : Nat} {f : Nat → Value} (h : Filled w g e n k f) (m : Nat) : Filled (w.drewN m) g e n k f := h

def zerosV (z : Value) (n : Nat) : Array Value := Array.replicate n z

theorem Filled.made (w : World) (e : TypeId) (z : Value) (n : Nat) (f : Nat → Value) : Filled (w.alloc (.cells (zerosV z n) e)) w.heap.size e n 0 f := by
  refine ⟨zerosV z n, ?_, by simp [zerosV], fun j hj => absurd hj (by omega)⟩
  show (w.heap.push _)[w.heap.size]? = _
  simp

/-- make of n zero values. -/
theorem run_make_zeros {P : Program} (w : World) (t e : TypeId) (z : Value) (bytes : Nat) (ht : P.underlying t = some (.slice e)) (hi : (P.info? e).map (fun i => (i.zero, i.size, i.bytes)) = some (some z, 1, bytes)) (hz : z.cells = #[z])
    (n : Nat) (hb : bytes * n ≤ 281474976710656) (h63 : n ≤ 9223372036854775807) :
    (Instr.makeSlice t (.int .i64 (n : Int)) (.int .i64 (n : Int))).run P w = .ok (.slice (some ⟨w.heap.size, 0, none⟩) n n) (w.alloc (.cells (zerosV z n) e)) := by
  obtain ⟨i, h1, h2, h3, h4⟩ := info_parts hi
  have hb' : (i.bytes : Int) * (n : Int) ≤ 281474976710656 := by
    rw [h4]
    have h : ((bytes * n : Nat) : Int) ≤ 281474976710656 := by omega
    rwa [Int.natCast_mul] at h
  have := run_make (P := P) w t e i z ht h1 h2 .i64 .i64 n n (by omega) (by omega) hb' (by omega)
  rw [this, h3, hz]
  simp only [Int.toNat_natCast, Nat.mul_one]
  congr 3
  unfold madeCells zerosV
  apply Array.ext
  · simp
  · intro j h1 h2
    simp [Nat.mod_one]

/-- A new slice of floats, and nothing old is turned. -/
def MakesF (w : World) (xs : List Nat) (e : Ending) (w' : World) : Prop := ∃ v, e = .returned v ∧ HasF w' v xs ∧ Below w.heap.size w w'
end Go.Proofs.Ytihdpljkllpkaaa
