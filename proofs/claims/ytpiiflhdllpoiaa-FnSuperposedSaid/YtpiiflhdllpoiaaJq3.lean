/-  -/
import Derived.Test.YtpiiflhdllpoiaaRows
import Derived.Test.YtpiiflhdllpoiaaJq2
import Derived.WalkKit
import Derived.WalkSpells
import Derived.WalkLawsBesides
import Derived.Lib.Hide
import Derived.ProofKit
namespace Go.Proofs.Ytpiiflhdllpoiaa
section
open Go.RowKit

def SumTwo (a b : Nat) (w : World) (e : Ending) (w' : World) : Prop :=
  ∃ s r n, e = .returned (.tuple #[.float .f32 s, .float .f32 r]) ∧ w' = w.drewN n ∧ FE .f32 s (fC .add .f32 a b) ∧
    FE .f32 r (fC .add .f32 (fC .sub .f32 a (fC .sub .f32 (fC .add .f32 a b) (fC .sub .f32 (fC .add .f32 a b) a))) (fC .sub .f32 b (fC .sub .f32 (fC .add .f32 a b) a)))

/-- 1 divided by what is no NaN. -/
theorem quo_one {a : Nat} (h : nanB .f64 a = false) : ∃ r, floatBits .quo .f64 4607182418800017408 a = some r := by
  have h1 : Ieee.double.read 4607182418800017408 = .number false 4503599627370496 (-52) := by decide +kernel
  simp only [floatBits, Ieee.Format.div, FloatKind.format, h1]
  unfold nanB FloatKind.decode FloatKind.format at h
  simp only [] at h
  cases hd : Ieee.double.read a with
  | number t n j =>
    simp only [Ieee.Datum.quotient]
    by_cases hn : n = 0
    · subst hn; exact ⟨_, rfl⟩
    · rw [if_neg hn]; exact ⟨_, rfl⟩
  | infinity s => exact ⟨_, rfl⟩
  | nan s t => rw [hd] at h; simp [Ieee.Datum.isNaN] at h

def SaysTrue (w : World) (e : Ending) (w' : World) : Prop := ∃ n, e = .returned (.bool true) ∧ w' = w.drewN n

/-- Half of x, twice, is not x. -/
def lossB (x : Nat) : Bool := FloatKind.f32.format.order (fC .mul .f32 (fC .quo .f32 x 1073741824) 1073741824) x != some .eq

/-- A float comes back, and nothing is written. -/
def GivesF (w : World) (k : FloatKind) (b : Nat) (e : Ending) (w' : World) : Prop := ∃ r m, e = .returned (.float k r) ∧ w' = w.drewN m ∧ FE k r b

/-- k times halved. -/
def halves (x : Nat) : Nat → Nat
  | 0 => x
  | k + 1 => fC .quo .f32 (halves x k) 1073741824
end
section
open Go.RowKit

/-- A slice of floats that reads as a list of their bits; nil is let in. -/
def HasF (w : World) (v : Value) (xs : List Nat) : Prop :=
  ∃ (A : Option Addr) (cap : Nat), v = .slice A xs.length cap ∧ xs.length ≤ cap ∧
    (0 < xs.length → ∃ b off, A = some ⟨b, off, none⟩ ∧ ∀ j, j < xs.length → w.cell? ⟨b, off + j, none⟩ = some (.float .f32 (xs.getD j 0)))

def sumF (xs : List Nat) : Nat := xs.foldl (fC .add .f32) 0
def sumD (xs : List Nat) : Nat := xs.foldl (fun s x => fC .add .f64 s (widC x)) 0
def steady (xs : List Nat) : Nat × Nat :=
  xs.foldl (fun p x => (fC .add .f32 p.1 (fC .sub .f32 x p.2), fC .sub .f32 (fC .sub .f32 (fC .add .f32 p.1 (fC .sub .f32 x p.2)) p.1) (fC .sub .f32 x p.2))) (0, 0)
def steadyF (xs : List Nat) : Nat := (steady xs).1

theorem foldl_step {α : Type} (f : α → Nat → α) (s : α) (xs : List Nat) (k : Nat) (h : k < xs.length) : (xs.take (k + 1)).foldl f s = f ((xs.take k).foldl f s) (xs.getD k 0) := by
  rw [List.take_succ_eq_append_getElem h, List.foldl_append]
  simp [List.getD_eq_getElem?_getD, List.getElem?_eq_getElem h]
theorem sumF_step (xs : List Nat) (k : Nat) (h : k < xs.length) : sumF (xs.take (k + 1)) = fC .add .f32 (sumF (xs.take k)) (xs.getD k 0) := foldl_step _ _ _ _ h
theorem sumD_step (xs : List Nat) (k : Nat) (h : k < xs.length) : sumD (xs.take (k + 1)) = fC .add .f64 (sumD (xs.take k)) (widC (xs.getD k 0)) := foldl_step _ _ _ _ h
theorem steady_step (xs : List Nat) (k : Nat) (h : k < xs.length) : steady (xs.take (k + 1)) =
    (fC .add .f32 (steady (xs.take k)).1 (fC .sub .f32 (xs.getD k 0) (steady (xs.take k)).2),
      fC .sub .f32 (fC .sub .f32 (fC .add .f32 (steady (xs.take k)).1 (fC .sub .f32 (xs.getD k 0) (steady (xs.take k)).2)) (steady (xs.take k)).1) (fC .sub .f32 (xs.getD k 0) (steady (xs.take k)).2)) := foldl_step _ _ _ _ h
end
section
open Go.RowKit

/-- The law answers true; what was there is as it was. -/
def Says (w : World) (e : Ending) (w' : World) : Prop := e = .returned (.bool true) ∧ Below w.heap.size w w'

theorem Below.drewN {B : Nat} {a w : World} (h : Below B a w) (n : Nat) : Below B a (w.drewN n) := ⟨h.os, h.tape, h.output, h.size, h.block⟩

theorem i64_both {n : Int} (h : (Lit.int .i64 n).wf = true) : -9223372036854775808 ≤ n ∧ n ≤ 9223372036854775807 := by
  have e1 : IntKind.i64.min = -9223372036854775808 := by decide +kernel
  have e2 : IntKind.i64.max = 9223372036854775807 := by decide +kernel
  simp only [Lit.wf, e1, e2, Bool.and_eq_true, decide_eq_true_eq] at h
  exact h
theorem i64_low {n : Int} (h : (Lit.int .i64 n).wf = true) : -9223372036854775808 ≤ n := (i64_both h).1
theorem i64_high {n : Int} (h : (Lit.int .i64 n).wf = true) : n ≤ 9223372036854775807 := (i64_both h).2
end
section
open Go.RowKit

theorem HasF.drewN {w : World} {v : Value} {xs : List Nat} (h : HasF w v xs) (n : Nat) : HasF (w.drewN n) v xs := h
theorem HasF.below {w w' : World} {v : Value} {xs : List Nat} {B : Nat} (h : HasF w v xs) (hb : Below B w w') (hB : w.heap.size ≤ B) : HasF w' v xs := by
  obtain ⟨A, cap, rfl, hcap, hc⟩ := h
  refine ⟨A, cap, rfl, hcap, fun hp => ?_⟩
  obtain ⟨b, off, rfl, hcell⟩ := hc hp
  refine ⟨b, off, rfl, fun j hj => ?_⟩
  have h0 := hcell j hj
  have hlt := World.block_lt_of_cell? w ⟨b, off + j, none⟩ h0
  rw [← h0]
  exact hb.cell (p := ⟨b, off + j, none⟩) (by simp only at hlt ⊢; omega)

/-- A block of n cells of this type, none frozen, whose first k are f's. -/
def Filled (w : World) (g : Nat) (e : TypeId) (n k : Nat) (f : Nat → Value) : Prop :=
  ∃ cs : Array Value, w.heap[g]? = some (.cells cs e (0, 0)) ∧ cs.size = n ∧ ∀ j, j < k → cs[j]? = some (f j)

theorem Filled.cell {w : World} {g : Nat} {e : TypeId} {n k : Nat} {f : Nat → Value} (h : Filled w g e n k f) {j : Nat} (hj : j < n) : ∃ u, w.cell? ⟨g, j, none⟩ = some u := by
  obtain ⟨cs, hh, hs, _⟩ := h
  refine ⟨cs[j]'(by omega), ?_⟩
  unfold World.cell?
  simp only [hh]
  simp [Array.getElem?_eq_getElem (show j < cs.size by omega)]
theorem Filled.at_ {w : World} {g : Nat} {e : TypeId} {n k : Nat} {f : Nat → Value} (h : Filled w g e n k f) {j : Nat} (hj : j < k) : w.cell? ⟨g, j, none⟩ = some (f j) := by
  obtain ⟨cs, hh, hs, hf⟩ := h
  unfold World.cell?
  simp only [hh]
  simp [hf j hj]
theorem Filled.frozen {w : World} {g : Nat} {e : TypeId} {n k : Nat} {f : Nat → Value} (h : Filled w g e n k f) (j : Nat) : w.frozen? ⟨g, j, none⟩ = false := by
  obtain ⟨cs, hh, _, _⟩ := h
  simp [World.frozen?, hh]
theorem Filled.step {w : World} {g : Nat} {e : TypeId} {n k : Nat} {f : Nat → Value} (h : Filled w g e n k f) (hk : k < n) : Filled (w.setCell ⟨g, k, none⟩ (f k)) g e n (k + 1) f := by
  obtain ⟨cs, hh, hs, hf⟩ := h
  refine ⟨cs.setIfInBounds k (f k), ?_, by simp [hs], fun j hj => ?_⟩
  · simp [World.setCell, Array.getElem?_modify, hh]
  · by_cases hjk : j = k
    · subst hjk; rw [Array.getElem?_setIfInBounds_self_of_lt (by omega)]
    · rw [Array.getElem?_setIfInBounds_ne (by omega)]; exact hf j (by omega)
theorem Filled.drewN {w : World} {g : Nat} {e : TypeId} {n k : Nat} {f : Nat → Value} (h : Filled w g e n k f) (m : Nat) : Filled (w.drewN m) g e n k f := h

def zerosV (z : Value) (n : Nat) : Array Value := Array.replicate n z

theorem Filled.made (w : World) (e : TypeId) (z : Value) (n : Nat) (f : Nat → Value) : Filled (w.alloc (.cells (zerosV z n) e)) w.heap.size e n 0 f := by
  refine ⟨zerosV z n, ?_, by simp [zerosV], fun j hj => absurd hj (by omega)⟩
  show (w.heap.push _)[w.heap.size]? = _
  simp

/-- make of n zero values. -/
theorem run_make_zeros {P : Program} (w : World) (t e : TypeId) (z : Value) (bytes : Nat) (ht : P.underlying t = some (.slice e)) (hi : (P.info? e).map (fun i => (i.zero, i.size, i.bytes)) = some (some z, 1, bytes)) (hz : z.cells = #[z])
    (n : Nat) (hb : bytes * n ≤ 281474976710656) (h63 : n ≤ 9223372036854775807) :
    (Instr.makeSlice t (.int .i64 (n : Int)) (.int .i64 (n : Int))).run P w = .ok (.slice (some ⟨w.heap.size, 0, none⟩) n n) (w.alloc (.cells (zerosV z n) e)) := by
  obtain ⟨i, h1, h2, h3, h4⟩ := info_parts hi
  have hb' : (i.bytes : Int) * (n : Int) ≤ 281474976710656 := by
    rw [h4]
    have h : ((bytes * n : Nat) : Int) ≤ 281474976710656 := by omega
    rwa [Int.natCast_mul] at h
  have := run_make (P := P) w t e i z ht h1 h2 .i64 .i64 n n (by omega) (by omega) hb' (by omega)
  rw [this, h3, hz]
  simp only [Int.toNat_natCast, Nat.mul_one]
  congr 3
  unfold madeCells zerosV
  apply Array.ext
  · simp
  · intro j h1 h2
    simp [Nat.mod_one]

theorem info_f32 : (Try.prog.info? 25).map (fun i => (i.zero, i.size, i.bytes)) = some (some (.float .f32 0), 1, 4) := by kernel_rfl

/-- A new slice of floats, and nothing old is turned. -/
def MakesF (w : World) (xs : List Nat) (e : Ending) (w' : World) : Prop := ∃ v, e = .returned v ∧ HasF w' v xs ∧ Below w.heap.size w w'
end
end Go.Proofs.Ytpiiflhdllpoiaa
