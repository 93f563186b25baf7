/- Slices whose elements are one cell each, their blocks, and how far a call turns memory. Complex numbers: conversions, for every input. -/
import Derived.Test.YtfafkdpefdpnkaaRows
import Derived.Test.YtfafkdpefdpnkaaJq2
import Derived.WalkKit
import Derived.WalkSpells
import Derived.WalkLawsBesides
import Derived.Lib.Hide
import Derived.ProofKit
namespace Go.Proofs.Ytfafkdpefdpnkaa
section
open Go.RowKit

def SumTwo (a b : Nat) (w : World) (e : Ending) (w' : World) : Prop :=
  ∃ s r n, e = .returned (.tuple #[.float .f32 s, .float .f32 r]) ∧ w' = w.drewN n ∧ FE .f32 s (fC .add .f32 a b) ∧
    FE .f32 r (fC .add .f32 (fC .sub .f32 a (fC .sub .f32 (fC .add .f32 a b) (fC .sub .f32 (fC .add .f32 a b) a))) (fC .sub .f32 b (fC .sub .f32 (fC .add .f32 a b) a)))

/-- 1 divided by what is no NaN. -/
theorem quo_one {a : Nat} (h : nanB .f64 a = false) : ∃ r, floatBits .quo .f64 4607182418800017408 a = some r := by
  have h1 : Ieee.double.read 4607182418800017408 = .number false 4503599627370496 (-52) := by decide +kernel
  simp only [floatBits, Ieee.Format.div, FloatKind.format, h1]
  unfold nanB FloatKind.decode FloatKind.format at h
  simp only [] at h
  cases hd : Ieee.double.read a with
  | number t n j =>
    simp only [Ieee.Datum.quotient]
    by_cases hn : n = 0
    · subst hn; exact ⟨_, rfl⟩
    · rw [if_neg hn]; exact ⟨_, rfl⟩
  | infinity s => exact ⟨_, rfl⟩
  | nan s t => rw [hd] at h; simp [Ieee.Datum.isNaN] at h

def SaysTrue (w : World) (e : Ending) (w' : World) : Prop := ∃ n, e = .returned (.bool true) ∧ w' = w.drewN n

/-- Half of x, twice, is not x. -/
def lossB (x : Nat) : Bool := FloatKind.f32.format.order (fC .mul .f32 (fC .quo .f32 x 1073741824) 1073741824) x != some .eq

/-- A float comes back, and nothing is written. -/
def GivesF (w : World) (k : FloatKind) (b : Nat) (e : Ending) (w' : World) : Prop := ∃ r m, e = .returned (.float k r) ∧ w' = w.drewN m ∧ FE k r b

/-- k times halved. -/
def halves (x : Nat) : Nat → Nat
  | 0 => x
  | k + 1 => fC .quo .f32 (halves x k) 1073741824
end
section
open Go.RowKit

/-- A slice of floats that reads as a list of their bits; nil is let in. -/
def HasF (w : World) (v : Value) (xs : List Nat) : Prop :=
  ∃ (A : Option Addr) (cap : Nat), v = .slice A xs.length cap ∧ xs.length ≤ cap ∧
    (0 < xs.length → ∃ b off, A = some ⟨b, off, none⟩ ∧ ∀ j, j < xs.length → w.cell? ⟨b, off + j, none⟩ = some (.float .f32 (xs.getD j 0)))

def sumF (xs : List Nat) : Nat := xs.foldl (fC .add .f32) 0
def sumD (xs : List Nat) : Nat := xs.foldl (fun s x => fC .add .f64 s (widC x)) 0
def steady (xs : List Nat) : Nat × Nat :=
  xs.foldl (fun p x => (fC .add .f32 p.1 (fC .sub .f32 x p.2), fC .sub .f32 (fC .sub .f32 (fC .add .f32 p.1 (fC .sub .f32 x p.2)) p.1) (fC .sub .f32 x p.2))) (0, 0)
def steadyF (xs : List Nat) : Nat := (steady xs).1

theorem foldl_step {α : Type} (f : α → Nat → α) (s : α) (xs : List Nat) (k : Nat) (h : k < xs.length) : (xs.take (k + 1)).foldl f s = f ((xs.take k).foldl f s) (xs.getD k 0) := by
  rw [List.take_succ_eq_append_getElem h, List.foldl_append]
  simp [List.getD_eq_getElem?_getD, List.getElem?_eq_getElem h]
theorem sumF_step (xs : List Nat) (k : Nat) (h : k < xs.length) : sumF (xs.take (k + 1)) = fC .add .f32 (sumF (xs.take k)) (xs.getD k 0) := foldl_step _ _ _ _ h
theorem sumD_step (xs : List Nat) (k : Nat) (h : k < xs.length) : sumD (xs.take (k + 1)) = fC .add .f64 (sumD (xs.take k)) (widC (xs.getD k 0)) := foldl_step _ _ _ _ h
theorem steady_step (xs : List Nat) (k : Nat) (h : k < xs.length) : steady (xs.take (k + 1)) =
    (fC .add .f32 (steady (xs.take k)).1 (fC .sub .f32 (xs.getD k 0) (steady (xs.take k)).2),
      fC .sub .f32 (fC .sub .f32 (fC .add .f32 (steady (xs.take k)).1 (fC .sub .f32 (xs.getD k 0) (steady (xs.take k)).2)) (steady (xs.take k)).1) (fC .sub .f32 (xs.getD k 0) (steady (xs.take k)).2)) := foldl_step _ _ _ _ h
end
section
open Go.RowKit

/-- The law answers true; what was there is as it was. -/
def Says (w : World) (e : Ending) (w' : World) : Prop := e = .returned (.bool true) ∧ Below w.heap.size w w'

theorem Below.drewN {B : Nat} {a w : World} (h : Below B a w) (n : Nat) : Below B a (w.drewN n) := ⟨h.os, h.tape, h.output, h.size, h.block⟩

theorem i64_both {n : Int} (h : (Lit.int .i64 n).wf = true) : -9223372036854775808 ≤ n ∧ n ≤ 9223372036854775807 := by
  have e1 : IntKind.i64.min = -9223372036854775808 := by decide +kernel
  have e2 : IntKind.i64.max = 9223372036854775807 := by decide +kernel
  simp only [Lit.wf, e1, e2, Bool.and_eq_true, decide_eq_true_eq] at h
  exact h
theorem i64_low {n : Int} (h : (Lit.int .i64 n).wf = true) : -9223372036854775808 ≤ n := (i64_both h).1
theorem i64_high {n : Int} (h : (Lit.int .i64 n).wf = true) : n ≤ 9223372036854775807 := (i64_both h).2
end
section
open Go.RowKit

theorem HasF.drewN {w : World} {v : Value} {xs : List Nat} (h : HasF w v xs) (n : Nat) : HasF (w.drewN n) v xs := h
theorem HasF.below {w w' : World} {v : Value} {xs : List Nat} {B : Nat} (h : HasF w v xs) (hb : Below B w w') (hB : w.heap.size ≤ B) : HasF w' v xs := by
  obtain ⟨A, cap, rfl, hcap, hc⟩ := h
  refine ⟨A, cap, rfl, hcap, fun hp => ?_⟩
  obtain ⟨b, off, rfl, hcell⟩ := hc hp
  refine ⟨b, off, rfl, fun j hj => ?_⟩
  have h0 := hcell j hj
  have hlt := World.block_lt_of_cell? w ⟨b, off + j, none⟩ h0
  rw [← h0]
  exact hb.cell (p := ⟨b, off + j, none⟩) (by simp only at hlt ⊢; omega)

/-- A block of n cells of this type, none frozen, whose first k are f's. -/
def Filled (w : World) (g : Nat) (e : TypeId) (n k : Nat) (f : Nat → Value) : Prop :=
  ∃ cs : Array Value, w.heap[g]? = some (.cells cs e (0, 0)) ∧ cs.size = n ∧ ∀ j, j < k → cs[j]? = some (f j)

theorem Filled.cell {w : World} {g : Nat} {e : TypeId} {n k : Nat} {f : Nat → Value} (h : Filled w g e n k f) {j : Nat} (hj : j < n) : ∃ u, w.cell? ⟨g, j, none⟩ = some u := by
  obtain ⟨cs, hh, hs, _⟩ := h
  refine ⟨cs[j]'(by omega), ?_⟩
  unfold World.cell?
  simp only [hh]
  simp [Array.getElem?_eq_getElem (show j < cs.size by omega)]
theorem Filled.at_ {w : World} {g : Nat} {e : TypeId} {n k : Nat} {f : Nat → Value} (h : Filled w g e n k f) {j : Nat} (hj : j < k) : w.cell? ⟨g, j, none⟩ = some (f j) := by
  obtain ⟨cs, hh, hs, hf⟩ := h
  unfold World.cell?
  simp only [hh]
  simp [hf j hj]
theorem Filled.frozen {w : World} {g : Nat} {e : TypeId} {n k : Nat} {f : Nat → Value} (h : Filled w g e n k f) (j : Nat) : w.frozen? ⟨g, j, none⟩ = false := by
  obtain ⟨cs, hh, _, _⟩ := h
  simp [World.frozen?, hh]
theorem Filled.step {w : World} {g : Nat} {e : TypeId} {n k : Nat} {f : Nat → Value} (h : Filled w g e n k f) (hk : k < n) : Filled (w.setCell ⟨g, k, none⟩ (f k)) g e n (k + 1) f := by
  obtain ⟨cs, hh, hs, hf⟩ := h
  refine ⟨cs.setIfInBounds k (f k), ?_, by simp [hs], fun j hj => ?_⟩
  · simp [World.setCell, Array.getElem?_modify, hh]
  · by_cases hjk : j = k
    · subst hjk; rw [Array.getElem?_setIfInBounds_self_of_lt (by omega)]
    · rw [Array.getElem?_setIfInBounds_ne (by omega)]; exact hf j (by omega)
theorem Filled.drewN {w : World} {g : Nat} {e : TypeId} {n k : Nat} {f : Nat → Value} (h : Filled w g e n k f) (m : Nat) : Filled (w.drewN m) g e n k f := h

def zerosV (z : Value) (n : Nat) : Array Value := Array.replicate n z

theorem Filled.made (w : World) (e : TypeId) (z : Value) (n : Nat) (f : Nat → Value) : Filled (w.alloc (.cells (zerosV z n) e)) w.heap.size e n 0 f := by
  refine ⟨zerosV z n, ?_, by simp [zerosV], fun j hj => absurd hj (by omega)⟩
  show (w.heap.push _)[w.heap.size]? = _
  simp

/-- make of n zero values. -/
theorem run_make_zeros {P : Program} (w : World) (t e : TypeId) (z : Value) (bytes : Nat) (ht : P.underlying t = some (.slice e)) (hi : (P.info? e).map (fun i => (i.zero, i.size, i.bytes)) = some (some z, 1, bytes)) (hz : z.cells = #[z])
    (n : Nat) (hb : bytes * n ≤ 281474976710656) (h63 : n ≤ 9223372036854775807) :
    (Instr.makeSlice t (.int .i64 (n : Int)) (.int .i64 (n : Int))).run P w = .ok (.slice (some ⟨w.heap.size, 0, none⟩) n n) (w.alloc (.cells (zerosV z n) e)) := by
  obtain ⟨i, h1, h2, h3, h4⟩ := info_parts hi
  have hb' : (i.bytes : Int) * (n : Int) ≤ 281474976710656 := by
    rw [h4]
    have h : ((bytes * n : Nat) : Int) ≤ 281474976710656 := by omega
    rwa [Int.natCast_mul] at h
  have := run_make (P := P) w t e i z ht h1 h2 .i64 .i64 n n (by omega) (by omega) hb' (by omega)
  rw [this, h3, hz]
  simp only [Int.toNat_natCast, Nat.mul_one]
  congr 3
  unfold madeCells zerosV
  apply Array.ext
  · simp
  · intro j h1 h2
    simp [Nat.mod_one]

theorem info_f32 : (Try.prog.info? 93).map (fun i => (i.zero, i.size, i.bytes)) = some (some (.float .f32 0), 1, 4) := by kernel_rfl

/-- A new slice of floats, and nothing old is turned. -/
def MakesF (w : World) (xs : List Nat) (e : Ending) (w' : World) : Prop := ∃ v, e = .returned v ∧ HasF w' v xs ∧ Below w.heap.size w w'
end
section
open Go.RowKit

/-- w' is w but for the blocks from lo on and before hi, and for new ones. -/
structure Span (lo hi : Nat) (w w' : World) : Prop where
  os : w'.os = w.os
  tape : w'.tape = w.tape
  output : w'.output = w.output
  size : w.heap.size ≤ w'.heap.size
  block : ∀ k, k < w.heap.size → ¬ (lo ≤ k ∧ k < hi) → w'.heap[k]? = w.heap[k]?

theorem Span.refl (lo hi : Nat) (w : World) : Span lo hi w w := ⟨rfl, rfl, rfl, Nat.le_refl _, fun _ _ _ => rfl⟩

theorem Span.of_below {w w' : World} (h : Below w.heap.size w w') : Span 0 0 w w' := ⟨h.os, h.tape, h.output, h.size, fun k hk _ => h.block k hk⟩

theorem Span.to_below {w w' : World} {lo hi : Nat} (h : Span lo hi w w') (hl : hi ≤ lo ∨ w.heap.size ≤ lo) : Below w.heap.size w w' :=
  ⟨h.os, h.tape, h.output, h.size, fun k hk => h.block k hk (by omega)⟩

theorem Span.below {B : Nat} {W w w' : World} {lo hi : Nat} (h : Span lo hi w w') (hb : Below B W w) (hl : hi ≤ lo ∨ B ≤ lo) (hB : B ≤ w.heap.size) : Below B W w' :=
  hb.trans ⟨h.os, h.tape, h.output, h.size, fun k hk => h.block k (by omega) (by omega)⟩

theorem Span.wide {lo hi lo' hi' : Nat} {w w' : World} (h : Span lo hi w w') (hw : ∀ k, k < w.heap.size → lo ≤ k ∧ k < hi → lo' ≤ k ∧ k < hi') : Span lo' hi' w w' :=
  ⟨h.os, h.tape, h.output, h.size, fun k hk hn => h.block k hk (fun hc => hn (hw k hk hc))⟩

theorem Span.trans {lo hi : Nat} {a b c : World} (h : Span lo hi a b) (k : Span lo hi b c) : Span lo hi a c :=
  ⟨k.os.trans h.os, k.tape.trans h.tape, k.output.trans h.output, Nat.le_trans h.size k.size, fun i hi' hn => (k.block i (Nat.lt_of_lt_of_le hi' h.size) hn).trans (h.block i hi' hn)⟩

/-- Behind a step that turns only new blocks. -/
theorem Span.after {lo hi : Nat} {a b c : World} (k : Span lo hi b c) (h : Span 0 0 a b) : Span lo hi a c :=
  (h.wide (fun _ _ hc => absurd hc.2 (by omega))).trans k

theorem Span.alloc {lo hi : Nat} {a b : World} (h : Span lo hi a b) (o : Obj) : Span lo hi a (b.alloc o) :=
  h.trans ⟨rfl, rfl, rfl, by simp, fun k hk _ => Below.heap_alloc _ _ _ hk⟩

theorem Span.drewN {lo hi : Nat} {a b : World} (h : Span lo hi a b) (n : Nat) : Span lo hi a (b.drewN n) := ⟨h.os, h.tape, h.output, h.size, h.block⟩
theorem Span.drew {lo hi : Nat} {a b : World} (h : Span lo hi a b) : Span lo hi a b.drew := ⟨h.os, h.tape, h.output, h.size, h.block⟩
theorem Span.setCell {lo hi : Nat} {a b : World} (h : Span lo hi a b) {p : Addr} (hp : (lo ≤ p.block ∧ p.block < hi) ∨ a.heap.size ≤ p.block) (u : Value) : Span lo hi a (b.setCell p u) :=
  ⟨h.os, h.tape, h.output, by simpa [World.setCell] using h.size, fun k hk hn => (Below.heap_setCell b p u k (by omega)).trans (h.block k hk hn)⟩
theorem Span.grown {lo hi : Nat} {a b c : World} {row : Option Nat} (h : Span lo hi a b) (hg : b.grownBy c row) (hr : ∀ k, row = some k → (lo ≤ k ∧ k < hi) ∨ a.heap.size ≤ k) : Span lo hi a c :=
  ⟨hg.os.trans h.os, hg.tape.trans h.tape, hg.output.trans h.output, Nat.le_trans h.size hg.size, fun k hk hn =>
    (hg.block k (Nat.lt_of_lt_of_le hk h.size) (fun e => by have := hr k e.symm; omega)).trans (h.block k hk hn)⟩

theorem Span.cells {lo hi : Nat} {w w' : World} (h : Span lo hi w w') (hl : hi ≤ lo) : (∀ b o, b < w.heap.size → w'.cell? ⟨b, o, none⟩ = w.cell? ⟨b, o, none⟩) ∧ (∀ b o, b < w.heap.size → w'.frozen? ⟨b, o, none⟩ = w.frozen? ⟨b, o, none⟩) :=
  ⟨fun b o hb => World.cell?_of_block (w := w) (h.block b hb (by omega)), fun b o hb => World.frozen?_of_block (w := w) (h.block b hb (by omega))⟩

/-- A slice that reads as xs, each element a cell, in block b; nil is let in; 'own': its cells may be written. -/
def HasS {α : Type} (val : α → Value) (own : Bool) (b lo hi : Nat) (w : World) (v : Value) (xs : List α) : Prop :=
  ∃ (A : Option Addr) (cap : Nat), v = .slice A xs.length cap ∧ xs.length ≤ cap ∧
    (0 < xs.length → ∃ off, A = some ⟨b, off, none⟩ ∧ lo ≤ b ∧ b < hi ∧ b < w.heap.size ∧
      (∀ j x, xs[j]? = some x → w.cell? ⟨b, off + j, none⟩ = some (val x)) ∧ (own = true → ∀ j, j < xs.length → w.frozen? ⟨b, off + j, none⟩ = false))

theorem HasS.same {α : Type} {val : α → Value} {own : Bool} {b lo hi : Nat} {w w' : World} {v : Value} {xs : List α} (h : HasS val own b lo hi w v xs) (hb : b < w.heap.size → b < w'.heap.size ∧ w'.heap[b]? = w.heap[b]?) : HasS val own b lo hi w' v xs := by
  obtain ⟨A, cap, rfl, hcap, hc⟩ := h
  refine ⟨A, cap, rfl, hcap, fun hp => ?_⟩
  obtain ⟨off, rfl, h1, h2, h3, h4, h5⟩ := hc hp
  obtain ⟨g1, g2⟩ := hb h3
  exact ⟨off, rfl, h1, h2, g1, fun j x hj => (World.cell?_of_block (w := w) g2).trans (h4 j x hj), fun ho j hj => (World.frozen?_of_block (w := w) g2).trans (h5 ho j hj)⟩

theorem HasS.span {α : Type} {val : α → Value} {own : Bool} {b lo hi l r : Nat} {w w' : World} {v : Value} {xs : List α} (h : HasS val own b lo hi w v xs) (hs : Span l r w w') (hd : r ≤ l ∨ hi ≤ l ∨ r ≤ lo ∨ b < l ∨ r ≤ b) : HasS val own b lo hi w' v xs := by
  obtain ⟨A, cap, rfl, hcap, hc⟩ := h
  refine ⟨A, cap, rfl, hcap, fun hp => ?_⟩
  obtain ⟨off, rfl, h1, h2, h3, h4, h5⟩ := hc hp
  have g2 := hs.block b h3 (by omega)
  exact ⟨off, rfl, h1, h2, Nat.lt_of_lt_of_le h3 hs.size, fun j x hj => (World.cell?_of_block (w := w) g2).trans (h4 j x hj), fun ho j hj => (World.frozen?_of_block (w := w) g2).trans (h5 ho j hj)⟩

theorem HasS.weak {α : Type} {val : α → Value} {own : Bool} {b lo hi lo' hi' : Nat} {w : World} {v : Value} {xs : List α} (h : HasS val own b lo hi w v xs) (h1 : lo' ≤ lo) (h2 : hi ≤ hi' ∨ w.heap.size ≤ hi') : HasS val own b lo' hi' w v xs := by
  obtain ⟨A, cap, rfl, hcap, hc⟩ := h
  refine ⟨A, cap, rfl, hcap, fun hp => ?_⟩
  obtain ⟨off, rfl, g1, g2, g3, g4, g5⟩ := hc hp
  exact ⟨off, rfl, by omega, by omega, g3, g4, g5⟩

theorem HasS.drewN {α : Type} {val : α → Value} {own : Bool} {b lo hi : Nat} {w : World} {v : Value} {xs : List α} (h : HasS val own b lo hi w v xs) (n : Nat) : HasS val own b lo hi (w.drewN n) v xs := h

theorem HasS.alloc {α : Type} {val : α → Value} {own : Bool} {b lo hi : Nat} {w : World} {v : Value} {xs : List α} (h : HasS val own b lo hi w v xs) (o : Obj) : HasS val own b lo hi (w.alloc o) v xs :=
  h.span (Span.alloc (Span.refl 0 0 _) o) (by omega)

theorem HasS.bare {α : Type} {val : α → Value} {own : Bool} {b lo hi : Nat} {w : World} {v : Value} {xs : List α} (h : HasS val own b lo hi w v xs) : HasS val false b lo hi w v xs := by
  obtain ⟨A, cap, rfl, hcap, hc⟩ := h
  refine ⟨A, cap, rfl, hcap, fun hp => ?_⟩
  obtain ⟨off, rfl, g1, g2, g3, g4, g5⟩ := hc hp
  exact ⟨off, rfl, g1, g2, g3, g4, fun h => by cases h⟩

theorem HasS.empty {α : Type} (val : α → Value) (own : Bool) (b lo hi : Nat) (w : World) (A : Option Addr) (c : Nat) : HasS val own b lo hi w (.slice A 0 c) [] :=
  ⟨A, c, rfl, Nat.zero_le _, fun h => absurd h (by simp)⟩

/-- What a filled block of the call's own reads as. -/
theorem Filled.hasS {α : Type} {val : α → Value} {w : World} {g lo hi : Nat} {e : TypeId} {f : Nat → Value} {xs : List α} (h : Filled w g e xs.length xs.length f) (hf : ∀ j x, xs[j]? = some x → f j = val x) (h1 : lo ≤ g) (h2 : g < hi) : HasS val true g lo hi w (.slice (some ⟨g, 0, none⟩) xs.length xs.length) xs := by
  refine ⟨_, _, rfl, Nat.le_refl _, fun hp => ⟨0, rfl, h1, h2, ?_, fun j x hj => ?_, fun _ j hj => h.frozen _⟩⟩
  · obtain ⟨cs, hh, _⟩ := h
    by_cases hg : g < w.heap.size
    · exact hg
    · rw [Array.getElem?_eq_none (by omega)] at hh; cases hh
  · rw [Nat.zero_add, h.at_ (List.getElem?_eq_some_iff.1 hj).1, hf j x hj]

theorem getElem?_some {α : Type} {xs : List α} {j : Nat} (h : j < xs.length) : ∃ x, xs[j]? = some x := ⟨xs[j], List.getElem?_eq_getElem h⟩

/-- What the call owns reads so. -/
theorem ownsRow_hasS {α : Type} {val : α → Value} {w : World} {base : Nat} {e : TypeId} {v : Value} {n : Nat} {xs : List α} (h : w.ownsRow base e 1 v n (xs.map val)) :
    ∃ b, HasS val true b base w.heap.size w v xs ∧ n = xs.length ∧ (0 < xs.length → v.ownBlock = some b) := by
  obtain ⟨hl, h | ⟨g, cap, cur, rfl, hg, hh, hn, hm, hc, ht⟩⟩ := h
  · obtain ⟨rfl, rfl⟩ := h
    have : xs = [] := by cases xs with | nil => rfl | cons a l => simp at hl
    subst this
    exact ⟨0, HasS.empty _ _ _ _ _ _ _ _, rfl, fun h => absurd h (by simp)⟩
  · simp only [List.length_map, Nat.mul_one] at hl ht hc
    have hlt : g < w.heap.size := by
      by_cases hg : g < w.heap.size
      · exact hg
      · rw [Array.getElem?_eq_none (by omega)] at hh; cases hh
    refine ⟨g, ⟨_, cap, by rw [hl], by omega, fun _ => ⟨0, rfl, hg, hlt, hlt, fun j x hj => ?_, fun _ j hj => ?_⟩⟩, hl.symm, fun _ => rfl⟩
    · have hj' := (List.getElem?_eq_some_iff.1 hj).1
      have e1 : (xs.map val)[j]? = some (val x) := by rw [List.getElem?_map, hj]; rfl
      rw [← ht, List.getElem?_take_of_lt (by omega)] at e1
      unfold World.cell?
      simp only [hh, Nat.zero_add]
      simpa using e1
    · unfold World.frozen?
      simp [hh]

/-- A float's two parts. -/
abbrev Cx := Nat × Nat
def cxV (z : Cx) : Value := .complex .f32 z.1 z.2
def intV (n : Int) : Value := .int .i64 n
end
section
open Go.RowKit

section
variable {P : Program} (w : World)

theorem run_fF (s k : FloatKind) (b : Nat) : (Conv.floatToFloat s b k).run P w = .ok (.float k (fCv s k b w)) (w.drewN (fCd s k b)) := by
  cases hf : floatToFloatBits s b k with
  | some r =>
    rw [run_floatToFloat w hf]
    simp [fCv, fCd, hf, World.drewN_zero]
  | none =>
    simp only [fCv, fCd, hf]
    unfold floatToFloatBits at hf
    split at hf
    · cases hf
    · rename_i ne
      split at hf
      · rename_i sg fr he
        simp [Conv.floatToFloat, ne, he, Question.forced, World.drewN, Ieee.Datum.isNaN]
      · cases hf
      · rename_i sg m e he
        split at hf
        · rename_i ho
          simp [Conv.floatToFloat, ne, he, ho, Question.forced, World.drewN, Ieee.Datum.isNaN]
        · cases hf

@[go_sem] theorem run_cCv (src dst : TypeId) (s k : FloatKind) (a b : Nat) (hs : (P.underlying src).isSome = true) (hd : P.underlying dst = some (.complex k)) :
    (convert src dst (.complex s a b)).run P w = .ok (.complex k (fCv s k a w) (fCv s k b (w.drewN (fCd s k a)))) (w.drewN (fCd s k a + fCd s k b)) := by
  obtain ⟨u, hs'⟩ := Option.isSome_iff_exists.1 hs
  cases u <;> simp [convert, run_underlying hs', run_underlying hd, Conv.complexToComplex, run_fF, World.drewN_drewN]

end
end
end Go.Proofs.Ytfafkdpefdpnkaa
