/-  -/
import Derived.Test.YtghekafjccfjcaaRows
import Derived.Test.YtghekafjccfjcaaJq2
import Derived.WalkKit
import Derived.WalkSpells
import Derived.WalkLawsBesides
import Derived.Lib.Hide
namespace Go.Proofs.Ytghekafjccfjcaa
section
open Go.RowKit

def SumTwo (a b : Nat) (w : World) (e : Ending) (w' : World) : Prop :=
  ∃ s r n, e = .returned (.tuple #[.float .f32 s, .float .f32 r]) ∧ w' = w.drewN n ∧ FE .f32 s (fC .add .f32 a b) ∧
    FE .f32 r (fC .add .f32 (fC .sub .f32 a (fC .sub .f32 (fC .add .f32 a b) (fC .sub .f32 (fC .add .f32 a b) a))) (fC .sub .f32 b (fC .sub .f32 (fC .add .f32 a b) a)))

/-- 1 divided by what is no NaN. -/
theorem quo_one {a : Nat} (h : nanB .f64 a = false) : ∃ r, floatBits .quo .f64 4607182418800017408 a = some r := by
  have h1 : Ieee.double.read 4607182418800017408 = .number false 4503599627370496 (-52) := by decide +kernel
  simp only [floatBits, Ieee.Format.div, FloatKind.format, h1]
  unfold nanB FloatKind.decode FloatKind.format at h
  simp only [] at h
  cases hd : Ieee.double.read a with
  | number t n j =>
    simp only [Ieee.Datum.quotient]
    by_cases hn : n = 0
    · subst hn; exact ⟨_, rfl⟩
    · rw [if_neg hn]; exact ⟨_, rfl⟩
  | infinity s => exact ⟨_, rfl⟩
  | nan s t => rw [hd] at h; simp [Ieee.Datum.isNaN] at h

def SaysTrue (w : World) (e : Ending) (w' : World) : Prop := ∃ n, e = .returned (.bool true) ∧ w' = w.drewN n

/-- Half of x, twice, is not x. -/
def lossB (x : Nat) : Bool := FloatKind.f32.format.order (fC .mul .f32 (fC .quo .f32 x 1073741824) 1073741824) x != some .eq

/-- A float comes back, and nothing is written. -/
def GivesF (w : World) (k : FloatKind) (b : Nat) (e : Ending) (w' : World) : Prop := ∃ r m, e = .returned (.float k r) ∧ w' = w.drewN m ∧ FE k r b

/-- k times halved. -/
def halves (x : Nat) : Nat → Nat
  | 0 => x
  | k + 1 => fC .quo .f32 (halves x k) 1073741824
end
section
open Go.RowKit

/-- A slice of floats that reads as a list of their bits; nil is let in. -/
def HasF (w : World) (v : Value) (xs : List Nat) : Prop :=
  ∃ (A : Option Addr) (cap : Nat), v = .slice A xs.length cap ∧ xs.length ≤ cap ∧
    (0 < xs.length → ∃ b off, A = some ⟨b, off, none⟩ ∧ ∀ j, j < xs.length → w.cell? ⟨b, off + j, none⟩ = some (.float .f32 (xs.getD j 0)))

def sumF (xs : List Nat) : Nat := xs.foldl (fC .add .f32) 0
def sumD (xs : List Nat) : Nat := xs.foldl (fun s x => fC .add .f64 s (widC x)) 0
def steady (xs : List Nat) : Nat × Nat :=
  xs.foldl (fun p x => (fC .add .f32 p.1 (fC .sub .f32 x p.2), fC .sub .f32 (fC .sub .f32 (fC .add .f32 p.1 (fC .sub .f32 x p.2)) p.1) (fC .sub .f32 x p.2))) (0, 0)
def steadyF (xs : List Nat) : Nat := (steady xs).1

theorem foldl_step {α : Type} (f : α → Nat → α) (s : α) (xs : List Nat) (k : Nat) (h : k < xs.length) : (xs.take (k + 1)).foldl f s = f ((xs.take k).foldl f s) (xs.getD k 0) := by
  rw [List.take_succ_eq_append_getElem h, List.foldl_append]
  simp [List.getD_eq_getElem?_getD, List.getElem?_eq_getElem h]
theorem sumF_step (xs : List Nat) (k : Nat) (h : k < xs.length) : sumF (xs.take (k + 1)) = fC .add .f32 (sumF (xs.take k)) (xs.getD k 0) := foldl_step _ _ _ _ h
theorem sumD_step (xs : List Nat) (k : Nat) (h : k < xs.length) : sumD (xs.take (k + 1)) = fC .add .f64 (sumD (xs.take k)) (widC (xs.getD k 0)) := foldl_step _ _ _ _ h
theorem steady_step (xs : List Nat) (k : Nat) (h : k < xs.length) : steady (xs.take (k + 1)) =
    (fC .add .f32 (steady (xs.take k)).1 (fC .sub .f32 (xs.getD k 0) (steady (xs.take k)).2),
      fC .sub .f32 (fC .sub .f32 (fC .add .f32 (steady (xs.take k)).1 (fC .sub .f32 (xs.getD k 0) (steady (xs.take k)).2)) (steady (xs.take k)).1) (fC .sub .f32 (xs.getD k 0) (steady (xs.take k)).2)) := foldl_step _ _ _ _ h

set_option maxHeartbeats 400000 in
theorem impl_sumForward (xs : List Nat) (v : Value) (w : World) (hx : HasF w v xs) (hlen : xs.length ≤ 1048576) :
    Calls Try.prog 5 #[v] w (GivesF w .f32 (sumF xs)) := by
  obtain ⟨A, cap, rfl, hcap, hc⟩ := hx
  obtain ⟨len, hl⟩ : ∃ len, len = xs.length := ⟨_, rfl⟩
  have HL := Lib.hid hl
  rw [← hl] at hlen hcap hc ⊢
  clear hl
  have HC := Lib.hid hc; clear hc
  go_enter Try.func5, Try.ntmps5
  go_wp2
  go_loopw [3, 8] (fun s i wr => ∃ (k r m : Nat), k ≤ len ∧ i = .int .i64 k ∧ s = .float .f32 r ∧ FE .f32 r (sumF (xs.take k)) ∧ wr = w.drewN m) (fun _ i _ => len - (intOf i).toNat)
  case atStart => exact ⟨0, 0, 0, Nat.zero_le _, rfl, rfl, FE.refl _ _, rfl⟩
  case round =>
    obtain ⟨k, r, m, hk, rfl, rfl, hr, rfl⟩ := hrel
    by_cases hlt : k < len
    · obtain ⟨b, off, rfl, hcell⟩ := HC.out (by omega)
      have hck := hcell k hlt
      have Hs := Lib.hid (sumF_step xs k (by have := HL.out; omega))
      clear hcell
      go_wp2
      go_roundw
      case rel => exact ⟨k + 1, _, _, by omega, by go_num, rfl, by rw [Hs.out]; exact FE.arC _ hr (FE.refl _ _), rfl⟩
      case measure => simp [intOf]; omega
    · have hke : k = len := by omega
      have Hk := Lib.hid hke; clear hke
      go_wp2
      go_ret
      refine ⟨_, _, rfl, rfl, ?_⟩
      rw [Hk.out, HL.out, List.take_length] at hr
      exact hr

set_option maxHeartbeats 400000 in
theorem impl_sumDouble (xs : List Nat) (v : Value) (w : World) (hx : HasF w v xs) (hlen : xs.length ≤ 1048576) :
    Calls Try.prog 7 #[v] w (GivesF w .f64 (sumD xs)) := by
  obtain ⟨A, cap, rfl, hcap, hc⟩ := hx
  obtain ⟨len, hl⟩ : ∃ len, len = xs.length := ⟨_, rfl⟩
  have HL := Lib.hid hl
  rw [← hl] at hlen hcap hc ⊢
  clear hl
  have HC := Lib.hid hc; clear hc
  go_enter Try.func7, Try.ntmps7
  go_wp2
  go_loopw [3, 8] (fun s i wr => ∃ (k r m : Nat), k ≤ len ∧ i = .int .i64 k ∧ s = .float .f64 r ∧ FE .f64 r (sumD (xs.take k)) ∧ wr = w.drewN m) (fun _ i _ => len - (intOf i).toNat)
  case atStart => exact ⟨0, 0, 0, Nat.zero_le _, rfl, rfl, FE.refl _ _, rfl⟩
  case round =>
    obtain ⟨k, r, m, hk, rfl, rfl, hr, rfl⟩ := hrel
    by_cases hlt : k < len
    · obtain ⟨b, off, rfl, hcell⟩ := HC.out (by omega)
      have hck := hcell k hlt
      have Hs := Lib.hid (sumD_step xs k (by have := HL.out; omega))
      clear hcell
      go_wp2
      go_roundw
      case rel => exact ⟨k + 1, _, _, by omega, by go_num, rfl, by rw [Hs.out]; exact FE.arC _ hr (FE.widC _ (FE.refl _ _)), rfl⟩
      case measure => simp [intOf]; omega
    · have hke : k = len := by omega
      have Hk := Lib.hid hke; clear hke
      go_wp2
      go_ret
      refine ⟨_, _, rfl, rfl, ?_⟩
      rw [Hk.out, HL.out, List.take_length] at hr
      exact hr

set_option maxHeartbeats 400000 in
theorem impl_sumSteady (xs : List Nat) (v : Value) (w : World) (hx : HasF w v xs) (hlen : xs.length ≤ 1048576) :
    Calls Try.prog 6 #[v] w (GivesF w .f32 (steadyF xs)) := by
  obtain ⟨A, cap, rfl, hcap, hc⟩ := hx
  obtain ⟨len, hl⟩ : ∃ len, len = xs.length := ⟨_, rfl⟩
  have HL := Lib.hid hl
  rw [← hl] at hlen hcap hc ⊢
  clear hl
  have HC := Lib.hid hc; clear hc
  go_enter Try.func6, Try.ntmps6
  go_wp2
  go_loopw [3, 4, 11] (fun s c i wr => ∃ (k r q m : Nat), k ≤ len ∧ i = .int .i64 k ∧ s = .float .f32 r ∧ c = .float .f32 q ∧ FE .f32 r (steady (xs.take k)).1 ∧ FE .f32 q (steady (xs.take k)).2 ∧ wr = w.drewN m) (fun _ _ i _ => len - (intOf i).toNat)
  case atStart => exact ⟨0, 0, 0, 0, Nat.zero_le _, rfl, rfl, rfl, FE.refl _ _, FE.refl _ _, rfl⟩
  case round =>
    obtain ⟨k, r, q, m, hk, rfl, rfl, rfl, hr, hq, rfl⟩ := hrel
    by_cases hlt : k < len
    · obtain ⟨b, off, rfl, hcell⟩ := HC.out (by omega)
      have hck := hcell k hlt
      have Hs := Lib.hid (steady_step xs k (by have := HL.out; omega))
      clear hcell
      go_wp2
      go_roundw
      case rel => refine ⟨k + 1, _, _, _, by omega, by go_num, rfl, rfl, ?_, ?_, rfl⟩ <;> rw [Hs.out] <;> repeat' first | exact hr | exact hq | exact FE.refl _ _ | refine FE.arC _ ?_ ?_
      case measure => simp [intOf]; omega
    · have hke : k = len := by omega
      have Hk := Lib.hid hke; clear hke
      go_wp2
      go_ret
      refine ⟨_, _, rfl, rfl, ?_⟩
      rw [Hk.out, HL.out, List.take_length] at hr
      exact hr
end
end Go.Proofs.Ytghekafjccfjcaa
