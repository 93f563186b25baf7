import Derived.Test.YtgbmlkfdojiaoaaRows
import Derived.Test.YtgbmlkfdojiaoaaFlt
import Derived.WalkKit
import Derived.WalkSpells
import Derived.WalkLawsBesides
import Derived.Lib.Hide
namespace Go.Proofs.Ytgbmlkfdojiaoaa
open Go.RowKit

def SumTwo (a b : Nat) (w : World) (e : Ending) (w' : World) : Prop :=
  ∃ s r n, e = .returned (.tuple #[.float .f32 s, .float .f32 r]) ∧ w' = w.drewN n ∧ FE .f32 s (fC .add .f32 a b) ∧
    FE .f32 r (fC .add .f32 (fC .sub .f32 a (fC .sub .f32 (fC .add .f32 a b) (fC .sub .f32 (fC .add .f32 a b) a))) (fC .sub .f32 b (fC .sub .f32 (fC .add .f32 a b) a)))

set_option maxHeartbeats 400000 in
theorem impl_twoSum (a b : Nat) (w : World) : Calls Try.prog 27 #[.float .f32 a, .float .f32 b] w (SumTwo a b w) := by
  go_enter Try.func27, Try.ntmps27
  go_wp2
  go_ret2
  refine ⟨_, _, _, rfl, rfl, ?_, ?_⟩ <;> repeat' first | exact FE.refl _ _ | refine FE.arC _ ?_ ?_

set_option maxHeartbeats 400000 in
theorem spec_twoSum (a b : Nat) (w : World) : Calls Try.prog 48 #[.float .f32 a, .float .f32 b] w (SumTwo a b w) := by
  go_enter Try.func48, Try.ntmps48
  go_wp2
  go_ret2
  refine ⟨_, _, _, rfl, rfl, ?_, ?_⟩ <;> repeat' first | exact FE.refl _ _ | refine FE.arC _ ?_ ?_

/-- 1 divided by what is no NaN. -/
theorem quo_one {a : Nat} (h : nanB .f64 a = false) : ∃ r, floatBits .quo .f64 4607182418800017408 a = some r := by
  have h1 : Ieee.double.read 4607182418800017408 = .number false 4503599627370496 (-52) := by decide +kernel
  simp only [floatBits, Ieee.Format.div, FloatKind.format, h1]
  unfold nanB FloatKind.decode FloatKind.format at h
  simp only [] at h
  cases hd : Ieee.double.read a with
  | number t n j =>
    simp only [Ieee.Datum.quotient]
    by_cases hn : n = 0
    · subst hn; exact ⟨_, rfl⟩
    · rw [if_neg hn]; exact ⟨_, rfl⟩
  | infinity s => exact ⟨_, rfl⟩
  | nan s t => rw [hd] at h; simp [Ieee.Datum.isNaN] at h

def SaysTrue (w : World) (e : Ending) (w' : World) : Prop := ∃ n, e = .returned (.bool true) ∧ w' = w.drewN n

set_option maxHeartbeats 400000 in
theorem sameFloat_true (a b : Nat) (w : World) (h : FE .f64 a b) : Calls Try.prog 37 #[.float .f64 a, .float .f64 b] w (SaysTrue w) := by
  cases hn : nanB .f64 a with
  | true =>
    have hb : nanB .f64 b = true := by
      rcases h with rfl | ⟨_, h2⟩
      · exact hn
      · exact h2
    have ha1 := order_nan_left (k := .f64) (y := a) hn
    have hb1 := order_nan_left (k := .f64) (y := b) hb
    clear h hn hb
    go_enter Try.func37, Try.ntmps37
    go_wp2
    go_ret
    exact ⟨0, rfl, rfl⟩
  | false =>
    have hab : a = b := by
      rcases h with rfl | ⟨h1, _⟩
      · rfl
      · rw [hn] at h1; cases h1
    subst hab
    have ha1 : FloatKind.f64.format.order a a = some .eq := by rw [order_self, hn]; rfl
    obtain ⟨r, hr⟩ := quo_one hn
    have hq : ∀ w, fAr .quo .f64 4607182418800017408 a w = r := by intro w; simp [fAr, hr]
    clear h hn hr
    by_cases hz : FloatKind.f64.format.order a 0 = some .eq
    · go_enter Try.func37, Try.ntmps37
      go_wp2
      go_ret
      exact ⟨_, rfl, rfl⟩
    · have hz2 : (FloatKind.f64.format.order a 0 == some .eq) = false := by simpa using hz
      go_enter Try.func37, Try.ntmps37
      go_wp2
      go_ret
      exact ⟨0, rfl, rfl⟩

/-- Half of x, twice, is not x. -/
def lossB (x : Nat) : Bool := FloatKind.f32.format.order (fC .mul .f32 (fC .quo .f32 x 1073741824) 1073741824) x != some .eq

set_option maxHeartbeats 400000 in
theorem impl_losesHalf (x : Nat) (w : World) : Calls Try.prog 23 #[.float .f32 x] w fun e w' => ∃ n, e = .returned (.bool (lossB x)) ∧ w' = w.drewN n := by
  go_enter Try.func23, Try.ntmps23
  go_wp2
  go_ret
  refine ⟨_, ?_, rfl⟩
  unfold lossB
  show Ending.returned (.bool _) = _
  rw [FE.order (FE.arC _ (FE.arC _ (FE.refl _ _) (FE.refl _ _)) (FE.refl _ _)) (FE.refl _ _)]

set_option maxHeartbeats 400000 in
theorem spec_losesHalf (x : Nat) (w : World) : Calls Try.prog 47 #[.float .f32 x] w fun e w' => ∃ n, e = .returned (.bool (lossB x)) ∧ w' = w.drewN n := by
  go_enter Try.func47, Try.ntmps47
  go_wp2
  go_ret
  refine ⟨_, ?_, rfl⟩
  unfold lossB
  show Ending.returned (.bool _) = _
  rw [FE.order (FE.arC _ (FE.arC _ (FE.refl _ _) (FE.refl _ _)) (FE.refl _ _)) (FE.refl _ _)]

/-- A float comes back, and nothing is written. -/
def GivesF (w : World) (k : FloatKind) (b : Nat) (e : Ending) (w' : World) : Prop := ∃ r m, e = .returned (.float k r) ∧ w' = w.drewN m ∧ FE k r b

/-- k times halved. -/
def halves (x : Nat) : Nat → Nat
  | 0 => x
  | k + 1 => fC .quo .f32 (halves x k) 1073741824

set_option maxHeartbeats 400000 in
theorem impl_halveSingle (x : Nat) (n : Int) (w : World) (h1 : -9223372036854775808 ≤ n) (h2 : n ≤ 9223372036854775807) :
    Calls Try.prog 25 #[.float .f32 x, .int .i64 n] w (GivesF w .f32 (halves x (min n 400).toNat)) := by
  by_cases hn : n ≤ 400
  · have hK : (min n 400).toNat = n.toNat := by omega
    rw [hK]; clear hK
    go_enter Try.func25, Try.ntmps25
    go_wp2
    go_loopw [0, 7] (fun v i wr => ∃ (k : Nat) (r m : Nat), k ≤ n.toNat ∧ i = .int .i64 k ∧ v = .float .f32 r ∧ FE .f32 r (halves x k) ∧ wr = w.drewN m) (fun _ i _ => n.toNat - (intOf i).toNat)
    case atStart => exact ⟨0, x, 0, Nat.zero_le _, rfl, rfl, FE.refl _ _, rfl⟩
    case round =>
      obtain ⟨k, r, m, hk, rfl, rfl, hr, rfl⟩ := hrel
      by_cases hlt : (k : Int) < n
      · have hk1 : k + 1 ≤ n.toNat := by omega
        go_wp2
        go_roundw
        case rel => exact ⟨k + 1, _, _, hk1, by go_num, rfl, FE.arC _ hr (FE.refl _ _), rfl⟩
        case measure => simp [intOf]; omega
      · have hk1 : k = n.toNat := by omega
        have Hk := Lib.hid hk1; clear hk1
        go_wp2
        go_ret
        exact ⟨_, _, rfl, rfl, by rw [← Hk.out]; exact hr⟩
  · have hK : (min n 400).toNat = 400 := by omega
    rw [hK]; clear hK
    have hn2 : 400 < n := by omega
    clear hn
    go_enter Try.func25, Try.ntmps25
    go_wp2
    go_loopw [0, 7] (fun v i wr => ∃ (k : Nat) (r m : Nat), k ≤ 400 ∧ i = .int .i64 k ∧ v = .float .f32 r ∧ FE .f32 r (halves x k) ∧ wr = w.drewN m) (fun _ i _ => 400 - (intOf i).toNat)
    case atStart => exact ⟨0, x, 0, Nat.zero_le _, rfl, rfl, FE.refl _ _, rfl⟩
    case round =>
      obtain ⟨k, r, m, hk, rfl, rfl, hr, rfl⟩ := hrel
      by_cases hlt : (k : Int) < 400
      · have hk1 : k + 1 ≤ 400 := by omega
        go_wp2
        go_roundw
        case rel => exact ⟨k + 1, _, _, hk1, by go_num, rfl, FE.arC _ hr (FE.refl _ _), rfl⟩
        case measure => simp [intOf]; omega
      · have hk1 : k = 400 := by omega
        subst hk1
        go_wp2
        go_ret
        exact ⟨_, _, rfl, rfl, hr⟩

set_option maxHeartbeats 400000 in
theorem spec_halveSingle (x : Nat) (n : Int) (w : World) (h1 : -9223372036854775808 ≤ n) (h2 : n ≤ 9223372036854775807) :
    Calls Try.prog 46 #[.float .f32 x, .int .i64 n] w (GivesF w .f32 (halves x (min n 400).toNat)) := by
  go_enter Try.func46, Try.ntmps46
  go_wp2
  go_loopw [0, 5] (fun v i wr => ∃ (k : Nat) (r m : Nat), k ≤ (min n 400).toNat ∧ i = .int .i64 k ∧ v = .float .f32 r ∧ FE .f32 r (halves x k) ∧ wr = w.drewN m) (fun _ i _ => (min n 400).toNat - (intOf i).toNat)
  case atStart => exact ⟨0, x, 0, Nat.zero_le _, rfl, rfl, FE.refl _ _, rfl⟩
  case round =>
    obtain ⟨k, r, m, hk, rfl, rfl, hr, rfl⟩ := hrel
    by_cases hlt : (k : Int) < n
    · by_cases hlt2 : (k : Int) < 400
      · have hk1 : k + 1 ≤ (min n 400).toNat := by omega
        have Hm : Hid (k < (min n 400).toNat) := by unfold Hid; omega
        go_wp2
        go_roundw
        case rel => exact ⟨k + 1, _, _, hk1, by go_num, rfl, FE.arC _ hr (FE.refl _ _), rfl⟩
        case measure => have := Hm.out; simp only [intOf]; omega
      · have hk1 : k = (min n 400).toNat := by omega
        have Hk := Lib.hid hk1; clear hk1
        go_wp2
        go_ret
        exact ⟨_, _, rfl, rfl, by rw [← Hk.out]; exact hr⟩
    · have hk1 : k = (min n 400).toNat := by omega
      have Hk := Lib.hid hk1; clear hk1
      go_wp2
      go_ret
      exact ⟨_, _, rfl, rfl, by rw [← Hk.out]; exact hr⟩
end Go.Proofs.Ytgbmlkfdojiaoaa
