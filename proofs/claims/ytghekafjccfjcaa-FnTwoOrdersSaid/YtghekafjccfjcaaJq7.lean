/- IsSubnormal and FlushSmall. -/
import Derived.Test.YtghekafjccfjcaaJq6
namespace Go.Proofs.Ytghekafjccfjcaa
open Ieee Go.RowKit

/-- A bool comes back, and nothing is written. -/
def GivesB (w : World) (b : Bool) (e : Ending) (w' : World) : Prop := ∃ n, e = .returned (.bool b) ∧ w' = w.drewN n

set_option maxHeartbeats 400000 in
theorem impl_isSubnormal (x : Nat) (w : World) : Calls Try.prog 74 #[.float .f32 x] w (GivesB w (subB x)) := by
  have hs := sub_impl x
  rw [← hs]
  clear hs
  cases h1 : (FloatKind.f32.format.order x 0 != some .eq) <;> cases h2 : (FloatKind.f32.format.order 2155872256 x == some .lt) <;> cases h3 : (FloatKind.f32.format.order x 8388608 == some .lt)
  all_goals
    have h1' : (Ieee.single.order x 0 != some .eq) = _ := h1
    have h2' : (Ieee.single.order 2155872256 x == some .lt) = _ := h2
    have h3' : (Ieee.single.order x 8388608 == some .lt) = _ := h3
    rw [h1', h2', h3']
    clear h1' h2' h3'
    go_enter Try.func74, Try.ntmps74
    go_wp2
    go_ret
    exact ⟨0, rfl, rfl⟩

/-- The sign alone. -/
def zeroOf (x : Nat) : Nat := if negOf Ieee.single x then 2147483648 else 0

theorem isU_zero (s : Bool) : isU Ieee.single (if s then 2147483648 else 0) s 0 := by
  refine ⟨0, ?_, by rw [s_inf]; omega, by decide +kernel⟩
  cases s <;> decide +kernel

/-- A subnormal number times 0. -/
theorem sub_times_zero {x : Nat} (w : World) (h : subB x = true) : fAr .mul .f32 x 0 w = zeroOf x := by
  unfold subB at h
  rw [decide_eq_true_eq] at h
  have hr : rungOf Ieee.single x < Ieee.single.infRung := by rw [s_inf]; omega
  obtain ⟨m, e, hx, hu⟩ := read_fin Ieee.single hr
  have h0 : Ieee.single.read 0 = .number false 0 (-149) := by decide +kernel
  have hp : Ieee.single.mul x 0 = some (zeroOf x) := by
    unfold Ieee.Format.mul
    rw [hx, h0]
    simp only [Ieee.Datum.product, Option.map_some, Ieee.Format.write, Nat.mul_zero, Bool.xor_false]
    refine congrArg some ?_
    unfold zeroOf Ieee.Format.nearest
    rw [if_pos rfl]
    cases negOf Ieee.single x <;> rfl
  unfold fAr
  simp only [floatBits, FloatKind.format, hp]

theorem and_two31 (x : Nat) : x &&& 2 ^ 31 = if x.testBit 31 then 2 ^ 31 else 0 := by
  apply Nat.eq_of_testBit_eq
  intro i
  rw [Nat.testBit_and, Nat.testBit_two_pow]
  by_cases h : 31 = i
  · subst h
    have h31 : Nat.testBit (2 ^ 31) 31 = true := by decide +kernel
    cases x.testBit 31
    · simp
    · rw [if_pos rfl, h31]; rfl
  · have : decide (31 = i) = false := by simpa using h
    rw [this, Bool.and_false]
    cases x.testBit 31
    · simp
    · rw [if_pos rfl, Nat.testBit_two_pow, this]

theorem and_sign (x : Nat) : x &&& 2147483648 = zeroOf x := by
  have h := and_two31 x
  unfold zeroOf negOf
  rw [s_sw]
  have a1 : (x / 2147483648 % 2 == 1) = x.testBit 31 := by
    rw [Nat.testBit_eq_decide_div_mod_eq]
    rw [Bool.eq_iff_iff]; simp
  rw [a1]
  exact h

theorem run_float32bits (x : Nat) (w : World) : (callFunc 42 #[.float .f32 x]).run Try.prog w = .ok (.value (.int .u32 x)) w :=
  (run_callFunc_extern (P := Try.prog) (f := 42) (fn := Try.f42) (e := Extern.MathFloatBits.float32bits) Try.func42 (by kernel_rfl) (by kernel_rfl) (by kernel_rfl) (by kernel_rfl) #[.float .f32 x] w).trans rfl
theorem run_float32frombits (n : Int) (w : World) : (callFunc 75 #[.int .u32 n]).run Try.prog w = .ok (.value (.float .f32 n.toNat)) w :=
  (run_callFunc_extern (P := Try.prog) (f := 75) (fn := Try.f75) (e := Extern.MathFloatBits.float32frombits) Try.func75 (by kernel_rfl) (by kernel_rfl) (by kernel_rfl) (by kernel_rfl) #[.int .u32 n] w).trans rfl

theorem bits_and_u32 (a b : Nat) (ha : a < 4294967296) (hb : b < 4294967296) : bits .and .u32 (a : Int) (b : Int) = ((a &&& b : Nat) : Int) :=
  (bits_nat .u32 32 (by decide) (fun n h0 h1 => by rw [IntKind.wrap_u32]; omega) a b (by omega) (by omega)).1
theorem bits_or_u32 (a b : Nat) (ha : a < 4294967296) (hb : b < 4294967296) : bits .or .u32 (a : Int) (b : Int) = ((a ||| b : Nat) : Int) :=
  (bits_nat .u32 32 (by decide) (fun n h0 h1 => by rw [IntKind.wrap_u32]; omega) a b (by omega) (by omega)).2
theorem bits_sign (x : Nat) (hx : x < 4294967296) : (bits .and .u32 (x : Int) 2147483648).toNat = zeroOf x := by
  have h := bits_and_u32 x 2147483648 hx (by omega)
  rw [and_sign] at h
  have e : ((2147483648 : Nat) : Int) = 2147483648 := rfl
  rw [e] at h
  rw [h]
  rfl

/-- What is flushed. -/
def flushB (x : Nat) : Nat := if subB x then zeroOf x else x

set_option maxHeartbeats 400000 in
theorem impl_flushSmall (x : Nat) (hx : x < 4294967296) (w : World) : Calls Try.prog 73 #[.float .f32 x] w (GivesF w .f32 (flushB x)) := by
  have hb := run_float32bits x
  have hfb := fun n : Int => run_float32frombits n
  go_enter Try.func73, Try.ntmps73
  go_wp2_with fail
  refine (impl_isSubnormal x _).mono ?_
  rintro _ _ ⟨n, rfl, rfl⟩
  cases hs : subB x with
  | true =>
    have hf : flushB x = zeroOf x := by unfold flushB; rw [hs]; rfl
    go_wp2_with fail
    go_ret
    refine ⟨_, _, rfl, rfl, ?_⟩
    rw [hf, bits_sign x hx]
    exact FE.refl _ _
  | false =>
    have hf : flushB x = x := by unfold flushB; rw [hs]; rfl
    go_wp2_with fail
    go_ret
    refine ⟨_, _, rfl, rfl, ?_⟩
    rw [hf]
    exact FE.refl _ _

theorem f32_lt {x : Nat} (h : (Lit.float .f32 x).wf = true) : x < 4294967296 := by
  simpa [Lit.wf] using h
end Go.Proofs.Ytghekafjccfjcaa
