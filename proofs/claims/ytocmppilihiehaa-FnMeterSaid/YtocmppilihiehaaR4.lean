/- Sums, meters, gains are made. -/
import Derived.Test.YtocmppilihiehaaR2
import Derived.Outline
namespace Go.Proofs.Ytocmppilihiehaa
open Go.RowKit

def sumM : Md := ⟨5, (0, 0), (0, 0), 0, ⟨[], 0, 0⟩, 0, 0⟩
def meterM : Md := ⟨7, (0, 0), (0, 0), 0, ⟨[], 0, 0⟩, 0, 0⟩
def gainM (n : Nat) : Md := ⟨3, (0, 0), (0, 0), n, ⟨[], 0, 0⟩, 0, 0⟩
theorem sumM_len : sumM.ring.store.length ≤ 16 := by decide
theorem meterM_len : meterM.ring.store.length ≤ 16 := by decide
theorem gainM_len (n : Nat) : (gainM n).ring.store.length ≤ 16 := by simp [gainM]

set_option maxRecDepth 100000 in
theorem impl_newSum (w : World) : Calls Try.prog 25 #[] w (MakesM sumM w) := by
  go_enter Try.func25, Try.ntmps25
  go_wp2_with fail
  exact bodyPost_ret (v := .agg #[.int .i64 5, .complex .f32 0 0, .complex .f32 0 0, .float .f32 0, .slice none 0 0, .int .i64 0, .int .i64 0, .slice none 0 0, .slice none 0 0, .int .i64 0, .int .i64 0]) (by simp [results, Try.results25, go_sem]) rfl ⟨_, rfl, HasM0.plain _ _ _ _ _ (0, 0) (0, 0) _ _ _, (Span.refl _ _ _).alloc _⟩
set_option maxRecDepth 100000 in
theorem spec_newSum (w : World) : Calls Try.prog 44 #[] w (MakesM sumM w) := by
  go_enter Try.func44, Try.ntmps44
  go_wp2_with fail
  exact bodyPost_ret (v := .agg #[.int .i64 5, .complex .f32 0 0, .complex .f32 0 0, .float .f32 0, .slice none 0 0, .int .i64 0, .int .i64 0, .slice none 0 0, .slice none 0 0, .int .i64 0, .int .i64 0]) (by simp [results, Try.results44, go_sem]) rfl ⟨_, rfl, HasM0.plain _ _ _ _ _ (0, 0) (0, 0) _ _ _, (Span.refl _ _ _).alloc _⟩
set_option maxRecDepth 100000 in
theorem impl_newMeter (w : World) : Calls Try.prog 26 #[] w (MakesM meterM w) := by
  go_enter Try.func26, Try.ntmps26
  go_wp2_with fail
  exact bodyPost_ret (v := .agg #[.int .i64 7, .complex .f32 0 0, .complex .f32 0 0, .float .f32 0, .slice none 0 0, .int .i64 0, .int .i64 0, .slice none 0 0, .slice none 0 0, .int .i64 0, .int .i64 0]) (by simp [results, Try.results26, go_sem]) rfl ⟨_, rfl, HasM0.plain _ _ _ _ _ (0, 0) (0, 0) _ _ _, (Span.refl _ _ _).alloc _⟩
set_option maxRecDepth 100000 in
theorem spec_newMeter (w : World) : Calls Try.prog 45 #[] w (MakesM meterM w) := by
  go_enter Try.func45, Try.ntmps45
  go_wp2_with fail
  exact bodyPost_ret (v := .agg #[.int .i64 7, .complex .f32 0 0, .complex .f32 0 0, .float .f32 0, .slice none 0 0, .int .i64 0, .int .i64 0, .slice none 0 0, .slice none 0 0, .int .i64 0, .int .i64 0]) (by simp [results, Try.results45, go_sem]) rfl ⟨_, rfl, HasM0.plain _ _ _ _ _ (0, 0) (0, 0) _ _ _, (Span.refl _ _ _).alloc _⟩
set_option maxRecDepth 100000 in
theorem impl_newGain (n : Nat) (w : World) : Calls Try.prog 29 #[.float .f32 n] w (MakesM (gainM n) w) := by
  go_enter Try.func29, Try.ntmps29
  go_wp2_with fail
  exact bodyPost_ret (v := .agg #[.int .i64 3, .complex .f32 0 0, .complex .f32 0 0, .float .f32 n, .slice none 0 0, .int .i64 0, .int .i64 0, .slice none 0 0, .slice none 0 0, .int .i64 0, .int .i64 0]) (by simp [results, Try.results29, go_sem]) rfl ⟨_, rfl, HasM0.plain _ _ _ _ _ (0, 0) (0, 0) _ _ _, (Span.refl _ _ _).alloc _⟩
set_option maxRecDepth 100000 in
theorem spec_newGain (n : Nat) (w : World) : Calls Try.prog 40 #[.float .f32 n] w (MakesM (gainM n) w) := by
  go_enter Try.func40, Try.ntmps40
  go_wp2_with fail
  exact bodyPost_ret (v := .agg #[.int .i64 3, .complex .f32 0 0, .complex .f32 0 0, .float .f32 n, .slice none 0 0, .int .i64 0, .int .i64 0, .slice none 0 0, .slice none 0 0, .int .i64 0, .int .i64 0]) (by simp [results, Try.results40, go_sem]) rfl ⟨_, rfl, HasM0.plain _ _ _ _ _ (0, 0) (0, 0) _ _ _, (Span.refl _ _ _).alloc _⟩

end Go.Proofs.Ytocmppilihiehaa
