/- Modules of the kind meter: unit, valid, module. -/
import Derived.Test.YtdmahikaajdkgaaJb31
import Derived.Test.YtdmahikaajdkgaaJb32
import Derived.Test.YtdmahikaajdkgaaJb33
import Derived.BigQuiet
import Derived.Outline
namespace Go.Proofs.Ytdmahikaajdkgaa
open Go.RowKit

set_option maxRecDepth 100000 in
theorem unitOf_meter (l : Nat) (w : World) :
    Calls Try.prog 71 #[.agg #[.int .i64 7, .complex .f32 0 0, .complex .f32 0 0, .float .f32 l, .slice none 0 0, .int .i64 0, .int .i64 0, .slice none 0 0, .slice none 0 0, .int .i64 0, .int .i64 0]] w fun e w' => ∃ b, e = .returned (.iface 168 (.pointer (some ⟨b, 0, none⟩))) ∧ Bx b #[.float .f32 l] w' ∧ w.heap.size ≤ b ∧ Span 0 0 w w' := by
  go_enter Try.func71, Try.ntmps71
  go_wp2_with fail
  go_ret
  refine ⟨_, rfl, ?_, ?_, ((Span.refl _ _ _).alloc _).alloc _⟩
  · have := Bx.new (w.alloc (.cells #[.int .i64 7, .complex .f32 0 0, .complex .f32 0 0, .float .f32 l, .slice none 0 0, .int .i64 0, .int .i64 0, .slice none 0 0, .slice none 0 0, .int .i64 0, .int .i64 0] 35)) #[.float .f32 l] 169
    simpa using this
  · omega

theorem call_meter_isValid (v : Value) (w : World) : (method 340 168 v "loop.example/g03223/impl.isValid").run Try.prog w = .ok (190, v) w := by kernel_rfl
theorem call_meter_module (v : Value) (w : World) : (method 340 168 v "loop.example/g03223/impl.module").run Try.prog w = .ok (191, v) w := by kernel_rfl
theorem call_meter_step (v : Value) (w : World) : (method 340 168 v "loop.example/g03223/impl.step").run Try.prog w = .ok (193, v) w := by kernel_rfl

theorem meter_isValid (b : Nat) (l : Nat) (hl : l ≤ 2139095040) (w : World) (hx : Bx b #[.float .f32 l] w) :
    Calls Try.prog 190 #[.pointer (some ⟨b, 0, none⟩)] w (SaysTrue w) := by
  have cx := hx.cells
  have HB := Lib.hid (fun w => (narrow_abs (p := l) (by omega) (size_nan (by unfold sizeB; omega)) w w).1.2 (by omega))
  have ho := order_bits hl (Nat.zero_le 2139095040)
  rcases Nat.eq_zero_or_pos l with h | h
  · rw [(cmp_eq).2 (by omega)] at ho
    clear hl hx h
    go_enter Try.func190, Try.ntmps190
    go_wp2_with fail
    first
      | go_quiet (first | (go_at_call 195; refine Calls.quiet_of_same (signbit_no _ (HB.out _) _)))
      | (refine (signbit_no _ (HB.out _) _).mono ?_; rintro _ _ ⟨rfl, rfl⟩)
    go_wp2_with fail
    go_ret
    exact ⟨_, rfl, rfl⟩
  · rw [(cmp_gt).2 (by omega)] at ho
    clear hl hx h
    go_enter Try.func190, Try.ntmps190
    go_wp2_with fail
    first
      | go_quiet (first | (go_at_call 195; refine Calls.quiet_of_same (signbit_no _ (HB.out _) _)))
      | (refine (signbit_no _ (HB.out _) _).mono ?_; rintro _ _ ⟨rfl, rfl⟩)
    go_wp2_with fail
    go_ret
    exact ⟨_, rfl, rfl⟩

set_option maxRecDepth 100000 in
theorem meter_module (b : Nat) (l : Nat) (w : World) (hx : Bx b #[.float .f32 l] w) :
    Calls Try.prog 191 #[.pointer (some ⟨b, 0, none⟩)] w fun e w' => e = .returned (.agg #[.int .i64 7, .complex .f32 0 0, .complex .f32 0 0, .float .f32 l, .slice none 0 0, .int .i64 0, .int .i64 0, .slice none 0 0, .slice none 0 0, .int .i64 0, .int .i64 0]) ∧ Span 0 0 w w' := by
  have cx := hx.cells
  have ca := hx.cellsA
  clear hx
  go_enter Try.func191, Try.ntmps191
  go_wp2_with fail
  try go_region
  all_goals try go_wp2_with fail
  all_goals exact bodyPost_ret (v := .agg #[.int .i64 7, .complex .f32 0 0, .complex .f32 0 0, .float .f32 l, .slice none 0 0, .int .i64 0, .int .i64 0, .slice none 0 0, .slice none 0 0, .int .i64 0, .int .i64 0]) (by simp [results, Try.results191, go_sem]) rfl ⟨rfl, by first | exact (Span.refl _ _ _).alloc _ | exact ((Span.refl _ _ _).alloc _).drew⟩

theorem ReadM.meter (l : Nat) (w : World) : ReadM w (.agg #[.int .i64 7, .complex .f32 0 0, .complex .f32 0 0, .float .f32 l, .slice none 0 0, .int .i64 0, .int .i64 0, .slice none 0 0, .slice none 0 0, .int .i64 0, .int .i64 0]) ⟨7, (0, 0), (0, 0), l, ⟨[], 0, 0⟩, 0, 0⟩ ([], []) :=
  ⟨_, _, _, 0, 0, 0, rfl, HasS.empty _ _ _ _ _ _ _ _, HasS.empty _ _ _ _ _ _ _ _, HasS.empty _ _ _ _ _ _ _ _⟩

set_option maxRecDepth 100000 in
set_option maxHeartbeats 4000000 in
theorem isModule_meter (l : Nat) (hl : l ≤ 2139095040) (w : World) : Calls Try.prog 70 #[.agg #[.int .i64 7, .complex .f32 0 0, .complex .f32 0 0, .float .f32 l, .slice none 0 0, .int .i64 0, .int .i64 0, .slice none 0 0, .slice none 0 0, .int .i64 0, .int .i64 0]] w (True0 w) := by
  have cm1 := call_meter_isValid
  have cm2 := call_meter_module
  have HI := Lib.hid (fun b w h => meter_isValid b l hl w h)
  clear hl
  go_enter Try.func70, Try.ntmps70
  go_wp2_with fail
  refine (unitOf_meter _ _).mono ?_
  rintro _ w1 ⟨b, rfl, x1, _, s1'⟩
  have B := (Bx.new w #[.int .i64 7, .complex .f32 0 0, .complex .f32 0 0, .float .f32 l, .slice none 0 0, .int .i64 0, .int .i64 0, .slice none 0 0, .slice none 0 0, .int .i64 0, .int .i64 0] 35).keep s1'
  have HS := Lib.hid (((Span.refl 0 0 w).alloc (.cells #[.int .i64 7, .complex .f32 0 0, .complex .f32 0 0, .float .f32 l, .slice none 0 0, .int .i64 0, .int .i64 0, .slice none 0 0, .slice none 0 0, .int .i64 0, .int .i64 0] 35)).trans s1')
  have X1 := Lib.hid x1
  have HB := Lib.hid B
  have c0 := B.cells
  clear s1' x1 B
  go_wp2_with fail
  go_region_with (first
    | (go_at_call 190; go_loud (refine (HI.out _ _ (X1.out.drewN _)).mono ?_; rintro _ _ ⟨m1, rfl, rfl⟩))
    | (go_at_call 191; go_loud (refine (meter_module _ _ _ (X1.out.drewN _)).mono ?_; rintro _ w2 ⟨rfl, s2'⟩; have c0 := ((HB.out.drewN _).keep s2').cells; have HS2 : Hid (Span 0 0 w w2) := (by first | exact HS.out.trans s2' | exact HS.out.trans s2'.undrawn' | exact HS.out.trans (Span.undrawn' (n := 1) s2')); clear s2'))
    | (go_at_call 96; go_loud (refine (sameModules_self _ ([], []) _ _ _ (ReadM.meter _ _) (ReadM.meter _ _) (by simp) (by simp) (by simp)).mono ?_; rintro _ w3 ⟨rfl, s3'⟩; have HS3 : Hid (Span 0 0 w w3) := (by first | exact HS2.out.trans s3' | exact HS2.out.trans s3'.undrawn' | exact HS2.out.trans (Span.undrawn' (n := 1) s3')); clear s3')))
  all_goals go_wp2_with fail
  all_goals go_ret
  all_goals exact ⟨rfl, HS3.out⟩

set_option maxRecDepth 100000 in
set_option maxHeartbeats 4000000 in
theorem validUnit_meter (l : Nat) (hl : l ≤ 2139095040) (w : World) : Calls Try.prog 44 #[.agg #[.int .i64 7, .complex .f32 0 0, .complex .f32 0 0, .float .f32 l, .slice none 0 0, .int .i64 0, .int .i64 0, .slice none 0 0, .slice none 0 0, .int .i64 0, .int .i64 0]] w fun e w' => ∃ b, e = .returned (.iface 168 (.pointer (some ⟨b, 0, none⟩))) ∧ Bx b #[.float .f32 l] w' ∧ w.heap.size ≤ b ∧ Span 0 0 w w' := by
  have HI := Lib.hid (fun w => isModule_meter l hl w)
  clear hl
  go_enter Try.func44, Try.ntmps44
  go_wp2_with fail
  refine (HI.out _).mono ?_
  rintro _ w1 ⟨rfl, s1'⟩
  have B := (Bx.new w #[.int .i64 7, .complex .f32 0 0, .complex .f32 0 0, .float .f32 l, .slice none 0 0, .int .i64 0, .int .i64 0, .slice none 0 0, .slice none 0 0, .int .i64 0, .int .i64 0] 35).keep s1'
  have S1 := Lib.hid (((Span.refl 0 0 w).alloc (.cells #[.int .i64 7, .complex .f32 0 0, .complex .f32 0 0, .float .f32 l, .slice none 0 0, .int .i64 0, .int .i64 0, .slice none 0 0, .slice none 0 0, .int .i64 0, .int .i64 0] 35)).trans s1')
  have c1 := B.cells
  clear s1' B
  go_wp2_with fail
  refine (copyModule_nil _ _ _ _ _ _ _ _ _).mono ?_
  rintro _ w2 ⟨rfl, s2'⟩
  have S2 := Lib.hid (S1.out.trans s2')
  clear s2'
  go_wp2_with fail
  refine (unitOf_meter _ _).mono ?_
  rintro _ w3 ⟨b, rfl, x3, h3, s3'⟩
  have X3 := Lib.hid x3
  have S3 := Lib.hid (S2.out.trans s3')
  have H3 := Lib.hid h3
  have z2 := S2.out.size
  have H4 := Lib.hid (show w.heap.size ≤ b by omega)
  clear x3 s3' h3 z2
  go_wp2_with fail
  go_ret
  exact ⟨b, rfl, X3.out, H4.out, S3.out⟩
end Go.Proofs.Ytdmahikaajdkgaa
