/- Mixers are told, and reset. -/
import Derived.Test.YtdmahikaajdkgaaJb40
import Derived.Test.YtdmahikaajdkgaaJb35
import Derived.Outline
namespace Go.Proofs.Ytdmahikaajdkgaa
open Go.RowKit

theorem call_mixer_tell (v : Value) (w : World) : (method 340 154 v "loop.example/g03223/impl.tell").run Try.prog w = .ok (164, v) w := by kernel_rfl
theorem call_mixer_reset (v : Value) (w : World) : (method 340 154 v "loop.example/g03223/impl.reset").run Try.prog w = .ok (162, v) w := by kernel_rfl
theorem field_mixer_2 (a : Addr) (w : World) : (Instr.field 97 (.agg #[.iface 154 (.pointer (some a)), .iface 154 (.pointer (some a)), .iface 154 (.pointer (some a))]) 2).run Try.prog w = .ok (.iface 154 (.pointer (some a))) w := by kernel_rfl
theorem field_mixer_0 (a : Addr) (w : World) : (Instr.field 97 (.agg #[.iface 154 (.pointer (some a)), .iface 154 (.pointer (some a)), .iface 154 (.pointer (some a))]) 0).run Try.prog w = .ok (.iface 154 (.pointer (some a))) w := by kernel_rfl

theorem mixer_tell (b t1 t2 s1 s2 : Nat) (w : World) (hx : Bx b #[.complex .f32 t1 t2, .complex .f32 s1 s2] w) :
    Calls Try.prog 164 #[.pointer (some ⟨b, 0, none⟩)] w fun e w' => e = .returned (.complex .f32 s1 s2) ∧ w = w' := by
  have cx := hx.cells
  clear hx
  go_enter Try.func164, Try.ntmps164
  go_wp2_with fail
  go_ret
  exact ⟨rfl, rfl⟩

theorem mixer_reset (b t1 t2 s1 s2 : Nat) (w : World) (hx : Bx b #[.complex .f32 t1 t2, .complex .f32 s1 s2] w) :
    Calls Try.prog 162 #[.pointer (some ⟨b, 0, none⟩)] w fun e w' => e = .returned (.tuple #[]) ∧ Bx b #[.complex .f32 t1 t2, .complex .f32 1065353216 0] w' ∧ Span b (b + 1) w w' := by
  have cx := hx.cells
  have fx := hx.thaw
  have HX := Lib.hid hx
  clear hx
  go_enter Try.func162, Try.ntmps162
  go_wp2_with fail
  refine bodyPost_end (v := .tuple #[]) (by simp [results, Try.results162, go_sem]) rfl ⟨rfl, ?_, (Span.refl b (b + 1) w).setCell (p := ⟨b, 1, none⟩) (.inl ⟨Nat.le_refl _, Nat.lt_succ_self _⟩) _⟩
  have := HX.out.set 1 (.complex .f32 1065353216 0) (by simp)
  simpa using this

set_option maxRecDepth 100000 in
set_option maxHeartbeats 4000000 in
theorem tellModule_mixer (t1 t2 s1 s2 : Nat) (w : World) :
    Calls Try.prog 21 #[.agg #[.int .i64 2, .complex .f32 t1 t2, .complex .f32 s1 s2, .float .f32 0, .slice none 0 0, .int .i64 0, .int .i64 0, .slice none 0 0, .slice none 0 0, .int .i64 0, .int .i64 0]] w fun e w' => e = .returned (.tuple #[.complex .f32 s1 s2, .bool true]) ∧ Span 0 0 w w' := by
  have cm1 := call_mixer_tell
  have cf := field_mixer_2
  have VU := Lib.hid (validUnit_mixer t1 t2 s1 s2)
  go_enter Try.func21, Try.ntmps21
  go_wp2_with fail
  refine (VU.out _).mono ?_
  rintro _ w1 ⟨b, rfl, x1, _, sp1⟩
  have X1 := Lib.hid x1
  have S1 := Lib.hid (((Span.refl 0 0 w).alloc (.cells #[.int .i64 2, .complex .f32 t1 t2, .complex .f32 s1 s2, .float .f32 0, .slice none 0 0, .int .i64 0, .int .i64 0, .slice none 0 0, .slice none 0 0, .int .i64 0, .int .i64 0] 35)).trans sp1)
  clear sp1 x1
  go_wp2_with fail
  refine (powersOf_2 _ _).mono ?_
  rintro _ w2 ⟨rfl, sp2⟩
  have X2 := Lib.hid (X1.out.keep sp2)
  have S2 := Lib.hid (S1.out.trans sp2)
  clear sp2
  go_wp2_with fail
  refine (mixer_tell b t1 t2 s1 s2 _ X2.out).mono ?_
  rintro _ _ ⟨rfl, rfl⟩
  go_wp2_with fail
  go_ret2
  exact ⟨rfl, S2.out⟩

set_option maxRecDepth 100000 in
set_option maxHeartbeats 4000000 in
theorem resetModule_mixer (t1 t2 s1 s2 : Nat) (w : World) :
    Calls Try.prog 20 #[.agg #[.int .i64 2, .complex .f32 t1 t2, .complex .f32 s1 s2, .float .f32 0, .slice none 0 0, .int .i64 0, .int .i64 0, .slice none 0 0, .slice none 0 0, .int .i64 0, .int .i64 0]] w fun e w' => e = .returned (.tuple #[.agg #[.int .i64 2, .complex .f32 t1 t2, .complex .f32 1065353216 0, .float .f32 0, .slice none 0 0, .int .i64 0, .int .i64 0, .slice none 0 0, .slice none 0 0, .int .i64 0, .int .i64 0], .bool true]) ∧ Span 0 0 w w' := by
  have cm1 := call_mixer_reset
  have cm2 := call_mixer_module
  have cf := field_mixer_0
  have VU := Lib.hid (validUnit_mixer t1 t2 s1 s2)
  go_enter Try.func20, Try.ntmps20
  go_wp2_with fail
  refine (VU.out _).mono ?_
  rintro _ w1 ⟨b, rfl, x1, k1, sp1⟩
  have Y := (Bx.new (w.alloc (.cells #[.int .i64 2, .complex .f32 t1 t2, .complex .f32 s1 s2, .float .f32 0, .slice none 0 0, .int .i64 0, .int .i64 0, .slice none 0 0, .slice none 0 0, .int .i64 0, .int .i64 0] 35)) #[.int .i64 0, .complex .f32 0 0, .complex .f32 0 0, .float .f32 0, .slice none 0 0, .int .i64 0, .int .i64 0, .slice none 0 0, .slice none 0 0, .int .i64 0, .int .i64 0] 35).keep sp1
  rw [show (w.alloc (.cells #[.int .i64 2, .complex .f32 t1 t2, .complex .f32 s1 s2, .float .f32 0, .slice none 0 0, .int .i64 0, .int .i64 0, .slice none 0 0, .slice none 0 0, .int .i64 0, .int .i64 0] 35)).heap.size = w.heap.size + 1 by simp] at Y
  have S1 := Lib.hid ((((Span.refl 0 0 w).alloc (.cells #[.int .i64 2, .complex .f32 t1 t2, .complex .f32 s1 s2, .float .f32 0, .slice none 0 0, .int .i64 0, .int .i64 0, .slice none 0 0, .slice none 0 0, .int .i64 0, .int .i64 0] 35)).alloc (.cells #[.int .i64 0, .complex .f32 0 0, .complex .f32 0 0, .float .f32 0, .slice none 0 0, .int .i64 0, .int .i64 0, .slice none 0 0, .slice none 0 0, .int .i64 0, .int .i64 0] 35)).trans sp1)
  have h1' : w.heap.size + 2 ≤ b := by have := k1; simp at this; omega
  have X1 := Lib.hid x1
  have Y1 := Lib.hid Y
  have H1 := Lib.hid h1'
  clear sp1 x1 k1 h1' Y
  go_wp2_with fail
  refine (powersOf_2 _ _).mono ?_
  rintro _ w2 ⟨rfl, sp2⟩
  have X2 := Lib.hid (X1.out.keep sp2)
  have Y2 := Lib.hid (Y1.out.keep sp2)
  have S2 := Lib.hid (S1.out.trans sp2)
  clear sp2
  go_wp2_with fail
  refine (mixer_reset b t1 t2 s1 s2 _ X2.out).mono ?_
  rintro _ w3 ⟨rfl, x3, sp3⟩
  have hb := H1.out
  have Y3 := Lib.hid (Y2.out.span sp3 (by omega))
  have S3 := Lib.hid (show Span 0 0 w w3 from ⟨sp3.os.trans S2.out.os, sp3.tape.trans S2.out.tape, sp3.output.trans S2.out.output, Nat.le_trans S2.out.size sp3.size, fun k hk _ => (sp3.block k (Nat.lt_of_lt_of_le hk S2.out.size) (by omega)).trans (S2.out.block k hk (by omega))⟩)
  have X3 := Lib.hid x3
  clear sp3 x3 hb
  go_wp2_with fail
  refine (mixer_module b _ _ _ _ _ X3.out).mono ?_
  rintro _ w4 ⟨rfl, sp4⟩
  have Y4 := Y3.out.keep sp4
  have S4 := Lib.hid (S3.out.trans sp4)
  have cy := Y4.cells
  have fy := Y4.thaw
  have YS := Lib.hid (Y4.set11 (.int .i64 2) (.complex .f32 t1 t2) (.complex .f32 1065353216 0) (.float .f32 0) (.slice none 0 0) (.int .i64 0) (.int .i64 0) (.slice none 0 0) (.slice none 0 0) (.int .i64 0) (.int .i64 0))
  clear sp4 Y4
  go_wp2_with fail
  have d1 := YS.out.cells
  exact bodyPost_ret (v := .tuple #[.agg #[.int .i64 2, .complex .f32 t1 t2, .complex .f32 1065353216 0, .float .f32 0, .slice none 0 0, .int .i64 0, .int .i64 0, .slice none 0 0, .slice none 0 0, .int .i64 0, .int .i64 0], .bool true]) (by simp [results, Try.results20, go_sem, d1]) rfl ⟨rfl, S4.out.set11 (by omega) _ _ _ _ _ _ _ _ _ _ _⟩

end Go.Proofs.Ytdmahikaajdkgaa
