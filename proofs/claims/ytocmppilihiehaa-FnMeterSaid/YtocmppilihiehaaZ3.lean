/- Meters are stepped, and told. -/
import Derived.Test.YtocmppilihiehaaZ2
import Derived.Test.YtocmppilihiehaaW1
import Derived.Outline
namespace Go.Proofs.Ytocmppilihiehaa
open Go.RowKit

theorem meter_step (b l p q : Nat) (hl : l ≤ 2139095040) (hp : p < 4294967296) (hq : q < 4294967296) (w : World) (hx : Bx b #[.float .f32 l] w) :
    Calls Try.prog 158 #[.pointer (some ⟨b, 0, none⟩), .complex .f32 p q] w fun e w' => e = .returned (.complex .f32 p q) ∧ Bx b #[.float .f32 (raiseN (raiseN l p) q)] w' ∧ Span b (b + 1) w w' := by
  have cx := hx.cells
  have ft := hx.thaw
  have HX := Lib.hid hx
  have R1 := Lib.hid (raised_any l p hl hp)
  have R2 := Lib.hid (raised_any (raiseN l p) q (raiseN_le hl) hq)
  clear hl hp hq hx
  go_enter Try.func158, Try.ntmps158
  go_wp2_with fail
  refine (R1.out _).mono ?_
  rintro _ _ ⟨rfl, n1, rfl⟩
  go_wp2_with fail
  refine (R2.out _).mono ?_
  rintro _ _ ⟨rfl, n2, rfl⟩
  go_wp2_with fail
  go_ret
  refine ⟨rfl, ?_, ((Span.refl b (b + 1) w).drewN _).setCell (p := ⟨b, 0, none⟩) (.inl ⟨Nat.le_refl _, Nat.lt_succ_self _⟩) _⟩
  have := (HX.out.drewN (n1 + n2)).set 0 (.float .f32 (raiseN (raiseN l p) q)) (by simp)
  simpa using this

set_option maxRecDepth 100000 in
set_option maxHeartbeats 4000000 in
theorem stepModule_meter (l p q : Nat) (hl : l ≤ 2139095040) (hp : p < 4294967296) (hq : q < 4294967296) (w : World) :
    Calls Try.prog 27 #[.agg #[.int .i64 7, .complex .f32 0 0, .complex .f32 0 0, .float .f32 l, .slice none 0 0, .int .i64 0, .int .i64 0, .slice none 0 0, .slice none 0 0, .int .i64 0, .int .i64 0], .complex .f32 p q] w fun e w' => e = .returned (.tuple #[.agg #[.int .i64 7, .complex .f32 0 0, .complex .f32 0 0, .float .f32 (raiseN (raiseN l p) q), .slice none 0 0, .int .i64 0, .int .i64 0, .slice none 0 0, .slice none 0 0, .int .i64 0, .int .i64 0], .complex .f32 p q, .bool true]) ∧ Span 0 0 w w' := by
  have cm1 := call_meter_step
  have cm2 := call_meter_module
  have VU := Lib.hid (validUnit_meter l hl)
  have ST := Lib.hid (fun b w h => meter_step b l p q hl hp hq w h)
  clear hl hp hq
  go_enter Try.func27, Try.ntmps27
  go_wp2_with fail
  refine (VU.out _).mono ?_
  rintro _ w1 ⟨b, rfl, x1, h1, s1⟩
  have Y := (Bx.new (w.alloc (.cells #[.int .i64 7, .complex .f32 0 0, .complex .f32 0 0, .float .f32 l, .slice none 0 0, .int .i64 0, .int .i64 0, .slice none 0 0, .slice none 0 0, .int .i64 0, .int .i64 0] 44)) #[.int .i64 0, .complex .f32 0 0, .complex .f32 0 0, .float .f32 0, .slice none 0 0, .int .i64 0, .int .i64 0, .slice none 0 0, .slice none 0 0, .int .i64 0, .int .i64 0] 44).keep s1
  rw [show (w.alloc (.cells #[.int .i64 7, .complex .f32 0 0, .complex .f32 0 0, .float .f32 l, .slice none 0 0, .int .i64 0, .int .i64 0, .slice none 0 0, .slice none 0 0, .int .i64 0, .int .i64 0] 44)).heap.size = w.heap.size + 1 by simp] at Y
  have S1 := Lib.hid ((((Span.refl 0 0 w).alloc (.cells #[.int .i64 7, .complex .f32 0 0, .complex .f32 0 0, .float .f32 l, .slice none 0 0, .int .i64 0, .int .i64 0, .slice none 0 0, .slice none 0 0, .int .i64 0, .int .i64 0] 44)).alloc (.cells #[.int .i64 0, .complex .f32 0 0, .complex .f32 0 0, .float .f32 0, .slice none 0 0, .int .i64 0, .int .i64 0, .slice none 0 0, .slice none 0 0, .int .i64 0, .int .i64 0] 44)).trans s1)
  have h1' : w.heap.size + 2 ≤ b := by have := h1; simp at this; omega
  have X1 := Lib.hid x1
  have Y1 := Lib.hid Y
  have H1 := Lib.hid h1'
  clear s1 x1 h1 h1' Y
  go_wp2_with fail
  refine (ST.out b _ X1.out).mono ?_
  rintro _ w2 ⟨rfl, x2, s2⟩
  have hb := H1.out
  have Y2 := Lib.hid (Y1.out.span s2 (by omega))
  have S2 := Lib.hid (show Span 0 0 w w2 from ⟨s2.os.trans S1.out.os, s2.tape.trans S1.out.tape, s2.output.trans S1.out.output, Nat.le_trans S1.out.size s2.size, fun k hk _ => (s2.block k (Nat.lt_of_lt_of_le hk S1.out.size) (by omega)).trans (S1.out.block k hk (by omega))⟩)
  have X2 := Lib.hid x2
  clear s2 x2 hb
  go_wp2_with fail
  refine (meter_module b _ _ X2.out).mono ?_
  rintro _ w3 ⟨rfl, s3⟩
  have Y3 := Y2.out.keep s3
  have S3 := Lib.hid (S2.out.trans s3)
  have cy := Y3.cells
  have fy := Y3.thaw
  have YS := Lib.hid (Y3.set11 (.int .i64 7) (.complex .f32 0 0) (.complex .f32 0 0) (.float .f32 (raiseN (raiseN l p) q)) (.slice none 0 0) (.int .i64 0) (.int .i64 0) (.slice none 0 0) (.slice none 0 0) (.int .i64 0) (.int .i64 0))
  clear s3 Y3
  go_wp2_with fail
  have d1 := YS.out.cells
  exact bodyPost_ret (v := .tuple #[.agg #[.int .i64 7, .complex .f32 0 0, .complex .f32 0 0, .float .f32 (raiseN (raiseN l p) q), .slice none 0 0, .int .i64 0, .int .i64 0, .slice none 0 0, .slice none 0 0, .int .i64 0, .int .i64 0], .complex .f32 p q, .bool true]) (by simp [results, Try.results27, go_sem, d1]) rfl ⟨rfl, S3.out.set11 (by omega) _ _ _ _ _ _ _ _ _ _ _⟩

theorem call_meter_tell (v : Value) (w : World) : (method 280 136 v "loop.example/g03223/impl.tell").run Try.prog w = .ok (159, v) w := by kernel_rfl

theorem field_meter (a : Addr) (w : World) : (Instr.field 92 (.agg #[.iface 136 (.pointer (some a)), .nilIface, .iface 136 (.pointer (some a))]) 2).run Try.prog w = .ok (.iface 136 (.pointer (some a))) w := by kernel_rfl

theorem meter_tell (b l : Nat) (w : World) (hx : Bx b #[.float .f32 l] w) :
    Calls Try.prog 159 #[.pointer (some ⟨b, 0, none⟩)] w fun e w' => e = .returned (.complex .f32 l 0) ∧ w = w' := by
  have cx := hx.cells
  clear hx
  go_enter Try.func159, Try.ntmps159
  go_wp2_with fail
  go_ret
  exact ⟨rfl, rfl⟩

set_option maxRecDepth 100000 in
set_option maxHeartbeats 4000000 in
theorem tellModule_meter (l : Nat) (hl : l ≤ 2139095040) (w : World) :
    Calls Try.prog 31 #[.agg #[.int .i64 7, .complex .f32 0 0, .complex .f32 0 0, .float .f32 l, .slice none 0 0, .int .i64 0, .int .i64 0, .slice none 0 0, .slice none 0 0, .int .i64 0, .int .i64 0]] w fun e w' => e = .returned (.tuple #[.complex .f32 l 0, .bool true]) ∧ Span 0 0 w w' := by
  have cm1 := call_meter_tell
  have cf := field_meter
  have VU := Lib.hid (validUnit_meter l hl)
  clear hl
  go_enter Try.func31, Try.ntmps31
  go_wp2_with fail
  refine (VU.out _).mono ?_
  rintro _ w1 ⟨b, rfl, x1, _, s1⟩
  have X1 := Lib.hid x1
  have S1 := Lib.hid (((Span.refl 0 0 w).alloc (.cells #[.int .i64 7, .complex .f32 0 0, .complex .f32 0 0, .float .f32 l, .slice none 0 0, .int .i64 0, .int .i64 0, .slice none 0 0, .slice none 0 0, .int .i64 0, .int .i64 0] 44)).trans s1)
  clear s1 x1
  go_wp2_with fail
  refine (powersOf_7 _ _).mono ?_
  rintro _ w2 ⟨rfl, s2⟩
  have X2 := Lib.hid (X1.out.keep s2)
  have S2 := Lib.hid (S1.out.trans s2)
  clear s2
  go_wp2_with fail
  refine (meter_tell b l _ X2.out).mono ?_
  rintro _ _ ⟨rfl, rfl⟩
  go_wp2_with fail
  go_ret2
  exact ⟨rfl, S2.out⟩

end Go.Proofs.Ytocmppilihiehaa
