/- Holds are made. -/
import Derived.Test.YtocmppilihiehaaY4
import Derived.Outline
namespace Go.Proofs.Ytocmppilihiehaa
open Go.RowKit

theorem call_hold_isValid (v : Value) (w : World) : (method 280 138 v "loop.example/g03223/impl.isValid").run Try.prog w = .ok (165, v) w := by kernel_rfl
theorem call_hold_module (v : Value) (w : World) : (method 280 138 v "loop.example/g03223/impl.module").run Try.prog w = .ok (166, v) w := by kernel_rfl

theorem ReadM.hold (s1 s2 : Nat) (c f : Int) (w : World) : ReadM w (.agg #[.int .i64 8, .complex .f32 0 0, .complex .f32 s1 s2, .float .f32 0, .slice none 0 0, .int .i64 0, .int .i64 0, .slice none 0 0, .slice none 0 0, .int .i64 c, .int .i64 f]) ⟨8, (0, 0), (s1, s2), 0, ⟨[], 0, 0⟩, c, f⟩ ([], []) :=
  ⟨_, _, _, 0, 0, 0, rfl, HasS.empty _ _ _ _ _ _ _ _, HasS.empty _ _ _ _ _ _ _ _, HasS.empty _ _ _ _ _ _ _ _⟩

set_option maxRecDepth 100000 in
set_option maxHeartbeats 4000000 in
theorem isModule_hold_yes (s1 s2 : Nat) (c f : Int) (h1 : 1 ≤ c) (h2 : c ≤ 100) (h3 : 0 ≤ f) (h4 : f < c) (w : World) :
    Calls Try.prog 81 #[.agg #[.int .i64 8, .complex .f32 0 0, .complex .f32 s1 s2, .float .f32 0, .slice none 0 0, .int .i64 0, .int .i64 0, .slice none 0 0, .slice none 0 0, .int .i64 c, .int .i64 f]] w (True0 w) := by
  have cm1 := call_hold_isValid
  have cm2 := call_hold_module
  have HI := Lib.hid (hold_isValid_yes · s1 s2 c f h1 h2 h3 h4)
  clear h1 h2 h3 h4
  go_enter Try.func81, Try.ntmps81
  go_wp2_with fail
  refine (unitOf_hold _ _ _ _ _ _ _ _ _ _ _ _ _ _ _ _ _ _ _).mono ?_
  rintro _ w1 ⟨b, rfl, x1, s1'⟩
  have B := (Bx.new w #[.int .i64 8, .complex .f32 0 0, .complex .f32 s1 s2, .float .f32 0, .slice none 0 0, .int .i64 0, .int .i64 0, .slice none 0 0, .slice none 0 0, .int .i64 c, .int .i64 f] 44).keep s1'
  have HS := Lib.hid (((Span.refl 0 0 w).alloc (.cells #[.int .i64 8, .complex .f32 0 0, .complex .f32 s1 s2, .float .f32 0, .slice none 0 0, .int .i64 0, .int .i64 0, .slice none 0 0, .slice none 0 0, .int .i64 c, .int .i64 f] 44)).trans s1')
  have X1 := Lib.hid x1
  have HB := Lib.hid B
  have c0 := B.cells
  clear s1' x1 B
  go_wp2_with fail
  go_region_with (first
    | (go_at_call 165; go_loud (refine (HI.out _ _ (X1.out.drewN _)).mono ?_; rintro _ _ ⟨m1, rfl, rfl⟩))
    | (go_at_call 166; go_loud (refine (hold_module _ _ _ _ _ _ (X1.out.drewN _)).mono ?_; rintro _ w2 ⟨rfl, s2'⟩; have c0 := ((HB.out.drewN _).keep s2').cells; have HS2 : Hid (Span 0 0 w w2) := (by first | exact HS.out.trans s2' | exact HS.out.trans s2'.undrawn' | exact HS.out.trans (Span.undrawn' (n := 1) s2')); clear s2'))
    | (go_at_call 94; go_loud (refine (sameModules_self _ ([], []) _ _ _ (ReadM.hold _ _ _ _ _) (ReadM.hold _ _ _ _ _) (by simp) (by simp) (by simp)).mono ?_; rintro _ w3 ⟨rfl, s3'⟩; have HS3 : Hid (Span 0 0 w w3) := (by first | exact HS2.out.trans s3' | exact HS2.out.trans s3'.undrawn' | exact HS2.out.trans (Span.undrawn' (n := 1) s3')); clear s3')))
  all_goals go_wp2_with fail
  all_goals go_ret
  all_goals exact ⟨rfl, HS3.out⟩

end Go.Proofs.Ytocmppilihiehaa
