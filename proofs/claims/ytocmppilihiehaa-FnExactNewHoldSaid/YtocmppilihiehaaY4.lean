/- Modules of the kind hold are valid, or not. -/
import Derived.Test.YtocmppilihiehaaY3
import Derived.BigQuiet
import Derived.Outline
namespace Go.Proofs.Ytocmppilihiehaa
open Go.RowKit

set_option maxRecDepth 100000 in
theorem unitOf_hold (t1 t2 s1 s2 l : Nat) (A0 A1 A2 : Option Addr) (n0 c0 n1 c1 n2 c2 : Nat) (a n c f : Int) (w : World) :
    Calls Try.prog 73 #[.agg #[.int .i64 8, .complex .f32 t1 t2, .complex .f32 s1 s2, .float .f32 l, .slice A0 n0 c0, .int .i64 a, .int .i64 n, .slice A1 n1 c1, .slice A2 n2 c2, .int .i64 c, .int .i64 f]] w fun e w' => ∃ b, e = .returned (.iface 138 (.pointer (some ⟨b, 0, none⟩))) ∧ Bx b #[.complex .f32 s1 s2, .int .i64 c, .int .i64 f] w' ∧ Span 0 0 w w' := by
  go_enter Try.func73, Try.ntmps73
  go_wp2_with fail
  go_ret
  refine ⟨_, rfl, ?_, ((Span.refl _ _ _).alloc _).alloc _⟩
  have := Bx.new (w.alloc (.cells #[.int .i64 8, .complex .f32 t1 t2, .complex .f32 s1 s2, .float .f32 l, .slice A0 n0 c0, .int .i64 a, .int .i64 n, .slice A1 n1 c1, .slice A2 n2 c2, .int .i64 c, .int .i64 f] 44)) #[.complex .f32 s1 s2, .int .i64 c, .int .i64 f] 140
  simpa using this

theorem hold_isValid_yes (b : Nat) (s1 s2 : Nat) (c f : Int) (h1 : 1 ≤ c) (h2 : c ≤ 100) (h3 : 0 ≤ f) (h4 : f < c) (w : World) (hx : Bx b #[.complex .f32 s1 s2, .int .i64 c, .int .i64 f] w) :
    Calls Try.prog 165 #[.pointer (some ⟨b, 0, none⟩)] w (SaysTrue w) := by
  have cx := hx.cells
  have d1 : decide (1 ≤ c) = true := decide_eq_true h1
  have d2 : decide (c ≤ 100) = true := decide_eq_true h2
  have d3 : decide (0 ≤ f) = true := decide_eq_true h3
  have d4 : decide (f < c) = true := decide_eq_true h4
  clear h1 h2 h3 h4 hx
  go_enter Try.func165, Try.ntmps165
  go_wp2_with fail
  go_quiet (fail)
  go_wp2_with fail
  go_ret
  exact ⟨_, rfl, rfl⟩

theorem hold_isValid_no (b : Nat) (s1 s2 : Nat) (c f : Int) (h1 : ¬ (1 ≤ c ∧ c ≤ 100)) (w : World) (hx : Bx b #[.complex .f32 s1 s2, .int .i64 c, .int .i64 f] w) :
    Calls Try.prog 165 #[.pointer (some ⟨b, 0, none⟩)] w fun e w' => e = .returned (.bool false) ∧ ∃ n, w' = w.drewN n := by
  have cx := hx.cells
  by_cases h2 : 1 ≤ c
  · have d1 : decide (1 ≤ c) = true := decide_eq_true h2
    have d2 : decide (c ≤ 100) = false := by rw [decide_eq_false_iff_not]; omega
    clear h1 h2 hx
    go_enter Try.func165, Try.ntmps165
    go_wp2_with fail
    go_quiet (fail)
    go_wp2_with fail
    go_ret
    exact ⟨rfl, _, rfl⟩
  · have d1 : decide (1 ≤ c) = false := by rw [decide_eq_false_iff_not]; omega
    clear h1 h2 hx
    go_enter Try.func165, Try.ntmps165
    go_wp2_with fail
    go_quiet (fail)
    go_wp2_with fail
    go_ret
    exact ⟨rfl, _, rfl⟩

set_option maxRecDepth 100000 in
theorem hold_module (b : Nat) (s1 s2 : Nat) (c f : Int) (w : World) (hx : Bx b #[.complex .f32 s1 s2, .int .i64 c, .int .i64 f] w) :
    Calls Try.prog 166 #[.pointer (some ⟨b, 0, none⟩)] w fun e w' => e = .returned (.agg #[.int .i64 8, .complex .f32 0 0, .complex .f32 s1 s2, .float .f32 0, .slice none 0 0, .int .i64 0, .int .i64 0, .slice none 0 0, .slice none 0 0, .int .i64 c, .int .i64 f]) ∧ Span 0 0 w w' := by
  have cx := hx.cells
  have ca := hx.cellsA
  have HX := Lib.hid hx
  clear hx
  go_enter Try.func166, Try.ntmps166
  go_wp2_with fail
  go_region
  all_goals go_wp2_with fail
  all_goals exact bodyPost_ret (v := .agg #[.int .i64 8, .complex .f32 0 0, .complex .f32 s1 s2, .float .f32 0, .slice none 0 0, .int .i64 0, .int .i64 0, .slice none 0 0, .slice none 0 0, .int .i64 c, .int .i64 f]) (by simp [results, Try.results166, go_sem]) rfl ⟨rfl, ((Span.refl _ _ _).alloc _).drew⟩

end Go.Proofs.Ytocmppilihiehaa
