/- The powers of a kind: no kind; the law. -/
import Derived.Test.YtocmppilihiehaaW1
namespace Go.Proofs.Ytocmppilihiehaa
open Go.RowKit

theorem as_nil_0 (xT : TypeId) (w : World) : (Instr.typeAssert .nilIface xT 86 true).run Try.prog w = .ok (.tuple #[.nilIface, .bool false]) w := by kernel_rfl
theorem as_nil_1 (xT : TypeId) (w : World) : (Instr.typeAssert .nilIface xT 88 true).run Try.prog w = .ok (.tuple #[.nilIface, .bool false]) w := by kernel_rfl
theorem as_nil_2 (xT : TypeId) (w : World) : (Instr.typeAssert .nilIface xT 90 true).run Try.prog w = .ok (.tuple #[.nilIface, .bool false]) w := by kernel_rfl

set_option maxRecDepth 100000 in
theorem unitOf_no (n : Int) (h1 : n ≠ 1) (h2 : n ≠ 2) (h3 : n ≠ 3) (h4 : n ≠ 4) (h5 : n ≠ 5) (h6 : n ≠ 6) (h7 : n ≠ 7) (h8 : n ≠ 8) (w : World) : Calls Try.prog 73 #[zeroMod n] w fun e w' => e = .returned .nilIface ∧ Span 0 0 w w' := by
  have i1 : (n == 1) = false := by rw [beq_eq_false_iff_ne]; exact h1
  have i2 : (n == 2) = false := by rw [beq_eq_false_iff_ne]; exact h2
  have i3 : (n == 3) = false := by rw [beq_eq_false_iff_ne]; exact h3
  have i4 : (n == 4) = false := by rw [beq_eq_false_iff_ne]; exact h4
  have i5 : (n == 5) = false := by rw [beq_eq_false_iff_ne]; exact h5
  have i6 : (n == 6) = false := by rw [beq_eq_false_iff_ne]; exact h6
  have i7 : (n == 7) = false := by rw [beq_eq_false_iff_ne]; exact h7
  have i8 : (n == 8) = false := by rw [beq_eq_false_iff_ne]; exact h8
  clear h1 h2 h3 h4 h5 h6 h7 h8
  unfold zeroMod
  go_enter Try.func73, Try.ntmps73
  go_wp2_with fail
  go_ret
  exact ⟨rfl, (Span.refl _ _ _).alloc _⟩

set_option maxRecDepth 100000 in
theorem powersOf_no (w : World) : Calls Try.prog 62 #[.nilIface] w fun e w' => e = .returned (.agg #[.nilIface, .nilIface, .nilIface]) ∧ Span 0 0 w w' := by
  have hmf : ∀ (fn : Fn) (first cap : Array Value) (w : World), (Instr.makeFunc fn first cap).run Try.prog w = .ok (.func fn first cap) w := fun _ _ _ _ => rfl
  have a0 := as_nil_0
  have a1 := as_nil_1
  have a2 := as_nil_2
  go_enter_defers Try.func62, Try.ntmps62
  go_wp2_with fail
  refine leaves_cons (f := 86) (args := #[.pointer (some ⟨w.heap.size, 0, none⟩)]) (by simp) (by simp [go_sem]) ?_
  refine (catch_idle ⟨w.heap.size, 0, none⟩ _).mono ?_
  rintro e u' w'' ⟨rfl, rfl, rfl⟩
  simp [Leaves, settle, results, Try.results62, go_sem]
  exact (Span.refl _ _ _).alloc _

set_option maxRecDepth 100000 in
theorem impl_powersOf_no (n : Int) (h1 : n ≠ 1) (h2 : n ≠ 2) (h3 : n ≠ 3) (h4 : n ≠ 4) (h5 : n ≠ 5) (h6 : n ≠ 6) (h7 : n ≠ 7) (h8 : n ≠ 8) (w : World) : Calls Try.prog 49 #[.int .i64 n] w fun e w' => e = .returned (.tuple #[.bool false, .bool false, .bool false]) ∧ Span 0 0 w w' := by
  have HU := Lib.hid (fun w => unitOf_no n h1 h2 h3 h4 h5 h6 h7 h8 w)
  clear h1 h2 h3 h4 h5 h6 h7 h8
  go_enter Try.func49, Try.ntmps49
  go_wp2_with fail
  refine (HU.out _).mono ?_
  rintro _ w1 ⟨rfl, s1⟩
  go_wp2_with fail
  refine (powersOf_no _).mono ?_
  rintro _ w2 ⟨rfl, s2⟩
  have S2 := Lib.hid (s1.trans s2)
  clear s1 s2
  go_wp2_with fail
  go_region
  all_goals go_wp2_with fail
  all_goals exact bodyPost_ret (v := .tuple #[.bool false, .bool false, .bool false]) (by simp [results, Try.results49, go_sem]) rfl ⟨rfl, (S2.out.alloc _).drew⟩

theorem spec_powersOf_no (n : Int) (h1 : n ≠ 1) (h2 : n ≠ 2) (h3 : n ≠ 3) (h4 : n ≠ 4) (h5 : n ≠ 5) (h6 : n ≠ 6) (h7 : n ≠ 7) (h8 : n ≠ 8) (w : World) : Calls Try.prog 48 #[.int .i64 n] w fun e w' => e = .returned (.tuple #[.bool false, .bool false, .bool false]) ∧ w = w' := by
  have i1 : (n == 1) = false := by rw [beq_eq_false_iff_ne]; exact h1
  have i2 : (n == 2) = false := by rw [beq_eq_false_iff_ne]; exact h2
  have i3 : (n == 3) = false := by rw [beq_eq_false_iff_ne]; exact h3
  have i4 : (n == 4) = false := by rw [beq_eq_false_iff_ne]; exact h4
  have i5 : (n == 5) = false := by rw [beq_eq_false_iff_ne]; exact h5
  have i6 : (n == 6) = false := by rw [beq_eq_false_iff_ne]; exact h6
  have i7 : (n == 7) = false := by rw [beq_eq_false_iff_ne]; exact h7
  have i8 : (n == 8) = false := by rw [beq_eq_false_iff_ne]; exact h8
  clear h1 h2 h3 h4 h5 h6 h7 h8
  go_enter Try.func48, Try.ntmps48
  go_wp2_with fail
  exact bodyPost_ret (v := .tuple #[.bool false, .bool false, .bool false]) (by simp [results, Try.results48, go_sem]) rfl ⟨rfl, rfl⟩

/-- Both sides name the same powers. -/
theorem powers_both (n : Int) : ∃ a b c : Bool, (∀ w, Calls Try.prog 48 #[.int .i64 n] w fun e w' => e = .returned (.tuple #[.bool a, .bool b, .bool c]) ∧ w = w') ∧ (∀ w, Calls Try.prog 49 #[.int .i64 n] w fun e w' => e = .returned (.tuple #[.bool a, .bool b, .bool c]) ∧ Span 0 0 w w') := by
  by_cases h1 : n = 1
  · subst h1; exact ⟨_, _, _, spec_powersOf_1, impl_powersOf_1⟩
  by_cases h2 : n = 2
  · subst h2; exact ⟨_, _, _, spec_powersOf_2, impl_powersOf_2⟩
  by_cases h3 : n = 3
  · subst h3; exact ⟨_, _, _, spec_powersOf_3, impl_powersOf_3⟩
  by_cases h4 : n = 4
  · subst h4; exact ⟨_, _, _, spec_powersOf_4, impl_powersOf_4⟩
  by_cases h5 : n = 5
  · subst h5; exact ⟨_, _, _, spec_powersOf_5, impl_powersOf_5⟩
  by_cases h6 : n = 6
  · subst h6; exact ⟨_, _, _, spec_powersOf_6, impl_powersOf_6⟩
  by_cases h7 : n = 7
  · subst h7; exact ⟨_, _, _, spec_powersOf_7, impl_powersOf_7⟩
  by_cases h8 : n = 8
  · subst h8; exact ⟨_, _, _, spec_powersOf_8, impl_powersOf_8⟩
  exact ⟨_, _, _, spec_powersOf_no n h1 h2 h3 h4 h5 h6 h7 h8, impl_powersOf_no n h1 h2 h3 h4 h5 h6 h7 h8⟩

theorem law_powersOf (n : Int) (_h1 : -9223372036854775808 ≤ n) (_h2 : n ≤ 9223372036854775807) (w : World) : Calls Try.prog 13 #[.int .i64 n] w (Says w) := by
  obtain ⟨a, b, c, hs, hi⟩ := powers_both n
  have HS := Lib.hid hs
  have HI := Lib.hid hi
  clear hs hi _h1 _h2
  go_enter Try.func13, Try.ntmps13
  go_wp2_with fail
  refine (HS.out _).mono ?_
  rintro _ _ ⟨rfl, rfl⟩
  go_wp2_with fail
  refine (HI.out _).mono ?_
  rintro _ w1 ⟨rfl, s1⟩
  have S1 := Lib.hid (s1.to_below (.inl (Nat.le_refl _)))
  clear s1
  cases a <;> cases b <;> cases c <;> (go_wp2_with fail; go_ret; exact ⟨rfl, S1.out⟩)

end Go.Proofs.Ytocmppilihiehaa
