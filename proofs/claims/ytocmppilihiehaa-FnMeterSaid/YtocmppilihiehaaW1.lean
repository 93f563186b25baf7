/- The powers of a kind. -/
import Derived.Test.YtocmppilihiehaaBx
import Derived.Test.YtocmppilihiehaaG3
import Derived.Outline
import Derived.Defers
import Derived.Recover
import Derived.Laws.Pointers
import Derived.Stop.Asserts
namespace Go.Proofs.Ytocmppilihiehaa
open Go.RowKit

def zeroMod (n : Int) : Value := .agg #[.int .i64 n, .complex .f32 0 0, .complex .f32 0 0, .float .f32 0, .slice none 0 0, .int .i64 0, .int .i64 0, .slice none 0 0, .slice none 0 0, .int .i64 0, .int .i64 0]

theorem catch_idle (p : Addr) (w : World) :
    CallsD Try.prog 86 #[.pointer (some p)] .returning w fun e u' w' => e = .returned (.tuple #[]) ∧ u' = .returning ∧ w' = w := by
  refine callsD_of_wpS Try.func86 rfl fun c₀ cs hu => ?_
  apply wpS_seq
  apply wpS_region
  simp [wpOpsS, go_sem, recoverD, hu, Try.ntmps86, Exit.thenS]
  refine wpS_cond (t := false) (by simp [Act.eval, Array.replicate]) ?_
  simp only [Bool.false_eq_true, if_false]
  refine wpS_of_wp (wp_skip ?_)
  cases c₀
  simp_all [bodyPostS, results, Try.results86]

theorem as_sourceUnit_0 (v : Value) (xT : TypeId) (w : World) : (Instr.typeAssert (.iface 119 v) xT 86 true).run Try.prog w = .ok (.tuple #[.nilIface, .bool false]) w := run_typeAssert_lacksB Try.underlying86 (by kernel_rfl) (by kernel_rfl) v xT w
theorem as_sourceUnit_1 (v : Value) (xT : TypeId) (w : World) : (Instr.typeAssert (.iface 119 v) xT 88 true).run Try.prog w = .ok (.tuple #[.iface 119 v, .bool true]) w := run_typeAssert_hasB Try.underlying88 (by kernel_rfl) v xT w
theorem as_sourceUnit_2 (v : Value) (xT : TypeId) (w : World) : (Instr.typeAssert (.iface 119 v) xT 90 true).run Try.prog w = .ok (.tuple #[.iface 119 v, .bool true]) w := run_typeAssert_hasB Try.underlying90 (by kernel_rfl) v xT w

set_option maxRecDepth 100000 in
theorem unitOf_1 (w : World) : Calls Try.prog 73 #[zeroMod 1] w fun e w' => ∃ b, e = .returned (.iface 119 (.pointer (some ⟨b, 0, none⟩))) ∧ Span 0 0 w w' := by
  unfold zeroMod
  go_enter Try.func73, Try.ntmps73
  go_wp2_with fail
  go_ret
  exact ⟨_, rfl, ((Span.refl _ _ _).alloc _).alloc _⟩

set_option maxRecDepth 100000 in
theorem powersOf_1 (a : Addr) (w : World) : Calls Try.prog 62 #[.iface 119 (.pointer (some a))] w fun e w' => e = .returned (.agg #[.nilIface, .iface 119 (.pointer (some a)), .iface 119 (.pointer (some a))]) ∧ Span 0 0 w w' := by
  have hmf : ∀ (fn : Fn) (first cap : Array Value) (w : World), (Instr.makeFunc fn first cap).run Try.prog w = .ok (.func fn first cap) w := fun _ _ _ _ => rfl
  have a0 := as_sourceUnit_0
  have a1 := as_sourceUnit_1
  have a2 := as_sourceUnit_2
  go_enter_defers Try.func62, Try.ntmps62
  go_wp2_with fail
  refine leaves_cons (f := 86) (args := #[.pointer (some ⟨w.heap.size, 0, none⟩)]) (by simp) (by simp [go_sem]) ?_
  refine (catch_idle ⟨w.heap.size, 0, none⟩ _).mono ?_
  rintro e u' w'' ⟨rfl, rfl, rfl⟩
  simp [Leaves, settle, results, Try.results62, go_sem]
  exact (Span.refl _ _ _).alloc _

set_option maxRecDepth 100000 in
theorem impl_powersOf_1 (w : World) : Calls Try.prog 49 #[.int .i64 1] w fun e w' => e = .returned (.tuple #[.bool false, .bool true, .bool true]) ∧ Span 0 0 w w' := by
  go_enter Try.func49, Try.ntmps49
  go_wp2_with fail
  refine (unitOf_1 _).mono ?_
  rintro _ w1 ⟨b, rfl, s1⟩
  go_wp2_with fail
  refine (powersOf_1 _ _).mono ?_
  rintro _ w2 ⟨rfl, s2⟩
  have S2 := Lib.hid (s1.trans s2)
  clear s1 s2
  go_wp2_with fail
  go_region
  all_goals go_wp2_with fail
  all_goals exact bodyPost_ret (v := .tuple #[.bool false, .bool true, .bool true]) (by simp [results, Try.results49, go_sem]) rfl ⟨rfl, (S2.out.alloc _).drew⟩

theorem spec_powersOf_1 (w : World) : Calls Try.prog 48 #[.int .i64 1] w fun e w' => e = .returned (.tuple #[.bool false, .bool true, .bool true]) ∧ w = w' := by
  go_enter Try.func48, Try.ntmps48
  go_wp2_with fail
  exact bodyPost_ret (v := .tuple #[.bool false, .bool true, .bool true]) (by simp [results, Try.results48, go_sem]) rfl ⟨rfl, rfl⟩

theorem as_mixerUnit_0 (v : Value) (xT : TypeId) (w : World) : (Instr.typeAssert (.iface 122 v) xT 86 true).run Try.prog w = .ok (.tuple #[.iface 122 v, .bool true]) w := run_typeAssert_hasB Try.underlying86 (by kernel_rfl) v xT w
theorem as_mixerUnit_1 (v : Value) (xT : TypeId) (w : World) : (Instr.typeAssert (.iface 122 v) xT 88 true).run Try.prog w = .ok (.tuple #[.iface 122 v, .bool true]) w := run_typeAssert_hasB Try.underlying88 (by kernel_rfl) v xT w
theorem as_mixerUnit_2 (v : Value) (xT : TypeId) (w : World) : (Instr.typeAssert (.iface 122 v) xT 90 true).run Try.prog w = .ok (.tuple #[.iface 122 v, .bool true]) w := run_typeAssert_hasB Try.underlying90 (by kernel_rfl) v xT w

set_option maxRecDepth 100000 in
theorem unitOf_2 (w : World) : Calls Try.prog 73 #[zeroMod 2] w fun e w' => ∃ b, e = .returned (.iface 122 (.pointer (some ⟨b, 0, none⟩))) ∧ Span 0 0 w w' := by
  unfold zeroMod
  go_enter Try.func73, Try.ntmps73
  go_wp2_with fail
  go_ret
  exact ⟨_, rfl, ((Span.refl _ _ _).alloc _).alloc _⟩

set_option maxRecDepth 100000 in
theorem powersOf_2 (a : Addr) (w : World) : Calls Try.prog 62 #[.iface 122 (.pointer (some a))] w fun e w' => e = .returned (.agg #[.iface 122 (.pointer (some a)), .iface 122 (.pointer (some a)), .iface 122 (.pointer (some a))]) ∧ Span 0 0 w w' := by
  have hmf : ∀ (fn : Fn) (first cap : Array Value) (w : World), (Instr.makeFunc fn first cap).run Try.prog w = .ok (.func fn first cap) w := fun _ _ _ _ => rfl
  have a0 := as_mixerUnit_0
  have a1 := as_mixerUnit_1
  have a2 := as_mixerUnit_2
  go_enter_defers Try.func62, Try.ntmps62
  go_wp2_with fail
  refine leaves_cons (f := 86) (args := #[.pointer (some ⟨w.heap.size, 0, none⟩)]) (by simp) (by simp [go_sem]) ?_
  refine (catch_idle ⟨w.heap.size, 0, none⟩ _).mono ?_
  rintro e u' w'' ⟨rfl, rfl, rfl⟩
  simp [Leaves, settle, results, Try.results62, go_sem]
  exact (Span.refl _ _ _).alloc _

set_option maxRecDepth 100000 in
theorem impl_powersOf_2 (w : World) : Calls Try.prog 49 #[.int .i64 2] w fun e w' => e = .returned (.tuple #[.bool true, .bool true, .bool true]) ∧ Span 0 0 w w' := by
  go_enter Try.func49, Try.ntmps49
  go_wp2_with fail
  refine (unitOf_2 _).mono ?_
  rintro _ w1 ⟨b, rfl, s1⟩
  go_wp2_with fail
  refine (powersOf_2 _ _).mono ?_
  rintro _ w2 ⟨rfl, s2⟩
  have S2 := Lib.hid (s1.trans s2)
  clear s1 s2
  go_wp2_with fail
  go_region
  all_goals go_wp2_with fail
  all_goals exact bodyPost_ret (v := .tuple #[.bool true, .bool true, .bool true]) (by simp [results, Try.results49, go_sem]) rfl ⟨rfl, (S2.out.alloc _).drew⟩

theorem spec_powersOf_2 (w : World) : Calls Try.prog 48 #[.int .i64 2] w fun e w' => e = .returned (.tuple #[.bool true, .bool true, .bool true]) ∧ w = w' := by
  go_enter Try.func48, Try.ntmps48
  go_wp2_with fail
  exact bodyPost_ret (v := .tuple #[.bool true, .bool true, .bool true]) (by simp [results, Try.results48, go_sem]) rfl ⟨rfl, rfl⟩

theorem as_gainUnit_0 (v : Value) (xT : TypeId) (w : World) : (Instr.typeAssert (.iface 124 v) xT 86 true).run Try.prog w = .ok (.tuple #[.nilIface, .bool false]) w := run_typeAssert_lacksB Try.underlying86 (by kernel_rfl) (by kernel_rfl) v xT w
theorem as_gainUnit_1 (v : Value) (xT : TypeId) (w : World) : (Instr.typeAssert (.iface 124 v) xT 88 true).run Try.prog w = .ok (.tuple #[.iface 124 v, .bool true]) w := run_typeAssert_hasB Try.underlying88 (by kernel_rfl) v xT w
theorem as_gainUnit_2 (v : Value) (xT : TypeId) (w : World) : (Instr.typeAssert (.iface 124 v) xT 90 true).run Try.prog w = .ok (.tuple #[.nilIface, .bool false]) w := run_typeAssert_lacksB Try.underlying90 (by kernel_rfl) (by kernel_rfl) v xT w

set_option maxRecDepth 100000 in
theorem unitOf_3 (w : World) : Calls Try.prog 73 #[zeroMod 3] w fun e w' => ∃ b, e = .returned (.iface 124 (.pointer (some ⟨b, 0, none⟩))) ∧ Span 0 0 w w' := by
  unfold zeroMod
  go_enter Try.func73, Try.ntmps73
  go_wp2_with fail
  go_ret
  exact ⟨_, rfl, ((Span.refl _ _ _).alloc _).alloc _⟩

set_option maxRecDepth 100000 in
theorem powersOf_3 (a : Addr) (w : World) : Calls Try.prog 62 #[.iface 124 (.pointer (some a))] w fun e w' => e = .returned (.agg #[.nilIface, .iface 124 (.pointer (some a)), .nilIface]) ∧ Span 0 0 w w' := by
  have hmf : ∀ (fn : Fn) (first cap : Array Value) (w : World), (Instr.makeFunc fn first cap).run Try.prog w = .ok (.func fn first cap) w := fun _ _ _ _ => rfl
  have a0 := as_gainUnit_0
  have a1 := as_gainUnit_1
  have a2 := as_gainUnit_2
  go_enter_defers Try.func62, Try.ntmps62
  go_wp2_with fail
  refine leaves_cons (f := 86) (args := #[.pointer (some ⟨w.heap.size, 0, none⟩)]) (by simp) (by simp [go_sem]) ?_
  refine (catch_idle ⟨w.heap.size, 0, none⟩ _).mono ?_
  rintro e u' w'' ⟨rfl, rfl, rfl⟩
  simp [Leaves, settle, results, Try.results62, go_sem]
  exact (Span.refl _ _ _).alloc _

set_option maxRecDepth 100000 in
theorem impl_powersOf_3 (w : World) : Calls Try.prog 49 #[.int .i64 3] w fun e w' => e = .returned (.tuple #[.bool false, .bool true, .bool false]) ∧ Span 0 0 w w' := by
  go_enter Try.func49, Try.ntmps49
  go_wp2_with fail
  refine (unitOf_3 _).mono ?_
  rintro _ w1 ⟨b, rfl, s1⟩
  go_wp2_with fail
  refine (powersOf_3 _ _).mono ?_
  rintro _ w2 ⟨rfl, s2⟩
  have S2 := Lib.hid (s1.trans s2)
  clear s1 s2
  go_wp2_with fail
  go_region
  all_goals go_wp2_with fail
  all_goals exact bodyPost_ret (v := .tuple #[.bool false, .bool true, .bool false]) (by simp [results, Try.results49, go_sem]) rfl ⟨rfl, (S2.out.alloc _).drew⟩

theorem spec_powersOf_3 (w : World) : Calls Try.prog 48 #[.int .i64 3] w fun e w' => e = .returned (.tuple #[.bool false, .bool true, .bool false]) ∧ w = w' := by
  go_enter Try.func48, Try.ntmps48
  go_wp2_with fail
  exact bodyPost_ret (v := .tuple #[.bool false, .bool true, .bool false]) (by simp [results, Try.results48, go_sem]) rfl ⟨rfl, rfl⟩

theorem as_delayUnit_0 (v : Value) (xT : TypeId) (w : World) : (Instr.typeAssert (.iface 127 v) xT 86 true).run Try.prog w = .ok (.tuple #[.iface 127 v, .bool true]) w := run_typeAssert_hasB Try.underlying86 (by kernel_rfl) v xT w
theorem as_delayUnit_1 (v : Value) (xT : TypeId) (w : World) : (Instr.typeAssert (.iface 127 v) xT 88 true).run Try.prog w = .ok (.tuple #[.nilIface, .bool false]) w := run_typeAssert_lacksB Try.underlying88 (by kernel_rfl) (by kernel_rfl) v xT w
theorem as_delayUnit_2 (v : Value) (xT : TypeId) (w : World) : (Instr.typeAssert (.iface 127 v) xT 90 true).run Try.prog w = .ok (.tuple #[.nilIface, .bool false]) w := run_typeAssert_lacksB Try.underlying90 (by kernel_rfl) (by kernel_rfl) v xT w

set_option maxRecDepth 100000 in
theorem unitOf_4 (w : World) : Calls Try.prog 73 #[zeroMod 4] w fun e w' => ∃ b, e = .returned (.iface 127 (.pointer (some ⟨b, 0, none⟩))) ∧ Span 0 0 w w' := by
  unfold zeroMod
  go_enter Try.func73, Try.ntmps73
  go_wp2_with fail
  go_ret
  exact ⟨_, rfl, ((Span.refl _ _ _).alloc _).alloc _⟩

set_option maxRecDepth 100000 in
theorem powersOf_4 (a : Addr) (w : World) : Calls Try.prog 62 #[.iface 127 (.pointer (some a))] w fun e w' => e = .returned (.agg #[.iface 127 (.pointer (some a)), .nilIface, .nilIface]) ∧ Span 0 0 w w' := by
  have hmf : ∀ (fn : Fn) (first cap : Array Value) (w : World), (Instr.makeFunc fn first cap).run Try.prog w = .ok (.func fn first cap) w := fun _ _ _ _ => rfl
  have a0 := as_delayUnit_0
  have a1 := as_delayUnit_1
  have a2 := as_delayUnit_2
  go_enter_defers Try.func62, Try.ntmps62
  go_wp2_with fail
  refine leaves_cons (f := 86) (args := #[.pointer (some ⟨w.heap.size, 0, none⟩)]) (by simp) (by simp [go_sem]) ?_
  refine (catch_idle ⟨w.heap.size, 0, none⟩ _).mono ?_
  rintro e u' w'' ⟨rfl, rfl, rfl⟩
  simp [Leaves, settle, results, Try.results62, go_sem]
  exact (Span.refl _ _ _).alloc _

set_option maxRecDepth 100000 in
theorem impl_powersOf_4 (w : World) : Calls Try.prog 49 #[.int .i64 4] w fun e w' => e = .returned (.tuple #[.bool true, .bool false, .bool false]) ∧ Span 0 0 w w' := by
  go_enter Try.func49, Try.ntmps49
  go_wp2_with fail
  refine (unitOf_4 _).mono ?_
  rintro _ w1 ⟨b, rfl, s1⟩
  go_wp2_with fail
  refine (powersOf_4 _ _).mono ?_
  rintro _ w2 ⟨rfl, s2⟩
  have S2 := Lib.hid (s1.trans s2)
  clear s1 s2
  go_wp2_with fail
  go_region
  all_goals go_wp2_with fail
  all_goals exact bodyPost_ret (v := .tuple #[.bool true, .bool false, .bool false]) (by simp [results, Try.results49, go_sem]) rfl ⟨rfl, (S2.out.alloc _).drew⟩

theorem spec_powersOf_4 (w : World) : Calls Try.prog 48 #[.int .i64 4] w fun e w' => e = .returned (.tuple #[.bool true, .bool false, .bool false]) ∧ w = w' := by
  go_enter Try.func48, Try.ntmps48
  go_wp2_with fail
  exact bodyPost_ret (v := .tuple #[.bool true, .bool false, .bool false]) (by simp [results, Try.results48, go_sem]) rfl ⟨rfl, rfl⟩

theorem as_sumUnit_0 (v : Value) (xT : TypeId) (w : World) : (Instr.typeAssert (.iface 130 v) xT 86 true).run Try.prog w = .ok (.tuple #[.nilIface, .bool false]) w := run_typeAssert_lacksB Try.underlying86 (by kernel_rfl) (by kernel_rfl) v xT w
theorem as_sumUnit_1 (v : Value) (xT : TypeId) (w : World) : (Instr.typeAssert (.iface 130 v) xT 88 true).run Try.prog w = .ok (.tuple #[.nilIface, .bool false]) w := run_typeAssert_lacksB Try.underlying88 (by kernel_rfl) (by kernel_rfl) v xT w
theorem as_sumUnit_2 (v : Value) (xT : TypeId) (w : World) : (Instr.typeAssert (.iface 130 v) xT 90 true).run Try.prog w = .ok (.tuple #[.nilIface, .bool false]) w := run_typeAssert_lacksB Try.underlying90 (by kernel_rfl) (by kernel_rfl) v xT w

set_option maxRecDepth 100000 in
theorem unitOf_5 (w : World) : Calls Try.prog 73 #[zeroMod 5] w fun e w' => ∃ b, e = .returned (.iface 130 (.pointer (some ⟨b, 0, none⟩))) ∧ Span 0 0 w w' := by
  unfold zeroMod
  go_enter Try.func73, Try.ntmps73
  go_wp2_with fail
  go_ret
  exact ⟨_, rfl, ((Span.refl _ _ _).alloc _).alloc _⟩

set_option maxRecDepth 100000 in
theorem powersOf_5 (a : Addr) (w : World) : Calls Try.prog 62 #[.iface 130 (.pointer (some a))] w fun e w' => e = .returned (.agg #[.nilIface, .nilIface, .nilIface]) ∧ Span 0 0 w w' := by
  have hmf : ∀ (fn : Fn) (first cap : Array Value) (w : World), (Instr.makeFunc fn first cap).run Try.prog w = .ok (.func fn first cap) w := fun _ _ _ _ => rfl
  have a0 := as_sumUnit_0
  have a1 := as_sumUnit_1
  have a2 := as_sumUnit_2
  go_enter_defers Try.func62, Try.ntmps62
  go_wp2_with fail
  refine leaves_cons (f := 86) (args := #[.pointer (some ⟨w.heap.size, 0, none⟩)]) (by simp) (by simp [go_sem]) ?_
  refine (catch_idle ⟨w.heap.size, 0, none⟩ _).mono ?_
  rintro e u' w'' ⟨rfl, rfl, rfl⟩
  simp [Leaves, settle, results, Try.results62, go_sem]
  exact (Span.refl _ _ _).alloc _

set_option maxRecDepth 100000 in
theorem impl_powersOf_5 (w : World) : Calls Try.prog 49 #[.int .i64 5] w fun e w' => e = .returned (.tuple #[.bool false, .bool false, .bool false]) ∧ Span 0 0 w w' := by
  go_enter Try.func49, Try.ntmps49
  go_wp2_with fail
  refine (unitOf_5 _).mono ?_
  rintro _ w1 ⟨b, rfl, s1⟩
  go_wp2_with fail
  refine (powersOf_5 _ _).mono ?_
  rintro _ w2 ⟨rfl, s2⟩
  have S2 := Lib.hid (s1.trans s2)
  clear s1 s2
  go_wp2_with fail
  go_region
  all_goals go_wp2_with fail
  all_goals exact bodyPost_ret (v := .tuple #[.bool false, .bool false, .bool false]) (by simp [results, Try.results49, go_sem]) rfl ⟨rfl, (S2.out.alloc _).drew⟩

theorem spec_powersOf_5 (w : World) : Calls Try.prog 48 #[.int .i64 5] w fun e w' => e = .returned (.tuple #[.bool false, .bool false, .bool false]) ∧ w = w' := by
  go_enter Try.func48, Try.ntmps48
  go_wp2_with fail
  exact bodyPost_ret (v := .tuple #[.bool false, .bool false, .bool false]) (by simp [results, Try.results48, go_sem]) rfl ⟨rfl, rfl⟩

theorem as_slicerUnit_0 (v : Value) (xT : TypeId) (w : World) : (Instr.typeAssert (.iface 133 v) xT 86 true).run Try.prog w = .ok (.tuple #[.iface 133 v, .bool true]) w := run_typeAssert_hasB Try.underlying86 (by kernel_rfl) v xT w
theorem as_slicerUnit_1 (v : Value) (xT : TypeId) (w : World) : (Instr.typeAssert (.iface 133 v) xT 88 true).run Try.prog w = .ok (.tuple #[.nilIface, .bool false]) w := run_typeAssert_lacksB Try.underlying88 (by kernel_rfl) (by kernel_rfl) v xT w
theorem as_slicerUnit_2 (v : Value) (xT : TypeId) (w : World) : (Instr.typeAssert (.iface 133 v) xT 90 true).run Try.prog w = .ok (.tuple #[.iface 133 v, .bool true]) w := run_typeAssert_hasB Try.underlying90 (by kernel_rfl) v xT w

set_option maxRecDepth 100000 in
theorem unitOf_6 (w : World) : Calls Try.prog 73 #[zeroMod 6] w fun e w' => ∃ b, e = .returned (.iface 133 (.pointer (some ⟨b, 0, none⟩))) ∧ Span 0 0 w w' := by
  unfold zeroMod
  go_enter Try.func73, Try.ntmps73
  go_wp2_with fail
  go_ret
  exact ⟨_, rfl, ((Span.refl _ _ _).alloc _).alloc _⟩

set_option maxRecDepth 100000 in
theorem powersOf_6 (a : Addr) (w : World) : Calls Try.prog 62 #[.iface 133 (.pointer (some a))] w fun e w' => e = .returned (.agg #[.iface 133 (.pointer (some a)), .nilIface, .iface 133 (.pointer (some a))]) ∧ Span 0 0 w w' := by
  have hmf : ∀ (fn : Fn) (first cap : Array Value) (w : World), (Instr.makeFunc fn first cap).run Try.prog w = .ok (.func fn first cap) w := fun _ _ _ _ => rfl
  have a0 := as_slicerUnit_0
  have a1 := as_slicerUnit_1
  have a2 := as_slicerUnit_2
  go_enter_defers Try.func62, Try.ntmps62
  go_wp2_with fail
  refine leaves_cons (f := 86) (args := #[.pointer (some ⟨w.heap.size, 0, none⟩)]) (by simp) (by simp [go_sem]) ?_
  refine (catch_idle ⟨w.heap.size, 0, none⟩ _).mono ?_
  rintro e u' w'' ⟨rfl, rfl, rfl⟩
  simp [Leaves, settle, results, Try.results62, go_sem]
  exact (Span.refl _ _ _).alloc _

set_option maxRecDepth 100000 in
theorem impl_powersOf_6 (w : World) : Calls Try.prog 49 #[.int .i64 6] w fun e w' => e = .returned (.tuple #[.bool true, .bool false, .bool true]) ∧ Span 0 0 w w' := by
  go_enter Try.func49, Try.ntmps49
  go_wp2_with fail
  refine (unitOf_6 _).mono ?_
  rintro _ w1 ⟨b, rfl, s1⟩
  go_wp2_with fail
  refine (powersOf_6 _ _).mono ?_
  rintro _ w2 ⟨rfl, s2⟩
  have S2 := Lib.hid (s1.trans s2)
  clear s1 s2
  go_wp2_with fail
  go_region
  all_goals go_wp2_with fail
  all_goals exact bodyPost_ret (v := .tuple #[.bool true, .bool false, .bool true]) (by simp [results, Try.results49, go_sem]) rfl ⟨rfl, (S2.out.alloc _).drew⟩

theorem spec_powersOf_6 (w : World) : Calls Try.prog 48 #[.int .i64 6] w fun e w' => e = .returned (.tuple #[.bool true, .bool false, .bool true]) ∧ w = w' := by
  go_enter Try.func48, Try.ntmps48
  go_wp2_with fail
  exact bodyPost_ret (v := .tuple #[.bool true, .bool false, .bool true]) (by simp [results, Try.results48, go_sem]) rfl ⟨rfl, rfl⟩

theorem as_meterUnit_0 (v : Value) (xT : TypeId) (w : World) : (Instr.typeAssert (.iface 136 v) xT 86 true).run Try.prog w = .ok (.tuple #[.iface 136 v, .bool true]) w := run_typeAssert_hasB Try.underlying86 (by kernel_rfl) v xT w
theorem as_meterUnit_1 (v : Value) (xT : TypeId) (w : World) : (Instr.typeAssert (.iface 136 v) xT 88 true).run Try.prog w = .ok (.tuple #[.nilIface, .bool false]) w := run_typeAssert_lacksB Try.underlying88 (by kernel_rfl) (by kernel_rfl) v xT w
theorem as_meterUnit_2 (v : Value) (xT : TypeId) (w : World) : (Instr.typeAssert (.iface 136 v) xT 90 true).run Try.prog w = .ok (.tuple #[.iface 136 v, .bool true]) w := run_typeAssert_hasB Try.underlying90 (by kernel_rfl) v xT w

set_option maxRecDepth 100000 in
theorem unitOf_7 (w : World) : Calls Try.prog 73 #[zeroMod 7] w fun e w' => ∃ b, e = .returned (.iface 136 (.pointer (some ⟨b, 0, none⟩))) ∧ Span 0 0 w w' := by
  unfold zeroMod
  go_enter Try.func73, Try.ntmps73
  go_wp2_with fail
  go_ret
  exact ⟨_, rfl, ((Span.refl _ _ _).alloc _).alloc _⟩

set_option maxRecDepth 100000 in
theorem powersOf_7 (a : Addr) (w : World) : Calls Try.prog 62 #[.iface 136 (.pointer (some a))] w fun e w' => e = .returned (.agg #[.iface 136 (.pointer (some a)), .nilIface, .iface 136 (.pointer (some a))]) ∧ Span 0 0 w w' := by
  have hmf : ∀ (fn : Fn) (first cap : Array Value) (w : World), (Instr.makeFunc fn first cap).run Try.prog w = .ok (.func fn first cap) w := fun _ _ _ _ => rfl
  have a0 := as_meterUnit_0
  have a1 := as_meterUnit_1
  have a2 := as_meterUnit_2
  go_enter_defers Try.func62, Try.ntmps62
  go_wp2_with fail
  refine leaves_cons (f := 86) (args := #[.pointer (some ⟨w.heap.size, 0, none⟩)]) (by simp) (by simp [go_sem]) ?_
  refine (catch_idle ⟨w.heap.size, 0, none⟩ _).mono ?_
  rintro e u' w'' ⟨rfl, rfl, rfl⟩
  simp [Leaves, settle, results, Try.results62, go_sem]
  exact (Span.refl _ _ _).alloc _

set_option maxRecDepth 100000 in
theorem impl_powersOf_7 (w : World) : Calls Try.prog 49 #[.int .i64 7] w fun e w' => e = .returned (.tuple #[.bool true, .bool false, .bool true]) ∧ Span 0 0 w w' := by
  go_enter Try.func49, Try.ntmps49
  go_wp2_with fail
  refine (unitOf_7 _).mono ?_
  rintro _ w1 ⟨b, rfl, s1⟩
  go_wp2_with fail
  refine (powersOf_7 _ _).mono ?_
  rintro _ w2 ⟨rfl, s2⟩
  have S2 := Lib.hid (s1.trans s2)
  clear s1 s2
  go_wp2_with fail
  go_region
  all_goals go_wp2_with fail
  all_goals exact bodyPost_ret (v := .tuple #[.bool true, .bool false, .bool true]) (by simp [results, Try.results49, go_sem]) rfl ⟨rfl, (S2.out.alloc _).drew⟩

theorem spec_powersOf_7 (w : World) : Calls Try.prog 48 #[.int .i64 7] w fun e w' => e = .returned (.tuple #[.bool true, .bool false, .bool true]) ∧ w = w' := by
  go_enter Try.func48, Try.ntmps48
  go_wp2_with fail
  exact bodyPost_ret (v := .tuple #[.bool true, .bool false, .bool true]) (by simp [results, Try.results48, go_sem]) rfl ⟨rfl, rfl⟩

theorem as_holdUnit_0 (v : Value) (xT : TypeId) (w : World) : (Instr.typeAssert (.iface 138 v) xT 86 true).run Try.prog w = .ok (.tuple #[.iface 138 v, .bool true]) w := run_typeAssert_hasB Try.underlying86 (by kernel_rfl) v xT w
theorem as_holdUnit_1 (v : Value) (xT : TypeId) (w : World) : (Instr.typeAssert (.iface 138 v) xT 88 true).run Try.prog w = .ok (.tuple #[.nilIface, .bool false]) w := run_typeAssert_lacksB Try.underlying88 (by kernel_rfl) (by kernel_rfl) v xT w
theorem as_holdUnit_2 (v : Value) (xT : TypeId) (w : World) : (Instr.typeAssert (.iface 138 v) xT 90 true).run Try.prog w = .ok (.tuple #[.iface 138 v, .bool true]) w := run_typeAssert_hasB Try.underlying90 (by kernel_rfl) v xT w

set_option maxRecDepth 100000 in
theorem unitOf_8 (w : World) : Calls Try.prog 73 #[zeroMod 8] w fun e w' => ∃ b, e = .returned (.iface 138 (.pointer (some ⟨b, 0, none⟩))) ∧ Span 0 0 w w' := by
  unfold zeroMod
  go_enter Try.func73, Try.ntmps73
  go_wp2_with fail
  go_ret
  exact ⟨_, rfl, ((Span.refl _ _ _).alloc _).alloc _⟩

set_option maxRecDepth 100000 in
theorem powersOf_8 (a : Addr) (w : World) : Calls Try.prog 62 #[.iface 138 (.pointer (some a))] w fun e w' => e = .returned (.agg #[.iface 138 (.pointer (some a)), .nilIface, .iface 138 (.pointer (some a))]) ∧ Span 0 0 w w' := by
  have hmf : ∀ (fn : Fn) (first cap : Array Value) (w : World), (Instr.makeFunc fn first cap).run Try.prog w = .ok (.func fn first cap) w := fun _ _ _ _ => rfl
  have a0 := as_holdUnit_0
  have a1 := as_holdUnit_1
  have a2 := as_holdUnit_2
  go_enter_defers Try.func62, Try.ntmps62
  go_wp2_with fail
  refine leaves_cons (f := 86) (args := #[.pointer (some ⟨w.heap.size, 0, none⟩)]) (by simp) (by simp [go_sem]) ?_
  refine (catch_idle ⟨w.heap.size, 0, none⟩ _).mono ?_
  rintro e u' w'' ⟨rfl, rfl, rfl⟩
  simp [Leaves, settle, results, Try.results62, go_sem]
  exact (Span.refl _ _ _).alloc _

set_option maxRecDepth 100000 in
theorem impl_powersOf_8 (w : World) : Calls Try.prog 49 #[.int .i64 8] w fun e w' => e = .returned (.tuple #[.bool true, .bool false, .bool true]) ∧ Span 0 0 w w' := by
  go_enter Try.func49, Try.ntmps49
  go_wp2_with fail
  refine (unitOf_8 _).mono ?_
  rintro _ w1 ⟨b, rfl, s1⟩
  go_wp2_with fail
  refine (powersOf_8 _ _).mono ?_
  rintro _ w2 ⟨rfl, s2⟩
  have S2 := Lib.hid (s1.trans s2)
  clear s1 s2
  go_wp2_with fail
  go_region
  all_goals go_wp2_with fail
  all_goals exact bodyPost_ret (v := .tuple #[.bool true, .bool false, .bool true]) (by simp [results, Try.results49, go_sem]) rfl ⟨rfl, (S2.out.alloc _).drew⟩

theorem spec_powersOf_8 (w : World) : Calls Try.prog 48 #[.int .i64 8] w fun e w' => e = .returned (.tuple #[.bool true, .bool false, .bool true]) ∧ w = w' := by
  go_enter Try.func48, Try.ntmps48
  go_wp2_with fail
  exact bodyPost_ret (v := .tuple #[.bool true, .bool false, .bool true]) (by simp [results, Try.results48, go_sem]) rfl ⟨rfl, rfl⟩

end Go.Proofs.Ytocmppilihiehaa
