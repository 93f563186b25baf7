/- The powers of a kind. -/
import Derived.Test.YtdmahikaajdkgaaJb16
import Derived.Test.YtdmahikaajdkgaaJb15
import Derived.Outline
import Derived.Defers
import Derived.Recover
import Derived.Laws.Pointers
import Derived.Stop.Asserts
namespace Go.Proofs.Ytdmahikaajdkgaa
open Go.RowKit

def zeroMod (n : Int) : Value := .agg #[.int .i64 n, .complex .f32 0 0, .complex .f32 0 0, .float .f32 0, .slice none 0 0, .int .i64 0, .int .i64 0, .slice none 0 0, .slice none 0 0, .int .i64 0, .int .i64 0]

theorem catch_idle (p : Addr) (w : World) :
    CallsD Try.prog 75 #[.pointer (some p)] .returning w fun e u' w' => e = .returned (.tuple #[]) ∧ u' = .returning ∧ w' = w := by
  refine callsD_of_wpS Try.func75 rfl fun c₀ cs hu => ?_
  apply wpS_seq
  apply wpS_region
  simp [wpOpsS, go_sem, recoverD, hu, Try.ntmps75, Exit.thenS]
  refine wpS_cond (t := false) (by simp [Act.eval, Array.replicate]) ?_
  simp only [Bool.false_eq_true, if_false]
  refine wpS_of_wp (wp_skip ?_)
  cases c₀
  simp_all [bodyPostS, results, Try.results75]

theorem as_sourceUnit_0 (v : Value) (xT : TypeId) (w : World) : (Instr.typeAssert (.iface 151 v) xT 91 true).run Try.prog w = .ok (.tuple #[.nilIface, .bool false]) w := run_typeAssert_lacksB Try.underlying91 (by kernel_rfl) (by kernel_rfl) v xT w
theorem as_sourceUnit_1 (v : Value) (xT : TypeId) (w : World) : (Instr.typeAssert (.iface 151 v) xT 93 true).run Try.prog w = .ok (.tuple #[.iface 151 v, .bool true]) w := run_typeAssert_hasB Try.underlying93 (by kernel_rfl) v xT w
theorem as_sourceUnit_2 (v : Value) (xT : TypeId) (w : World) : (Instr.typeAssert (.iface 151 v) xT 95 true).run Try.prog w = .ok (.tuple #[.iface 151 v, .bool true]) w := run_typeAssert_hasB Try.underlying95 (by kernel_rfl) v xT w

set_option maxRecDepth 100000 in
theorem unitOf_1 (w : World) : Calls Try.prog 71 #[zeroMod 1] w fun e w' => ∃ b, e = .returned (.iface 151 (.pointer (some ⟨b, 0, none⟩))) ∧ Span 0 0 w w' := by
  unfold zeroMod
  go_enter Try.func71, Try.ntmps71
  go_wp2_with fail
  go_ret
  exact ⟨_, rfl, ((Span.refl _ _ _).alloc _).alloc _⟩

set_option maxRecDepth 100000 in
theorem powersOf_1 (a : Addr) (w : World) : Calls Try.prog 49 #[.iface 151 (.pointer (some a))] w fun e w' => e = .returned (.agg #[.nilIface, .iface 151 (.pointer (some a)), .iface 151 (.pointer (some a))]) ∧ Span 0 0 w w' := by
  have hmf : ∀ (fn : Fn) (first cap : Array Value) (w : World), (Instr.makeFunc fn first cap).run Try.prog w = .ok (.func fn first cap) w := fun _ _ _ _ => rfl
  have a0 := as_sourceUnit_0
  have a1 := as_sourceUnit_1
  have a2 := as_sourceUnit_2
  go_enter_defers Try.func49, Try.ntmps49
  go_wp2_with fail
  refine leaves_cons (f := 75) (args := #[.pointer (some ⟨w.heap.size, 0, none⟩)]) (by simp) (by simp [go_sem]) ?_
  refine (catch_idle ⟨w.heap.size, 0, none⟩ _).mono ?_
  rintro e u' w'' ⟨rfl, rfl, rfl⟩
  simp [Leaves, settle, results, Try.results49, go_sem]
  exact (Span.refl _ _ _).alloc _

theorem as_mixerUnit_0 (v : Value) (xT : TypeId) (w : World) : (Instr.typeAssert (.iface 154 v) xT 91 true).run Try.prog w = .ok (.tuple #[.iface 154 v, .bool true]) w := run_typeAssert_hasB Try.underlying91 (by kernel_rfl) v xT w
theorem as_mixerUnit_1 (v : Value) (xT : TypeId) (w : World) : (Instr.typeAssert (.iface 154 v) xT 93 true).run Try.prog w = .ok (.tuple #[.iface 154 v, .bool true]) w := run_typeAssert_hasB Try.underlying93 (by kernel_rfl) v xT w
theorem as_mixerUnit_2 (v : Value) (xT : TypeId) (w : World) : (Instr.typeAssert (.iface 154 v) xT 95 true).run Try.prog w = .ok (.tuple #[.iface 154 v, .bool true]) w := run_typeAssert_hasB Try.underlying95 (by kernel_rfl) v xT w

set_option maxRecDepth 100000 in
theorem unitOf_2 (w : World) : Calls Try.prog 71 #[zeroMod 2] w fun e w' => ∃ b, e = .returned (.iface 154 (.pointer (some ⟨b, 0, none⟩))) ∧ Span 0 0 w w' := by
  unfold zeroMod
  go_enter Try.func71, Try.ntmps71
  go_wp2_with fail
  go_ret
  exact ⟨_, rfl, ((Span.refl _ _ _).alloc _).alloc _⟩

set_option maxRecDepth 100000 in
theorem powersOf_2 (a : Addr) (w : World) : Calls Try.prog 49 #[.iface 154 (.pointer (some a))] w fun e w' => e = .returned (.agg #[.iface 154 (.pointer (some a)), .iface 154 (.pointer (some a)), .iface 154 (.pointer (some a))]) ∧ Span 0 0 w w' := by
  have hmf : ∀ (fn : Fn) (first cap : Array Value) (w : World), (Instr.makeFunc fn first cap).run Try.prog w = .ok (.func fn first cap) w := fun _ _ _ _ => rfl
  have a0 := as_mixerUnit_0
  have a1 := as_mixerUnit_1
  have a2 := as_mixerUnit_2
  go_enter_defers Try.func49, Try.ntmps49
  go_wp2_with fail
  refine leaves_cons (f := 75) (args := #[.pointer (some ⟨w.heap.size, 0, none⟩)]) (by simp) (by simp [go_sem]) ?_
  refine (catch_idle ⟨w.heap.size, 0, none⟩ _).mono ?_
  rintro e u' w'' ⟨rfl, rfl, rfl⟩
  simp [Leaves, settle, results, Try.results49, go_sem]
  exact (Span.refl _ _ _).alloc _

theorem as_gainUnit_0 (v : Value) (xT : TypeId) (w : World) : (Instr.typeAssert (.iface 156 v) xT 91 true).run Try.prog w = .ok (.tuple #[.nilIface, .bool false]) w := run_typeAssert_lacksB Try.underlying91 (by kernel_rfl) (by kernel_rfl) v xT w
theorem as_gainUnit_1 (v : Value) (xT : TypeId) (w : World) : (Instr.typeAssert (.iface 156 v) xT 93 true).run Try.prog w = .ok (.tuple #[.iface 156 v, .bool true]) w := run_typeAssert_hasB Try.underlying93 (by kernel_rfl) v xT w
theorem as_gainUnit_2 (v : Value) (xT : TypeId) (w : World) : (Instr.typeAssert (.iface 156 v) xT 95 true).run Try.prog w = .ok (.tuple #[.nilIface, .bool false]) w := run_typeAssert_lacksB Try.underlying95 (by kernel_rfl) (by kernel_rfl) v xT w

set_option maxRecDepth 100000 in
theorem unitOf_3 (w : World) : Calls Try.prog 71 #[zeroMod 3] w fun e w' => ∃ b, e = .returned (.iface 156 (.pointer (some ⟨b, 0, none⟩))) ∧ Span 0 0 w w' := by
  unfold zeroMod
  go_enter Try.func71, Try.ntmps71
  go_wp2_with fail
  go_ret
  exact ⟨_, rfl, ((Span.refl _ _ _).alloc _).alloc _⟩

set_option maxRecDepth 100000 in
theorem powersOf_3 (a : Addr) (w : World) : Calls Try.prog 49 #[.iface 156 (.pointer (some a))] w fun e w' => e = .returned (.agg #[.nilIface, .iface 156 (.pointer (some a)), .nilIface]) ∧ Span 0 0 w w' := by
  have hmf : ∀ (fn : Fn) (first cap : Array Value) (w : World), (Instr.makeFunc fn first cap).run Try.prog w = .ok (.func fn first cap) w := fun _ _ _ _ => rfl
  have a0 := as_gainUnit_0
  have a1 := as_gainUnit_1
  have a2 := as_gainUnit_2
  go_enter_defers Try.func49, Try.ntmps49
  go_wp2_with fail
  refine leaves_cons (f := 75) (args := #[.pointer (some ⟨w.heap.size, 0, none⟩)]) (by simp) (by simp [go_sem]) ?_
  refine (catch_idle ⟨w.heap.size, 0, none⟩ _).mono ?_
  rintro e u' w'' ⟨rfl, rfl, rfl⟩
  simp [Leaves, settle, results, Try.results49, go_sem]
  exact (Span.refl _ _ _).alloc _

theorem as_delayUnit_0 (v : Value) (xT : TypeId) (w : World) : (Instr.typeAssert (.iface 159 v) xT 91 true).run Try.prog w = .ok (.tuple #[.iface 159 v, .bool true]) w := run_typeAssert_hasB Try.underlying91 (by kernel_rfl) v xT w
theorem as_delayUnit_1 (v : Value) (xT : TypeId) (w : World) : (Instr.typeAssert (.iface 159 v) xT 93 true).run Try.prog w = .ok (.tuple #[.nilIface, .bool false]) w := run_typeAssert_lacksB Try.underlying93 (by kernel_rfl) (by kernel_rfl) v xT w
theorem as_delayUnit_2 (v : Value) (xT : TypeId) (w : World) : (Instr.typeAssert (.iface 159 v) xT 95 true).run Try.prog w = .ok (.tuple #[.nilIface, .bool false]) w := run_typeAssert_lacksB Try.underlying95 (by kernel_rfl) (by kernel_rfl) v xT w

set_option maxRecDepth 100000 in
theorem unitOf_4 (w : World) : Calls Try.prog 71 #[zeroMod 4] w fun e w' => ∃ b, e = .returned (.iface 159 (.pointer (some ⟨b, 0, none⟩))) ∧ Span 0 0 w w' := by
  unfold zeroMod
  go_enter Try.func71, Try.ntmps71
  go_wp2_with fail
  go_ret
  exact ⟨_, rfl, ((Span.refl _ _ _).alloc _).alloc _⟩

set_option maxRecDepth 100000 in
theorem powersOf_4 (a : Addr) (w : World) : Calls Try.prog 49 #[.iface 159 (.pointer (some a))] w fun e w' => e = .returned (.agg #[.iface 159 (.pointer (some a)), .nilIface, .nilIface]) ∧ Span 0 0 w w' := by
  have hmf : ∀ (fn : Fn) (first cap : Array Value) (w : World), (Instr.makeFunc fn first cap).run Try.prog w = .ok (.func fn first cap) w := fun _ _ _ _ => rfl
  have a0 := as_delayUnit_0
  have a1 := as_delayUnit_1
  have a2 := as_delayUnit_2
  go_enter_defers Try.func49, Try.ntmps49
  go_wp2_with fail
  refine leaves_cons (f := 75) (args := #[.pointer (some ⟨w.heap.size, 0, none⟩)]) (by simp) (by simp [go_sem]) ?_
  refine (catch_idle ⟨w.heap.size, 0, none⟩ _).mono ?_
  rintro e u' w'' ⟨rfl, rfl, rfl⟩
  simp [Leaves, settle, results, Try.results49, go_sem]
  exact (Span.refl _ _ _).alloc _

theorem as_sumUnit_0 (v : Value) (xT : TypeId) (w : World) : (Instr.typeAssert (.iface 162 v) xT 91 true).run Try.prog w = .ok (.tuple #[.nilIface, .bool false]) w := run_typeAssert_lacksB Try.underlying91 (by kernel_rfl) (by kernel_rfl) v xT w
theorem as_sumUnit_1 (v : Value) (xT : TypeId) (w : World) : (Instr.typeAssert (.iface 162 v) xT 93 true).run Try.prog w = .ok (.tuple #[.nilIface, .bool false]) w := run_typeAssert_lacksB Try.underlying93 (by kernel_rfl) (by kernel_rfl) v xT w
theorem as_sumUnit_2 (v : Value) (xT : TypeId) (w : World) : (Instr.typeAssert (.iface 162 v) xT 95 true).run Try.prog w = .ok (.tuple #[.nilIface, .bool false]) w := run_typeAssert_lacksB Try.underlying95 (by kernel_rfl) (by kernel_rfl) v xT w

set_option maxRecDepth 100000 in
theorem unitOf_5 (w : World) : Calls Try.prog 71 #[zeroMod 5] w fun e w' => ∃ b, e = .returned (.iface 162 (.pointer (some ⟨b, 0, none⟩))) ∧ Span 0 0 w w' := by
  unfold zeroMod
  go_enter Try.func71, Try.ntmps71
  go_wp2_with fail
  go_ret
  exact ⟨_, rfl, ((Span.refl _ _ _).alloc _).alloc _⟩

set_option maxRecDepth 100000 in
theorem powersOf_5 (a : Addr) (w : World) : Calls Try.prog 49 #[.iface 162 (.pointer (some a))] w fun e w' => e = .returned (.agg #[.nilIface, .nilIface, .nilIface]) ∧ Span 0 0 w w' := by
  have hmf : ∀ (fn : Fn) (first cap : Array Value) (w : World), (Instr.makeFunc fn first cap).run Try.prog w = .ok (.func fn first cap) w := fun _ _ _ _ => rfl
  have a0 := as_sumUnit_0
  have a1 := as_sumUnit_1
  have a2 := as_sumUnit_2
  go_enter_defers Try.func49, Try.ntmps49
  go_wp2_with fail
  refine leaves_cons (f := 75) (args := #[.pointer (some ⟨w.heap.size, 0, none⟩)]) (by simp) (by simp [go_sem]) ?_
  refine (catch_idle ⟨w.heap.size, 0, none⟩ _).mono ?_
  rintro e u' w'' ⟨rfl, rfl, rfl⟩
  simp [Leaves, settle, results, Try.results49, go_sem]
  exact (Span.refl _ _ _).alloc _

theorem as_slicerUnit_0 (v : Value) (xT : TypeId) (w : World) : (Instr.typeAssert (.iface 165 v) xT 91 true).run Try.prog w = .ok (.tuple #[.iface 165 v, .bool true]) w := run_typeAssert_hasB Try.underlying91 (by kernel_rfl) v xT w
theorem as_slicerUnit_1 (v : Value) (xT : TypeId) (w : World) : (Instr.typeAssert (.iface 165 v) xT 93 true).run Try.prog w = .ok (.tuple #[.nilIface, .bool false]) w := run_typeAssert_lacksB Try.underlying93 (by kernel_rfl) (by kernel_rfl) v xT w
theorem as_slicerUnit_2 (v : Value) (xT : TypeId) (w : World) : (Instr.typeAssert (.iface 165 v) xT 95 true).run Try.prog w = .ok (.tuple #[.iface 165 v, .bool true]) w := run_typeAssert_hasB Try.underlying95 (by kernel_rfl) v xT w

set_option maxRecDepth 100000 in
theorem unitOf_6 (w : World) : Calls Try.prog 71 #[zeroMod 6] w fun e w' => ∃ b, e = .returned (.iface 165 (.pointer (some ⟨b, 0, none⟩))) ∧ Span 0 0 w w' := by
  unfold zeroMod
  go_enter Try.func71, Try.ntmps71
  go_wp2_with fail
  go_ret
  exact ⟨_, rfl, ((Span.refl _ _ _).alloc _).alloc _⟩

set_option maxRecDepth 100000 in
theorem powersOf_6 (a : Addr) (w : World) : Calls Try.prog 49 #[.iface 165 (.pointer (some a))] w fun e w' => e = .returned (.agg #[.iface 165 (.pointer (some a)), .nilIface, .iface 165 (.pointer (some a))]) ∧ Span 0 0 w w' := by
  have hmf : ∀ (fn : Fn) (first cap : Array Value) (w : World), (Instr.makeFunc fn first cap).run Try.prog w = .ok (.func fn first cap) w := fun _ _ _ _ => rfl
  have a0 := as_slicerUnit_0
  have a1 := as_slicerUnit_1
  have a2 := as_slicerUnit_2
  go_enter_defers Try.func49, Try.ntmps49
  go_wp2_with fail
  refine leaves_cons (f := 75) (args := #[.pointer (some ⟨w.heap.size, 0, none⟩)]) (by simp) (by simp [go_sem]) ?_
  refine (catch_idle ⟨w.heap.size, 0, none⟩ _).mono ?_
  rintro e u' w'' ⟨rfl, rfl, rfl⟩
  simp [Leaves, settle, results, Try.results49, go_sem]
  exact (Span.refl _ _ _).alloc _

theorem as_meterUnit_0 (v : Value) (xT : TypeId) (w : World) : (Instr.typeAssert (.iface 168 v) xT 91 true).run Try.prog w = .ok (.tuple #[.iface 168 v, .bool true]) w := run_typeAssert_hasB Try.underlying91 (by kernel_rfl) v xT w
theorem as_meterUnit_1 (v : Value) (xT : TypeId) (w : World) : (Instr.typeAssert (.iface 168 v) xT 93 true).run Try.prog w = .ok (.tuple #[.nilIface, .bool false]) w := run_typeAssert_lacksB Try.underlying93 (by kernel_rfl) (by kernel_rfl) v xT w
theorem as_meterUnit_2 (v : Value) (xT : TypeId) (w : World) : (Instr.typeAssert (.iface 168 v) xT 95 true).run Try.prog w = .ok (.tuple #[.iface 168 v, .bool true]) w := run_typeAssert_hasB Try.underlying95 (by kernel_rfl) v xT w

set_option maxRecDepth 100000 in
theorem unitOf_7 (w : World) : Calls Try.prog 71 #[zeroMod 7] w fun e w' => ∃ b, e = .returned (.iface 168 (.pointer (some ⟨b, 0, none⟩))) ∧ Span 0 0 w w' := by
  unfold zeroMod
  go_enter Try.func71, Try.ntmps71
  go_wp2_with fail
  go_ret
  exact ⟨_, rfl, ((Span.refl _ _ _).alloc _).alloc _⟩

set_option maxRecDepth 100000 in
theorem powersOf_7 (a : Addr) (w : World) : Calls Try.prog 49 #[.iface 168 (.pointer (some a))] w fun e w' => e = .returned (.agg #[.iface 168 (.pointer (some a)), .nilIface, .iface 168 (.pointer (some a))]) ∧ Span 0 0 w w' := by
  have hmf : ∀ (fn : Fn) (first cap : Array Value) (w : World), (Instr.makeFunc fn first cap).run Try.prog w = .ok (.func fn first cap) w := fun _ _ _ _ => rfl
  have a0 := as_meterUnit_0
  have a1 := as_meterUnit_1
  have a2 := as_meterUnit_2
  go_enter_defers Try.func49, Try.ntmps49
  go_wp2_with fail
  refine leaves_cons (f := 75) (args := #[.pointer (some ⟨w.heap.size, 0, none⟩)]) (by simp) (by simp [go_sem]) ?_
  refine (catch_idle ⟨w.heap.size, 0, none⟩ _).mono ?_
  rintro e u' w'' ⟨rfl, rfl, rfl⟩
  simp [Leaves, settle, results, Try.results49, go_sem]
  exact (Span.refl _ _ _).alloc _

theorem as_holdUnit_0 (v : Value) (xT : TypeId) (w : World) : (Instr.typeAssert (.iface 170 v) xT 91 true).run Try.prog w = .ok (.tuple #[.iface 170 v, .bool true]) w := run_typeAssert_hasB Try.underlying91 (by kernel_rfl) v xT w
theorem as_holdUnit_1 (v : Value) (xT : TypeId) (w : World) : (Instr.typeAssert (.iface 170 v) xT 93 true).run Try.prog w = .ok (.tuple #[.nilIface, .bool false]) w := run_typeAssert_lacksB Try.underlying93 (by kernel_rfl) (by kernel_rfl) v xT w
theorem as_holdUnit_2 (v : Value) (xT : TypeId) (w : World) : (Instr.typeAssert (.iface 170 v) xT 95 true).run Try.prog w = .ok (.tuple #[.iface 170 v, .bool true]) w := run_typeAssert_hasB Try.underlying95 (by kernel_rfl) v xT w

set_option maxRecDepth 100000 in
theorem unitOf_8 (w : World) : Calls Try.prog 71 #[zeroMod 8] w fun e w' => ∃ b, e = .returned (.iface 170 (.pointer (some ⟨b, 0, none⟩))) ∧ Span 0 0 w w' := by
  unfold zeroMod
  go_enter Try.func71, Try.ntmps71
  go_wp2_with fail
  go_ret
  exact ⟨_, rfl, ((Span.refl _ _ _).alloc _).alloc _⟩

set_option maxRecDepth 100000 in
theorem powersOf_8 (a : Addr) (w : World) : Calls Try.prog 49 #[.iface 170 (.pointer (some a))] w fun e w' => e = .returned (.agg #[.iface 170 (.pointer (some a)), .nilIface, .iface 170 (.pointer (some a))]) ∧ Span 0 0 w w' := by
  have hmf : ∀ (fn : Fn) (first cap : Array Value) (w : World), (Instr.makeFunc fn first cap).run Try.prog w = .ok (.func fn first cap) w := fun _ _ _ _ => rfl
  have a0 := as_holdUnit_0
  have a1 := as_holdUnit_1
  have a2 := as_holdUnit_2
  go_enter_defers Try.func49, Try.ntmps49
  go_wp2_with fail
  refine leaves_cons (f := 75) (args := #[.pointer (some ⟨w.heap.size, 0, none⟩)]) (by simp) (by simp [go_sem]) ?_
  refine (catch_idle ⟨w.heap.size, 0, none⟩ _).mono ?_
  rintro e u' w'' ⟨rfl, rfl, rfl⟩
  simp [Leaves, settle, results, Try.results49, go_sem]
  exact (Span.refl _ _ _).alloc _
end Go.Proofs.Ytdmahikaajdkgaa
