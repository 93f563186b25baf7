/- Rings: the oldest sample is taken, if there is one. Modules of the kind delay: unit, valid, module; copies. -/
import Derived.Test.YtpiiflhdllpoiaaJq37
import Derived.Outline
import Derived.Test.YtpiiflhdllpoiaaJq31
import Derived.Test.YtpiiflhdllpoiaaJq32
import Derived.Test.YtpiiflhdllpoiaaJq33
import Derived.BigQuiet
namespace Go.Proofs.Ytpiiflhdllpoiaa
section
open Go.RowKit

/-- What is given when a sample was taken. -/
def TakenR (r : Rn) (w : World) (e : Ending) (w' : World) : Prop :=
  ∃ v b, e = .returned (.tuple #[.agg #[v, .int .i64 ((takeR r).2.1 : Int), .int .i64 ((takeR r).2.2 : Int)], .complex .f32 (itemR r.1 r.2.1 0).1 (itemR r.1 r.2.1 0).2, .bool true]) ∧ HasS cxV true b w.heap.size w'.heap.size w' v (takeR r).1 ∧ Span 0 0 w w'
end
section
open Go.RowKit

set_option maxRecDepth 100000 in
theorem unitOf_delay (A : Option Addr) (n p : Nat) (a : Int) (w : World) :
    Calls Try.prog 32 #[.agg #[.int .i64 4, .complex .f32 0 0, .complex .f32 0 0, .float .f32 0, .slice A n p, .int .i64 a, .int .i64 (n : Int), .slice none 0 0, .slice none 0 0, .int .i64 0, .int .i64 0]] w fun e w' => ∃ b, e = .returned (.iface 106 (.pointer (some ⟨b, 0, none⟩))) ∧ Bx b #[.slice A n p, .int .i64 a, .int .i64 (n : Int)] w' ∧ w.heap.size ≤ b ∧ Span 0 0 w w' := by
  go_enter Try.func32, Try.ntmps32
  go_wp2_with fail
  go_ret
  refine ⟨_, rfl, ?_, ?_, ((Span.refl _ _ _).alloc _).alloc _⟩
  · have := Bx.new (w.alloc (.cells #[.int .i64 4, .complex .f32 0 0, .complex .f32 0 0, .float .f32 0, .slice A n p, .int .i64 a, .int .i64 (n : Int), .slice none 0 0, .slice none 0 0, .int .i64 0, .int .i64 0] 33)) #[.slice A n p, .int .i64 a, .int .i64 (n : Int)] 108
    simpa using this
  · omega

theorem call_delay_isValid (v : Value) (w : World) : (method 282 106 v "loop.example/g03223/impl.isValid").run Try.prog w = .ok (89, v) w := by kernel_rfl
theorem call_delay_module (v : Value) (w : World) : (method 282 106 v "loop.example/g03223/impl.module").run Try.prog w = .ok (90, v) w := by kernel_rfl
theorem call_delay_step (v : Value) (w : World) : (method 282 106 v "loop.example/g03223/impl.step").run Try.prog w = .ok (92, v) w := by kernel_rfl

set_option maxRecDepth 100000 in
set_option maxHeartbeats 4000000 in
theorem delay_isValid (xs : List Cx) (a n p : Nat) (A : Option Addr) (hn : n = xs.length) (hv : VR (xs, a, n)) (b : Nat) (o : Bool) (bs lo hi : Nat) (w : World) (hx : Bx b #[.slice A n p, .int .i64 (a : Int), .int .i64 (n : Int)] w) (hs : HasS cxV o bs lo hi w (.slice A n p) xs) :
    Calls Try.prog 89 #[.pointer (some ⟨b, 0, none⟩)] w (True0 w) := by
  have cx := hx.cells
  have HB := Lib.hid hx
  have IRX := Lib.hid (fun w (h : HasS cxV o bs lo hi w (.slice A n p) xs) => isRing_true xs a n hv o bs lo hi _ w h)
  have HS := Lib.hid hs
  clear hx hs hv hn
  go_enter Try.func89, Try.ntmps89
  go_wp2_with fail
  go_region_with (first
    | (go_at_call 93; go_loud (refine (IRX.out _ (by first | exact HS.out | exact HS.out.drewN _)).mono ?_; rintro _ w1 ⟨rfl, s1⟩; have c1 := (by first | exact (HB.out.keep s1).cells | exact ((HB.out.drewN _).keep s1).cells); have S1 : Hid (Span 0 0 w w1) := (by first | exact s1 | exact s1.undrawn' | exact Span.undrawn' (n := 1) s1); clear s1)))
  all_goals go_wp2_with fail
  all_goals go_ret
  all_goals exact ⟨rfl, S1.out⟩

set_option maxRecDepth 100000 in
theorem delay_module (b : Nat) (A : Option Addr) (n p : Nat) (a : Int) (w : World) (hx : Bx b #[.slice A n p, .int .i64 a, .int .i64 (n : Int)] w) :
    Calls Try.prog 90 #[.pointer (some ⟨b, 0, none⟩)] w fun e w' => e = .returned (.agg #[.int .i64 4, .complex .f32 0 0, .complex .f32 0 0, .float .f32 0, .slice A n p, .int .i64 a, .int .i64 (n : Int), .slice none 0 0, .slice none 0 0, .int .i64 0, .int .i64 0]) ∧ Span 0 0 w w' := by
  have cx := hx.cells
  have ca := hx.cellsA
  clear hx
  go_enter Try.func90, Try.ntmps90
  go_wp2_with fail
  try go_region
  all_goals try go_wp2_with fail
  all_goals exact bodyPost_ret (v := .agg #[.int .i64 4, .complex .f32 0 0, .complex .f32 0 0, .float .f32 0, .slice A n p, .int .i64 a, .int .i64 (n : Int), .slice none 0 0, .slice none 0 0, .int .i64 0, .int .i64 0]) (by simp [results, Try.results90, go_sem]) rfl ⟨rfl, by first | exact (Span.refl _ _ _).alloc _ | exact ((Span.refl _ _ _).alloc _).drew⟩

theorem ReadM.delay {xs : List Cx} {A : Option Addr} {n p : Nat} (a : Int) {o : Bool} {bs lo hi : Nat} {w : World} (hs : HasS cxV o bs lo hi w (.slice A n p) xs) : ReadM w (.agg #[.int .i64 4, .complex .f32 0 0, .complex .f32 0 0, .float .f32 0, .slice A n p, .int .i64 a, .int .i64 (n : Int), .slice none 0 0, .slice none 0 0, .int .i64 0, .int .i64 0]) ⟨4, (0, 0), (0, 0), 0, ⟨xs, a, (n : Nat)⟩, 0, 0⟩ ([], []) :=
  ⟨_, _, _, bs, 0, 0, rfl, hs.bare.weak (Nat.zero_le _) (.inr (Nat.le_refl _)), HasS.empty _ _ _ _ _ _ _ _, HasS.empty _ _ _ _ _ _ _ _⟩

set_option maxRecDepth 100000 in
set_option maxHeartbeats 4000000 in
theorem isModule_delay (xs : List Cx) (a n p : Nat) (A : Option Addr) (hn : n = xs.length) (hv : VR (xs, a, n)) (o : Bool) (bs lo hi : Nat) (w : World) (hs : HasS cxV o bs lo hi w (.slice A n p) xs) : Calls Try.prog 44 #[.agg #[.int .i64 4, .complex .f32 0 0, .complex .f32 0 0, .float .f32 0, .slice A n p, .int .i64 (a : Int), .int .i64 (n : Int), .slice none 0 0, .slice none 0 0, .int .i64 0, .int .i64 0]] w (True0 w) := by
  have cm1 := call_delay_isValid
  have cm2 := call_delay_module
  have HI := Lib.hid (fun b w h k => delay_isValid xs a n p A hn hv b o bs lo hi w h k)
  have HL := Lib.hid (show xs.length ≤ 4194304 by have := hv.most; simp only at this; omega)
  have HG := Lib.hid hs
  clear hn hv hs
  go_enter Try.func44, Try.ntmps44
  go_wp2_with fail
  refine (unitOf_delay A n p _ _).mono ?_
  rintro _ w1 ⟨b, rfl, x1, _, s1'⟩
  have B := (Bx.new w #[.int .i64 4, .complex .f32 0 0, .complex .f32 0 0, .float .f32 0, .slice A n p, .int .i64 (a : Int), .int .i64 (n : Int), .slice none 0 0, .slice none 0 0, .int .i64 0, .int .i64 0] 33).keep s1'
  have HS := Lib.hid (((Span.refl 0 0 w).alloc (.cells #[.int .i64 4, .complex .f32 0 0, .complex .f32 0 0, .float .f32 0, .slice A n p, .int .i64 (a : Int), .int .i64 (n : Int), .slice none 0 0, .slice none 0 0, .int .i64 0, .int .i64 0] 33)).trans s1')
  have HG1 := Lib.hid (HG.out.span HS.out (.inl (Nat.le_refl _)))
  have X1 := Lib.hid x1
  have HB := Lib.hid B
  have c0 := B.cells
  clear s1' x1 B
  go_wp2_with fail
  go_region_with (first
    | (go_at_call 89; go_loud (refine (HI.out _ _ (X1.out.drewN _) (HG1.out.drewN _)).mono ?_; rintro _ wv ⟨rfl, sv'⟩; have HSv : Hid (Span 0 0 w1 wv) := (by first | exact sv' | exact sv'.undrawn' | exact Span.undrawn' (n := 1) sv'); have cv := (HB.out.keep HSv.out).cells; clear sv'))
    | (go_at_call 90; go_loud (refine (delay_module _ A n p _ _ (X1.out.keep HSv.out)).mono ?_; rintro _ w2 ⟨rfl, s2'⟩; have HS2 : Hid (Span 0 0 w1 w2) := (by first | exact HSv.out.trans s2' | exact HSv.out.trans s2'.undrawn' | exact HSv.out.trans (Span.undrawn' (n := 1) s2')); have c2 := (HB.out.keep HS2.out).cells; have HG2 := Lib.hid (HG1.out.span HS2.out (.inl (Nat.le_refl _))); clear s2'))
    | (go_at_call 49; go_loud (refine (sameModules_self ⟨4, (0, 0), (0, 0), 0, ⟨xs, (a : Int), (n : Nat)⟩, 0, 0⟩ ([], []) _ _ _ (ReadM.delay _ HG2.out) (ReadM.delay _ HG2.out) HL.out (by simp) (by simp)).mono ?_; rintro _ w3 ⟨rfl, s3'⟩; have HS3 : Hid (Span 0 0 w1 w3) := (by first | exact HS2.out.trans s3' | exact HS2.out.trans s3'.undrawn' | exact HS2.out.trans (Span.undrawn' (n := 1) s3')); clear s3')))
  all_goals go_wp2_with fail
  all_goals go_ret
  all_goals exact ⟨rfl, HS.out.trans HS3.out⟩
end
end Go.Proofs.Ytpiiflhdllpoiaa
