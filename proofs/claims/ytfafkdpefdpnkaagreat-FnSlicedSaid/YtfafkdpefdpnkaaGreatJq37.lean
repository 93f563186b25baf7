/- Modules of the kind slicer: unit, valid, module. -/
import Derived.Test.YtfafkdpefdpnkaaGreatJq32
import Derived.Test.YtfafkdpefdpnkaaGreatJq33
import Derived.Test.YtfafkdpefdpnkaaGreatJq29
import Derived.Test.YtfafkdpefdpnkaaGreatJq36
import Derived.BigQuiet
import Derived.Outline
namespace Go.Proofs.YtfafkdpefdpnkaaGreat
open Go.RowKit

theorem HasTab.allocS {o : Bool} {lo hi : Nat} {w : World} {v : Value} {t : Tab} (h : HasTab o lo hi w v t) (x : Obj) : HasTab o lo hi (w.alloc x) v t := h.span ((Span.refl 0 0 w).alloc x) (.inl (Nat.le_refl _))
theorem HasTab.drewS {o : Bool} {lo hi : Nat} {w : World} {v : Value} {t : Tab} (h : HasTab o lo hi w v t) (n : Nat) : HasTab o lo hi (w.drewN n) v t := h.span ((Span.refl 0 0 w).drewN n) (.inl (Nat.le_refl _))
theorem HasTab.keepS {o : Bool} {lo hi : Nat} {w w' : World} {v : Value} {t : Tab} (h : HasTab o lo hi w v t) (s : Span 0 0 w w') : HasTab o lo hi w' v t := h.span s (.inl (Nat.le_refl _))

set_option maxRecDepth 100000 in
theorem unitOf_slicer (A B : Option Addr) (n p q : Nat) (c : Int) (w : World) :
    Calls Tryz.prog 31 #[.agg #[.int .i64 6, .complex .f32 0 0, .complex .f32 0 0, .float .f32 0, .slice none 0 0, .int .i64 0, .int .i64 0, .slice A n p, .slice B n q, .int .i64 c, .int .i64 0]] w fun e w' => ∃ b, e = .returned (.iface 92 (.pointer (some ⟨b, 0, none⟩))) ∧ Bx b #[.slice A n p, .slice B n q, .int .i64 c] w' ∧ w.heap.size ≤ b ∧ Span 0 0 w w' := by
  go_enter Tryz.func31, Tryz.ntmps31
  go_wp2_with fail
  go_ret
  refine ⟨_, rfl, ?_, ?_, ((Span.refl _ _ _).alloc _).alloc _⟩
  · have := Bx.new (w.alloc (.cells #[.int .i64 6, .complex .f32 0 0, .complex .f32 0 0, .float .f32 0, .slice none 0 0, .int .i64 0, .int .i64 0, .slice A n p, .slice B n q, .int .i64 c, .int .i64 0] 33)) #[.slice A n p, .slice B n q, .int .i64 c] 94
    simpa using this
  · omega

theorem call_slicer_isValid (v : Value) (w : World) : (method 250 92 v "loop.example/g03223/impl.isValid").run Tryz.prog w = .ok (99, v) w := by kernel_rfl
theorem call_slicer_module (v : Value) (w : World) : (method 250 92 v "loop.example/g03223/impl.module").run Tryz.prog w = .ok (100, v) w := by kernel_rfl
theorem call_slicer_step (v : Value) (w : World) : (method 250 92 v "loop.example/g03223/impl.step").run Tryz.prog w = .ok (102, v) w := by kernel_rfl

set_option maxRecDepth 100000 in
set_option maxHeartbeats 4000000 in
theorem slicer_isValid (t : Tab) (hv : Valid t) (A B : Option Addr) (n p q : Nat) (c : Int) (b : Nat) (o : Bool) (lo hi : Nat) (w : World) (hx : Bx b #[.slice A n p, .slice B n q, .int .i64 c] w) (hs : HasTab o lo hi w (.agg #[.slice A n p, .slice B n q]) t) :
    Calls Tryz.prog 99 #[.pointer (some ⟨b, 0, none⟩)] w (True0 w) := by
  have cx := hx.cells
  have HT := Lib.hid (fun w h => impl_isTable_true t o lo hi (.agg #[.slice A n p, .slice B n q]) w h hv)
  have HS := Lib.hid hs
  clear hx hs hv
  go_enter Tryz.func99, Tryz.ntmps99
  go_wp2_with fail
  refine (HT.out _ HS.out).mono ?_
  rintro _ w1 ⟨rfl, s1⟩
  have S1 := Lib.hid s1
  clear s1
  go_wp2_with fail
  go_ret
  exact ⟨rfl, S1.out⟩

set_option maxRecDepth 100000 in
theorem slicer_module (b : Nat) (A B : Option Addr) (n p q : Nat) (c : Int) (w : World) (hx : Bx b #[.slice A n p, .slice B n q, .int .i64 c] w) :
    Calls Tryz.prog 100 #[.pointer (some ⟨b, 0, none⟩)] w fun e w' => e = .returned (.agg #[.int .i64 6, .complex .f32 0 0, .complex .f32 0 0, .float .f32 0, .slice none 0 0, .int .i64 0, .int .i64 0, .slice A n p, .slice B n q, .int .i64 c, .int .i64 0]) ∧ Span 0 0 w w' := by
  have cx := hx.cells
  have ca := hx.cellsA
  clear hx
  go_enter Tryz.func100, Tryz.ntmps100
  go_wp2_with fail
  try go_region
  all_goals try go_wp2_with fail
  all_goals exact bodyPost_ret (v := .agg #[.int .i64 6, .complex .f32 0 0, .complex .f32 0 0, .float .f32 0, .slice none 0 0, .int .i64 0, .int .i64 0, .slice A n p, .slice B n q, .int .i64 c, .int .i64 0]) (by simp [results, Tryz.results100, go_sem]) rfl ⟨rfl, by first | exact (Span.refl _ _ _).alloc _ | exact ((Span.refl _ _ _).alloc _).drew⟩

theorem ReadM.slicer {t : Tab} {A B : Option Addr} {n p q : Nat} (c : Int) {o : Bool} {lo hi : Nat} {w : World} (hs : HasTab o lo hi w (.agg #[.slice A n p, .slice B n q]) t) : ReadM w (.agg #[.int .i64 6, .complex .f32 0 0, .complex .f32 0 0, .float .f32 0, .slice none 0 0, .int .i64 0, .int .i64 0, .slice A n p, .slice B n q, .int .i64 c, .int .i64 0]) ⟨6, (0, 0), (0, 0), 0, ⟨[], 0, 0⟩, c, 0⟩ t := by
  obtain ⟨b1, b2, vP, vL, e, _, h1, h2⟩ := hs
  cases e
  exact ⟨_, _, _, 0, b1, b2, rfl, HasS.empty _ _ _ _ _ _ _ _, h1.bare.weak (Nat.zero_le _) (.inr (Nat.le_refl _)), h2.bare.weak (Nat.zero_le _) (.inr (Nat.le_refl _))⟩

set_option maxRecDepth 100000 in
set_option maxHeartbeats 4000000 in
theorem isModule_slicer (t : Tab) (hv : Valid t) (A B : Option Addr) (n p q : Nat) (c : Int) (o : Bool) (lo hi : Nat) (w : World) (hs : HasTab o lo hi w (.agg #[.slice A n p, .slice B n q]) t) : Calls Tryz.prog 28 #[.agg #[.int .i64 6, .complex .f32 0 0, .complex .f32 0 0, .float .f32 0, .slice none 0 0, .int .i64 0, .int .i64 0, .slice A n p, .slice B n q, .int .i64 c, .int .i64 0]] w (True0 w) := by
  have cm1 := call_slicer_isValid
  have cm2 := call_slicer_module
  have HI := Lib.hid (fun b w h k => slicer_isValid t hv A B n p q c b o lo hi w h k)
  have HL1 := Lib.hid (show t.1.length ≤ 4194304 by have := hv.most; omega)
  have HL2 := Lib.hid (show t.2.length ≤ 4194304 by have := hv.most; have := hv.len; omega)
  have HG := Lib.hid hs
  clear hv hs
  go_enter Tryz.func28, Tryz.ntmps28
  go_wp2_with fail
  refine (unitOf_slicer A B n p q c _).mono ?_
  rintro _ w1 ⟨b, rfl, x1, _, s1'⟩
  have B0 := (Bx.new w #[.int .i64 6, .complex .f32 0 0, .complex .f32 0 0, .float .f32 0, .slice none 0 0, .int .i64 0, .int .i64 0, .slice A n p, .slice B n q, .int .i64 c, .int .i64 0] 33).keep s1'
  have HS := Lib.hid (((Span.refl 0 0 w).alloc (.cells #[.int .i64 6, .complex .f32 0 0, .complex .f32 0 0, .float .f32 0, .slice none 0 0, .int .i64 0, .int .i64 0, .slice A n p, .slice B n q, .int .i64 c, .int .i64 0] 33)).trans s1')
  have HG1 := Lib.hid (HG.out.span HS.out (.inl (Nat.le_refl _)))
  have X1 := Lib.hid x1
  have HB := Lib.hid B0
  have c0 := B0.cells
  clear s1' x1 B0
  go_wp2_with fail
  go_region_with (first
    | (go_at_call 99; go_loud (refine (HI.out _ _ (X1.out.drewN _) (HG1.out.drewS _)).mono ?_; rintro _ wv ⟨rfl, sv'⟩; have HSv : Hid (Span 0 0 w1 wv) := (by first | exact sv' | exact sv'.undrawn' | exact Span.undrawn' (n := 1) sv'); have cv := (HB.out.keep HSv.out).cells; clear sv'))
    | (go_at_call 100; go_loud (refine (slicer_module _ A B n p q _ _ (X1.out.keep HSv.out)).mono ?_; rintro _ w2 ⟨rfl, s2'⟩; have HS2 : Hid (Span 0 0 w1 w2) := (by first | exact HSv.out.trans s2' | exact HSv.out.trans s2'.undrawn' | exact HSv.out.trans (Span.undrawn' (n := 1) s2')); have c2 := (HB.out.keep HS2.out).cells; have HG2 := Lib.hid (HG1.out.span HS2.out (.inl (Nat.le_refl _))); clear s2'))
    | (go_at_call 40; go_loud (refine (sameModules_self ⟨6, (0, 0), (0, 0), 0, ⟨[], 0, 0⟩, c, 0⟩ t _ _ _ (ReadM.slicer _ HG2.out) (ReadM.slicer _ HG2.out) (by simp) HL1.out HL2.out).mono ?_; rintro _ w3 ⟨rfl, s3'⟩; have HS3 : Hid (Span 0 0 w1 w3) := (by first | exact HS2.out.trans s3' | exact HS2.out.trans s3'.undrawn' | exact HS2.out.trans (Span.undrawn' (n := 1) s3')); clear s3')))
  all_goals go_wp2_with fail
  all_goals go_ret
  all_goals exact ⟨rfl, HS.out.trans HS3.out⟩
end Go.Proofs.YtfafkdpefdpnkaaGreat
