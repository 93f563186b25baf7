/- Modules of the kind sum are stepped. A source's step. Sources and sums as units of a circuit. -/
import Derived.Test.YtghekafjccfjcaaJq48
import Derived.Outline
import Derived.Test.YtghekafjccfjcaaJq18
import Derived.Test.YtghekafjccfjcaaJq25
import Derived.Deep.RegionWith
import Derived.Test.YtghekafjccfjcaaJq40
import Derived.Test.YtghekafjccfjcaaJq47
namespace Go.Proofs.Ytghekafjccfjcaa
section
open Go.RowKit

theorem sum_step (b p q : Nat) (w : World) (hx : Bx b #[] w) :
    Calls Try.prog 87 #[.pointer (some ⟨b, 0, none⟩), .complex .f32 p q] w fun e w' => e = .returned (.complex .f32 p q) ∧ Bx b #[] w' ∧ Span b (b + 1) w w' := by
  have HX := Lib.hid hx
  clear hx
  go_enter Try.func87, Try.ntmps87
  go_wp2_with fail
  go_ret
  exact ⟨rfl, HX.out, Span.refl _ _ _⟩
end
section
open Go.RowKit

set_option maxRecDepth 100000 in
set_option maxHeartbeats 4000000 in
theorem source_stepK (g : Nat) (t s s' : Cx) (hm : mulS s t = some s') (z1 z2 : Nat) (w : World) (hx : Bx g #[.complex .f32 t.1 t.2, .complex .f32 s.1 s.2] w) :
    Calls Try.prog 63 #[.pointer (some ⟨g, 0, none⟩), .complex .f32 z1 z2] w fun e w' => e = .returned (.complex .f32 s.1 s.2) ∧ Bx g #[.complex .f32 t.1 t.2, .complex .f32 s'.1 s'.2] w' ∧ Span g (g + 1) w w' := by
  obtain ⟨t1, t2⟩ := t
  obtain ⟨s1, s2⟩ := s
  obtain ⟨r1, r2⟩ := s'
  have MU := Lib.hid (impl_multiply_some (s1, s2) (t1, t2) (r1, r2) hm)
  have HX := Lib.hid hx
  have cx := hx.cells
  have fx := hx.thaw
  clear hx hm
  simp only at MU cx fx
  go_enter Try.func63, Try.ntmps63
  go_wp2_with fail
  go_region_with (go_at_call 64; refine (MU.out _).mono ?_; rintro _ _ ⟨rfl, rfl⟩)
  all_goals
    go_wp2_with fail
    go_ret
    have h := HX.out.set 1 (.complex .f32 r1 r2) (by simp)
    have h2 : Bx g #[.complex .f32 t1 t2, .complex .f32 r1 r2] (w.setCell ⟨g, 1, none⟩ (.complex .f32 r1 r2)) := by simpa using h
    exact ⟨rfl, h2, ((Span.refl g (g + 1) w).setCell (p := ⟨g, 1, none⟩) (.inl ⟨Nat.le_refl _, Nat.lt_succ_self _⟩) _).drew⟩
end
section
open Go.RowKit

theorem newSumK_is (w : World) : Calls Try.prog 9 #[] w fun e w' => e = .returned (.agg #[.int .i64 5, .complex .f32 0 0, .complex .f32 0 0, .float .f32 0, .slice none 0 0, .int .i64 0, .int .i64 0, .slice none 0 0, .slice none 0 0, .int .i64 0, .int .i64 0]) ∧ Span 0 0 w w' := by
  go_enter Try.func9, Try.ntmps9
  go_wp2_with fail
  exact bodyPost_ret (v := .agg #[.int .i64 5, .complex .f32 0 0, .complex .f32 0 0, .float .f32 0, .slice none 0 0, .int .i64 0, .int .i64 0, .slice none 0 0, .slice none 0 0, .int .i64 0, .int .i64 0]) (by simp [results, Try.results9, go_sem]) rfl ⟨rfl, (Span.refl _ _ _).alloc _⟩
theorem newSourceK_is (t1 t2 s1 s2 : Nat) (w : World) : Calls Try.prog 8 #[.complex .f32 t1 t2, .complex .f32 s1 s2] w fun e w' => e = .returned (.agg #[.int .i64 1, .complex .f32 t1 t2, .complex .f32 s1 s2, .float .f32 0, .slice none 0 0, .int .i64 0, .int .i64 0, .slice none 0 0, .slice none 0 0, .int .i64 0, .int .i64 0]) ∧ Span 0 0 w w' := by
  go_enter Try.func8, Try.ntmps8
  go_wp2_with fail
  exact bodyPost_ret (v := .agg #[.int .i64 1, .complex .f32 t1 t2, .complex .f32 s1 s2, .float .f32 0, .slice none 0 0, .int .i64 0, .int .i64 0, .slice none 0 0, .slice none 0 0, .int .i64 0, .int .i64 0]) (by simp [results, Try.results8, go_sem]) rfl ⟨rfl, (Span.refl _ _ _).alloc _⟩

def mSource (t s : Cx) : Mw := ⟨1, t.1, t.2, s.1, s.2, 0, none, 0, 0, 0, 0, none, 0, 0, none, 0, 0, 0, 0⟩
def mSum : Mw := ⟨5, 0, 0, 0, 0, 0, none, 0, 0, 0, 0, none, 0, 0, none, 0, 0, 0, 0⟩
theorem okM_source (t s : Cx) (w : World) : OkM w (mSource t s) := fun w' _ => isModule_source t.1 t.2 s.1 s.2 w'
theorem okM_sum (w : World) : OkM w mSum := fun w' _ => isModule_sum w'

def uSource (t s : Cx) : Un := .box #[.complex .f32 t.1 t.2, .complex .f32 s.1 s.2]
def uSum : Un := .box #[]
theorem modU_source (t s : Cx) (H g : Nat) (f : List Nat) : ModU H (.source, g) f (uSource t s) (fun m => m = mSource t s) := fun w h => by
  obtain ⟨_, _, hb⟩ := h
  exact (source_module g t.1 t.2 s.1 s.2 w hb).mono fun e w' ⟨h1, h2⟩ => ⟨mSource t s, h1, rfl, h2⟩
theorem modU_sum (H g : Nat) (f : List Nat) : ModU H (.sum, g) f uSum (fun m => m = mSum) := fun w h => by
  obtain ⟨_, _, hb⟩ := h
  exact (sum_module g w hb).mono fun e w' ⟨h1, h2⟩ => ⟨mSum, h1, rfl, h2⟩
theorem stepU_sum (z : Cx) : StepsU .sum uSum z uSum z := fun H g f w h => by
  obtain ⟨h1, rfl, hb⟩ := h
  refine (sum_step g z.1 z.2 w hb).mono fun e w' ⟨h2, h3, h4⟩ => ⟨h2, ⟨h1, rfl, h3⟩, Keeps.of h4 (fun k g1 g2 => List.mem_singleton.2 (by omega))⟩

theorem stepU_source (t s s' z : Cx) (hm : mulS s t = some s') : StepsU .source (uSource t s) z (uSource t s') s := fun H g f w h => by
  obtain ⟨h1, rfl, hb⟩ := h
  refine (source_stepK g t s s' hm z.1 z.2 w hb).mono fun e w' ⟨h2, h3, h4⟩ => ⟨h2, ⟨h1, rfl, h3⟩, Keeps.of h4 (fun k g1 g2 => List.mem_singleton.2 (by omega))⟩
end
end Go.Proofs.Ytghekafjccfjcaa
