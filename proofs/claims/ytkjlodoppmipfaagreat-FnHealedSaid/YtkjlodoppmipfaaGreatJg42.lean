/- Modules of the kind gain: unit, valid, module. Modules of the kind gain are stepped. A source, a delay of n, a gain of two, and one of a half: what is traced. -/
import Derived.Test.YtkjlodoppmipfaaGreatJg25
import Derived.Test.YtkjlodoppmipfaaGreatJg26
import Derived.Test.YtkjlodoppmipfaaGreatJg27
import Derived.BigQuiet
import Derived.Outline
import Derived.Test.YtkjlodoppmipfaaGreatJg9
import Derived.Test.YtkjlodoppmipfaaGreatJg13
import Derived.StillTailTactics
import Derived.Test.YtkjlodoppmipfaaGreatJg41
import Derived.Test.YtkjlodoppmipfaaGreatJg31
namespace Go.Proofs.YtkjlodoppmipfaaGreat
section
open Go.RowKit

set_option maxRecDepth 100000 in
theorem unitOf_gain (l : Nat) (w : World) :
    Calls Tryz.prog 59 #[.agg #[.int .i64 3, .complex .f32 0 0, .complex .f32 0 0, .float .f32 l, .slice none 0 0, .int .i64 0, .int .i64 0, .slice none 0 0, .slice none 0 0, .int .i64 0, .int .i64 0]] w fun e w' => ∃ b, e = .returned (.iface 131 (.pointer (some ⟨b, 0, none⟩))) ∧ Bx b #[.float .f32 l] w' ∧ w.heap.size ≤ b ∧ Span 0 0 w w' := by
  go_enter Tryz.func59, Tryz.ntmps59
  go_wp2_with fail
  go_ret
  refine ⟨_, rfl, ?_, ?_, ((Span.refl _ _ _).alloc _).alloc _⟩
  · have := Bx.new (w.alloc (.cells #[.int .i64 3, .complex .f32 0 0, .complex .f32 0 0, .float .f32 l, .slice none 0 0, .int .i64 0, .int .i64 0, .slice none 0 0, .slice none 0 0, .int .i64 0, .int .i64 0] 32)) #[.float .f32 l] 133
    simpa using this
  · omega

theorem call_gain_isValid (v : Value) (w : World) : (method 314 131 v "loop.example/g03223/impl.isValid").run Tryz.prog w = .ok (153, v) w := by kernel_rfl
theorem call_gain_module (v : Value) (w : World) : (method 314 131 v "loop.example/g03223/impl.module").run Tryz.prog w = .ok (154, v) w := by kernel_rfl
theorem call_gain_step (v : Value) (w : World) : (method 314 131 v "loop.example/g03223/impl.step").run Tryz.prog w = .ok (155, v) w := by kernel_rfl

theorem gain_isValid (b : Nat) (l : Nat) (w : World) (hx : Bx b #[.float .f32 l] w) :
    Calls Tryz.prog 153 #[.pointer (some ⟨b, 0, none⟩)] w (SaysTrue w) := by
  have cx := hx.cells
  clear hx
  go_enter Tryz.func153, Tryz.ntmps153
  go_wp2_with fail
  go_ret
  exact ⟨0, rfl, rfl⟩

set_option maxRecDepth 100000 in
theorem gain_module (b : Nat) (l : Nat) (w : World) (hx : Bx b #[.float .f32 l] w) :
    Calls Tryz.prog 154 #[.pointer (some ⟨b, 0, none⟩)] w fun e w' => e = .returned (.agg #[.int .i64 3, .complex .f32 0 0, .complex .f32 0 0, .float .f32 l, .slice none 0 0, .int .i64 0, .int .i64 0, .slice none 0 0, .slice none 0 0, .int .i64 0, .int .i64 0]) ∧ Span 0 0 w w' := by
  have cx := hx.cells
  have ca := hx.cellsA
  clear hx
  go_enter Tryz.func154, Tryz.ntmps154
  go_wp2_with fail
  try go_region
  all_goals try go_wp2_with fail
  all_goals exact bodyPost_ret (v := .agg #[.int .i64 3, .complex .f32 0 0, .complex .f32 0 0, .float .f32 l, .slice none 0 0, .int .i64 0, .int .i64 0, .slice none 0 0, .slice none 0 0, .int .i64 0, .int .i64 0]) (by simp [results, Tryz.results154, go_sem]) rfl ⟨rfl, by first | exact (Span.refl _ _ _).alloc _ | exact ((Span.refl _ _ _).alloc _).drew⟩

theorem ReadM.gain (l : Nat) (w : World) : ReadM w (.agg #[.int .i64 3, .complex .f32 0 0, .complex .f32 0 0, .float .f32 l, .slice none 0 0, .int .i64 0, .int .i64 0, .slice none 0 0, .slice none 0 0, .int .i64 0, .int .i64 0]) ⟨3, (0, 0), (0, 0), l, ⟨[], 0, 0⟩, 0, 0⟩ ([], []) :=
  ⟨_, _, _, 0, 0, 0, rfl, HasS.empty _ _ _ _ _ _ _ _, HasS.empty _ _ _ _ _ _ _ _, HasS.empty _ _ _ _ _ _ _ _⟩

set_option maxRecDepth 100000 in
set_option maxHeartbeats 4000000 in
theorem isModule_gain (l : Nat) (w : World) : Calls Tryz.prog 53 #[.agg #[.int .i64 3, .complex .f32 0 0, .complex .f32 0 0, .float .f32 l, .slice none 0 0, .int .i64 0, .int .i64 0, .slice none 0 0, .slice none 0 0, .int .i64 0, .int .i64 0]] w (True0 w) := by
  have cm1 := call_gain_isValid
  have cm2 := call_gain_module
  have HI := Lib.hid (fun b w h => gain_isValid b l w h)
  skip
  go_enter Tryz.func53, Tryz.ntmps53
  go_wp2_with fail
  refine (unitOf_gain _ _).mono ?_
  rintro _ w1 ⟨b, rfl, x1, _, s1'⟩
  have B := (Bx.new w #[.int .i64 3, .complex .f32 0 0, .complex .f32 0 0, .float .f32 l, .slice none 0 0, .int .i64 0, .int .i64 0, .slice none 0 0, .slice none 0 0, .int .i64 0, .int .i64 0] 32).keep s1'
  have HS := Lib.hid (((Span.refl 0 0 w).alloc (.cells #[.int .i64 3, .complex .f32 0 0, .complex .f32 0 0, .float .f32 l, .slice none 0 0, .int .i64 0, .int .i64 0, .slice none 0 0, .slice none 0 0, .int .i64 0, .int .i64 0] 32)).trans s1')
  have X1 := Lib.hid x1
  have HB := Lib.hid B
  have c0 := B.cells
  clear s1' x1 B
  go_wp2_with fail
  go_region_with (first
    | (go_at_call 153; go_loud (refine (HI.out _ _ (X1.out.drewN _)).mono ?_; rintro _ _ ⟨m1, rfl, rfl⟩))
    | (go_at_call 154; go_loud (refine (gain_module _ _ _ (X1.out.drewN _)).mono ?_; rintro _ w2 ⟨rfl, s2'⟩; have c0 := ((HB.out.drewN _).keep s2').cells; have HS2 : Hid (Span 0 0 w w2) := (by first | exact HS.out.trans s2' | exact HS.out.trans s2'.undrawn' | exact HS.out.trans (Span.undrawn' (n := 1) s2')); clear s2'))
    | (go_at_call 64; go_loud (refine (sameModules_self _ ([], []) _ _ _ (ReadM.gain _ _) (ReadM.gain _ _) (by simp) (by simp) (by simp)).mono ?_; rintro _ w3 ⟨rfl, s3'⟩; have HS3 : Hid (Span 0 0 w w3) := (by first | exact HS2.out.trans s3' | exact HS2.out.trans s3'.undrawn' | exact HS2.out.trans (Span.undrawn' (n := 1) s3')); clear s3')))
  all_goals go_wp2_with fail
  all_goals go_ret
  all_goals exact ⟨rfl, HS3.out⟩
end
section
open Go.RowKit

theorem floatBits_lt {op : BinOp} {x y r : Nat} (h : floatBits op .f32 x y = some r) : r < 4294967296 := f32_lt (floatBits_wf h)
theorem flush_num (x : Nat) (hx : x < 4294967296) (hn : nanB .f32 (flushB x) = false) (w : World) : Calls Tryz.prog 60 #[.float .f32 x] w fun e w1 => e = .returned (.float .f32 (flushB x)) ∧ ∃ n, w1 = w.drewN n :=
  (impl_flushSmall x hx w).mono fun _ _ ⟨r, n, h1, h2, h3⟩ => by
    rcases h3 with rfl | ⟨_, h4⟩
    · exact ⟨h1, n, h2⟩
    · rw [hn] at h4; cases h4

set_option maxRecDepth 100000 in
set_option maxHeartbeats 1000000 in
theorem gain_step (b : Nat) (l p q x y : Nat) (hx : floatBits .mul .f32 p l = some x) (hy : floatBits .mul .f32 q l = some y) (nx : nanB .f32 (flushB x) = false) (ny : nanB .f32 (flushB y) = false) (w : World) (hb : Bx b #[.float .f32 l] w) :
    Calls Tryz.prog 155 #[.pointer (some ⟨b, 0, none⟩), .complex .f32 p q] w fun e w' => e = .returned (.complex .f32 (flushB x) (flushB y)) ∧ Bx b #[.float .f32 l] w' ∧ Span b (b + 1) w w' := by
  have FX := Lib.hid (fun w => flush_num x (floatBits_lt hx) nx w)
  have FY := Lib.hid (fun w => flush_num y (floatBits_lt hy) ny w)
  obtain ⟨a1, d1⟩ := ar_of hx
  obtain ⟨a2, d2⟩ := ar_of hy
  have cx := hb.cells
  have HX := Lib.hid hb
  obtain ⟨u, hu⟩ : ∃ u, u = flushB x := ⟨_, rfl⟩
  obtain ⟨v, hv⟩ : ∃ v, v = flushB y := ⟨_, rfl⟩
  rw [← hu] at FX ⊢
  rw [← hv] at FY ⊢
  clear hb hx hy nx ny hu hv
  go_enter Tryz.func155, Tryz.ntmps155
  go_wp2_with fail
  refine wp_region_quiet_lit (by kernel_rfl) (by kernel_rfl) ?_
  quiet_step (fail)
  quiet_step (fail)
  quiet_step (fail)
  quiet_step (fail)
  quiet_step (fail)
  quiet_step (fail)
  quiet_step (fail)
  quiet_step (first | (go_at_call 60; refine Calls.quiet_of (FX.out _)))
  quiet_step (fail)
  quiet_step (fail)
  quiet_step (fail)
  quiet_step (fail)
  quiet_step (fail)
  quiet_step (fail)
  quiet_step (fail)
  quiet_step (first | (go_at_call 60; refine Calls.quiet_of (FY.out _)))
  quiet_step (fail)
  quiet_step (fail)
  refine wpQuiet_nil ?_
  intro _ hw'
  obtain ⟨nq, hw''⟩ := hw'
  subst hw''
  go_wp2_with fail
  go_ret
  exact ⟨rfl, HX.out.drewN _, (Span.refl _ _ _).drewN _⟩
end
section
open Go.RowKit

/-- The turns; the samples of the source: 3 - 2i, turned by quarters. -/
def T4 : List Cx := [(1065353216, 0), (3212836864, 0), (0, 1065353216), (0, 3212836864)]
def Orb : List Cx := [(1077936128, 3221225472), (3225419776, 1073741824), (1073741824, 1077936128), (3221225472, 3225419776)]
def srcN (t s : Cx) : Cx := (mulS s t).getD (0, 0)
theorem orb_all : (T4.all fun t => Orb.all fun s => (mulS s t).isSome && Orb.contains (srcN t s)) = true := by decide +kernel
theorem orb_next {t s : Cx} (ht : t ∈ T4) (hs : s ∈ Orb) : mulS s t = some (srcN t s) ∧ srcN t s ∈ Orb := by
  have h := orb_all
  rw [List.all_eq_true] at h
  have h := h t ht
  rw [List.all_eq_true] at h
  have h := h s hs
  rw [Bool.and_eq_true] at h
  refine ⟨?_, by simpa using h.2⟩
  unfold srcN
  cases e : mulS s t with
  | none => rw [e] at h; exact absurd h.1 (by simp)
  | some x => rfl
def src (t : Cx) : Nat → Cx
  | 0 => (1077936128, 3221225472)
  | r + 1 => srcN t (src t r)
theorem src_mem {t : Cx} (ht : t ∈ T4) : ∀ r, src t r ∈ Orb
  | 0 => by simp [src, Orb]
  | r + 1 => (orb_next ht (src_mem ht r)).2

def Vals : List Cx := (0, 0) :: Orb
def dbl (z : Cx) : Cx := (fC .mul .f32 z.1 1073741824, fC .mul .f32 z.2 1073741824)
def okVal (z : Cx) : Bool :=
  (floatBits .mul .f32 z.1 1073741824 == some (dbl z).1) && (floatBits .mul .f32 z.2 1073741824 == some (dbl z).2) && (flushB (dbl z).1 == (dbl z).1) && (flushB (dbl z).2 == (dbl z).2) && (nanB .f32 (dbl z).1 == false) && (nanB .f32 (dbl z).2 == false) &&
  (floatBits .mul .f32 (dbl z).1 1056964608 == some z.1) && (floatBits .mul .f32 (dbl z).2 1056964608 == some z.2) && (flushB z.1 == z.1) && (flushB z.2 == z.2) && (nanB .f32 z.1 == false) && (nanB .f32 z.2 == false) &&
  (cSumBits .add .f32 0 0 z.1 z.2 == some z) && (cSumBits .add .f32 0 0 (dbl z).1 (dbl z).2 == some (dbl z)) && (FloatKind.f32.format.order z.1 z.1 == some .eq) && (FloatKind.f32.format.order z.2 z.2 == some .eq)
theorem vals_all : (Vals.all okVal) = true := by decide +kernel

def uGain (l : Nat) : Un := .box #[.float .f32 l]
theorem stepU_gain (l : Nat) (z y : Cx) (h1 : floatBits .mul .f32 z.1 l = some y.1) (h2 : floatBits .mul .f32 z.2 l = some y.2) (f1 : flushB y.1 = y.1) (f2 : flushB y.2 = y.2) (n1 : nanB .f32 y.1 = false) (n2 : nanB .f32 y.2 = false) : StepsU .gain (uGain l) z (uGain l) y := fun X g f w _ h => by
  obtain ⟨h3, rfl, hb⟩ := h
  have := gain_step g l z.1 z.2 y.1 y.2 h1 h2 (by rw [f1]; exact n1) (by rw [f2]; exact n2) w hb
  rw [f1, f2] at this
  exact this.mono fun e w' ⟨a, b, c⟩ => ⟨a, ⟨h3, rfl, b⟩, Keeps.of c (fun k g1 g2 => List.mem_singleton.2 (by omega))⟩

/-- What lies behind a delay of n. -/
def dly (t : Cx) (n m : Nat) : Cx := if m < n then (0, 0) else src t (m - n)
theorem dly_mem {t : Cx} (ht : t ∈ T4) (n m : Nat) : dly t n m ∈ Vals := by
  unfold dly Vals
  split
  · exact List.mem_cons_self
  · exact List.mem_cons_of_mem _ (src_mem ht _)
def rg (t : Cx) (n : Nat) : Nat → Rn
  | 0 => (List.replicate n (0, 0), 0, n)
  | r + 1 => pushR (rg t n r) (src t r)
theorem rg_len (t : Cx) (n : Nat) : ∀ r, (rg t n r).1.length = n
  | 0 => by simp [rg]
  | r + 1 => by rw [rg, pushR_len, rg_len t n r]
theorem rg_ok (t : Cx) {n : Nat} (h1 : 1 ≤ n) (h2 : n ≤ 16) : ∀ r, VR (rg t n r)
  | 0 => ⟨by simp [rg]; omega, by simp [rg]; omega, by simp [rg]; omega, by simp [rg], fun j g1 g2 => by simp [rg] at g1 g2; omega⟩
  | r + 1 => (rg_ok t h1 h2 r).push _
theorem rg_cnt (t : Cx) {n : Nat} (h1 : 1 ≤ n) (h2 : n ≤ 16) : ∀ r, (rg t n r).2.2 = n
  | 0 => rfl
  | r + 1 => by rw [rg, pushR_full_cnt (rg_ok t h1 h2 r) _ (by rw [rg_cnt t h1 h2 r, rg_len]), rg_cnt t h1 h2 r]
theorem rg_its (t : Cx) {n : Nat} (h1 : 1 ≤ n) (h2 : n ≤ 16) : ∀ r, itsR (rg t n r) = (List.range n).map fun k => dly t n (r + k)
  | 0 => by
    apply List.ext_getElem?
    intro j
    by_cases hj : j < n
    · rw [itsR_get (by rw [rg_cnt t h1 h2]; exact hj), List.getElem?_map, List.getElem?_range hj]
      simp [itemR, rg, dly, hj, List.getElem?_replicate]
      split <;> rfl
    · rw [List.getElem?_eq_none (by rw [itsR_length, rg_cnt t h1 h2]; omega), List.getElem?_eq_none (by simp; omega)]
  | r + 1 => by
    have h := itsR_push (rg_ok t h1 h2 r) (src t r)
    rw [if_pos (by rw [rg_cnt t h1 h2, rg_len]), rg_its t h1 h2 r] at h
    have e : (List.range n).map (fun k => dly t n (r + k)) ++ [src t r] = dly t n r :: (List.range n).map fun k => dly t n (r + 1 + k) := by
      have e1 : src t r = dly t n (r + n) := by unfold dly; rw [if_neg (by omega)]; congr 1; omega
      rw [e1]
      have e2 : (List.range n).map (fun k => dly t n (r + k)) ++ [dly t n (r + n)] = (List.range (n + 1)).map fun k => dly t n (r + k) := by rw [List.range_succ, List.map_append]; rfl
      rw [e2, List.range_succ_eq_map, List.map_cons, List.map_map]
      congr 1
      apply List.map_congr_left
      intro k _
      show dly t n (r + (k + 1)) = _
      congr 1; omega
    rw [e] at h
    exact (List.cons.inj h).2
theorem rg_old (t : Cx) {n : Nat} (h1 : 1 ≤ n) (h2 : n ≤ 16) (r : Nat) : oldR (rg t n r) = dly t n r := by
  have h := rg_its t h1 h2 r
  have h3 : (itsR (rg t n r))[0]? = some (itemR (rg t n r).1 (rg t n r).2.1 0) := itsR_get (by rw [rg_cnt t h1 h2]; omega)
  rw [h, List.getElem?_map, List.getElem?_range (by omega)] at h3
  unfold oldR
  rw [if_pos (by rw [rg_cnt t h1 h2, rg_len])]
  simp at h3
  exact h3.symm
theorem rg_read (t : Cx) {n : Nat} (h1 : 1 ≤ n) (h2 : n ≤ 16) (r : Nat) : (rg t n r).1.getD (rg t n r).2.1 (0, 0) = dly t n r := by
  rw [← rg_old t h1 h2 r]
  have ha := (rg_ok t h1 h2 r).at_
  unfold oldR itemR
  rw [if_pos (by rw [rg_cnt t h1 h2, rg_len]), Nat.add_zero, Nat.mod_eq_of_lt ha, List.getD_eq_getElem?_getD]
theorem rg_eta (t : Cx) {n : Nat} (h1 : 1 ≤ n) (h2 : n ≤ 16) (r : Nat) : ((rg t n r).1, (rg t n r).2.1, (rg t n r).1.length) = rg t n r := by
  have e : (rg t n r).1.length = (rg t n r).2.2 := by rw [rg_len, rg_cnt t h1 h2]
  rw [e]

def dlU (t : Cx) (n r : Nat) : List Un := [uSource t (src t r), .ring (rg t n r).1 (rg t n r).2.1, uGain 1073741824, uGain 1056964608]
def dlO (t : Cx) (n : Nat) : Nat → List Cx
  | 0 => [(0, 0), (0, 0), (0, 0), (0, 0)]
  | r + 1 => [src t r, dly t n r, dbl (dly t n r), dly t n r]
def trD (t : Cx) (n r : Nat) : Nat → List Un × List Cx
  | 0 => (dlU t n r, (dlO t n r).set 1 (dly t n r))
  | 1 => ((dlU t n r).set 0 (uSource t (src t (r + 1))), ((dlO t n r).set 1 (dly t n r)).set 0 (src t r))
  | 2 => (((dlU t n r).set 0 (uSource t (src t (r + 1)))).set 1 (.ring (rg t n (r + 1)).1 (rg t n (r + 1)).2.1), (((dlO t n r).set 1 (dly t n r)).set 0 (src t r)).set 1 (dly t n r))
  | 3 => ((((dlU t n r).set 0 (uSource t (src t (r + 1)))).set 1 (.ring (rg t n (r + 1)).1 (rg t n (r + 1)).2.1)).set 2 (uGain 1073741824), ((((dlO t n r).set 1 (dly t n r)).set 0 (src t r)).set 1 (dly t n r)).set 2 (dbl (dly t n r)))
  | _ => (((((dlU t n r).set 0 (uSource t (src t (r + 1)))).set 1 (.ring (rg t n (r + 1)).1 (rg t n (r + 1)).2.1)).set 2 (uGain 1073741824)).set 3 (uGain 1056964608), (((((dlO t n r).set 1 (dly t n r)).set 0 (src t r)).set 1 (dly t n r)).set 2 (dbl (dly t n r))).set 3 (dly t n r))
theorem trD_end (t : Cx) (n r : Nat) : trD t n r 4 = (dlU t n (r + 1), dlO t n (r + 1)) := by cases r <;> rfl

def mDelayN (n : Nat) (A : Option Addr) (p : Nat) : Mw := ⟨4, 0, 0, 0, 0, 0, A, n, p, 0, n, none, 0, 0, none, 0, 0, 0, 0⟩
def mGain (l : Nat) : Mw := ⟨3, 0, 0, 0, 0, l, none, 0, 0, 0, 0, none, 0, 0, none, 0, 0, 0, 0⟩
def dlMs (t : Cx) (n : Nat) (A : Option Addr) (p : Nat) : List Mw := [mSource t (1077936128, 3221225472), mDelayN n A p, mGain 1073741824, mGain 1056964608]
def dlCs : List (Nat × Nat) := [(0, 1), (1, 2), (2, 3)]
def dlRs (n : Nat) : List (List Cx × Tab) := [([], ([], [])), (List.replicate n (0, 0), ([], [])), ([], ([], [])), ([], ([], []))]
def dlK : List Kd := [.source, .delay, .gain, .gain]
theorem okM_delayN {n : Nat} (h1 : 1 ≤ n) (h2 : n ≤ 16) {A : Option Addr} {p : Nat} {o : Bool} {b lo hi : Nat} {w : World} (h : HasS cxV o b lo hi w (.slice A n p) (List.replicate n (0, 0))) : OkM w (mDelayN n A p) := fun w' s =>
  isModule_delay (List.replicate n (0, 0)) 0 n p A (by simp) (rg_ok (0, 0) h1 h2 0) o b lo hi w' (h.span s (.inl (Nat.le_refl _)))
theorem okM_gain (l : Nat) (w : World) : OkM w (mGain l) := fun w' _ => isModule_gain l w'

theorem stDel (t : Cx) (n : Nat) (A : Option Addr) (p : Nat) : ∀ r, stAt 4 (unOf dlK (dlMs t n A p) (dlRs n), List.replicate 4 (0, 0)) (trD t n) r = (dlU t n r, dlO t n r)
  | 0 => rfl
  | r + 1 => trD_end t n r
end
end Go.Proofs.YtkjlodoppmipfaaGreat
