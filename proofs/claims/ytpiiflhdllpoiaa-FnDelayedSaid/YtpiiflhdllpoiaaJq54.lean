/- The rack of FnDelayed, laid in any order; what the law asks besides. -/
import Derived.Test.YtpiiflhdllpoiaaJq53
import Derived.Test.YtpiiflhdllpoiaaJq46
import Derived.Test.YtpiiflhdllpoiaaJq47
import Derived.Test.YtpiiflhdllpoiaaJq10
import Derived.BigQuiet
import Derived.Deep.QuietTactic
import Derived.Outline
namespace Go.Proofs.Ytpiiflhdllpoiaa
open Go.RowKit

theorem newGainK_is (l : Nat) (w : World) : Calls Try.prog 9 #[.float .f32 l] w fun e w' => e = .returned (.agg #[.int .i64 3, .complex .f32 0 0, .complex .f32 0 0, .float .f32 l, .slice none 0 0, .int .i64 0, .int .i64 0, .slice none 0 0, .slice none 0 0, .int .i64 0, .int .i64 0]) ∧ Span 0 0 w w' := by
  go_enter Try.func9, Try.ntmps9
  go_wp2_with fail
  exact bodyPost_ret (v := .agg #[.int .i64 3, .complex .f32 0 0, .complex .f32 0 0, .float .f32 l, .slice none 0 0, .int .i64 0, .int .i64 0, .slice none 0 0, .slice none 0 0, .int .i64 0, .int .i64 0]) (by simp [results, Try.results9, go_sem]) rfl ⟨rfl, (Span.refl 0 0 w).alloc _⟩
theorem newDelayK_n (n : Nat) (h1 : 1 ≤ n) (h2 : n ≤ 16) (w : World) : Calls Try.prog 7 #[.int .i64 (n : Int)] w fun e w' => ∃ Ad pd bd, e = .returned (.tuple #[.agg #[.int .i64 4, .complex .f32 0 0, .complex .f32 0 0, .float .f32 0, .slice Ad n pd, .int .i64 0, .int .i64 (n : Int), .slice none 0 0, .slice none 0 0, .int .i64 0, .int .i64 0], .bool true]) ∧ HasS cxV true bd w.heap.size w'.heap.size w' (.slice Ad n pd) (List.replicate n (0, 0)) ∧ Span 0 0 w w' := by
  have hd : delayO (n : Int) = some ⟨4, (0, 0), (0, 0), 0, ⟨List.replicate n (0, 0), 0, n⟩, 0, 0⟩ := by
    unfold delayO
    rw [if_pos (by omega), Int.toNat_natCast]
  have h := impl_newDelay (n : Int) w
  rw [hd] at h
  refine h.mono ?_
  rintro _ w' ⟨v, rfl, ⟨b, vS, rfl, hs⟩, s⟩
  have hs' : HasS cxV true b w.heap.size w'.heap.size w' vS (List.replicate n (0, 0)) := hs
  obtain ⟨A, p, rfl, -, -⟩ := id hs'
  rw [List.length_replicate] at hs' ⊢
  exact ⟨A, p, b, rfl, hs', s⟩

def srcV (t : Cx) : Value := .agg #[.int .i64 1, .complex .f32 t.1 t.2, .complex .f32 1077936128 3221225472, .float .f32 0, .slice none 0 0, .int .i64 0, .int .i64 0, .slice none 0 0, .slice none 0 0, .int .i64 0, .int .i64 0]
def delV (n : Nat) (Ad : Option Addr) (pd : Nat) : Value := .agg #[.int .i64 4, .complex .f32 0 0, .complex .f32 0 0, .float .f32 0, .slice Ad n pd, .int .i64 0, .int .i64 (n : Int), .slice none 0 0, .slice none 0 0, .int .i64 0, .int .i64 0]
def gainV (l : Nat) : Value := .agg #[.int .i64 3, .complex .f32 0 0, .complex .f32 0 0, .float .f32 l, .slice none 0 0, .int .i64 0, .int .i64 0, .slice none 0 0, .slice none 0 0, .int .i64 0, .int .i64 0]
/-- The rack, in a box. -/
def DelBox (t : Cx) (n : Nat) (A : Option Addr) (p : Nat) (w : World) (v : Value) (w' : World) : Prop :=
  ∃ B bM bC, v = .pointer (some ⟨B, 0, none⟩) ∧ Bx B #[.slice (some ⟨bM, 0, none⟩) 4 4, .slice (some ⟨bC, 0, none⟩) 3 3] w' ∧ HasC 11 Mw.l bM 0 w'.heap.size w' (.slice (some ⟨bM, 0, none⟩) 4 4) (dlMs t n A p) ∧ HasC 2 cabC bC 0 w'.heap.size w' (.slice (some ⟨bC, 0, none⟩) 3 3) dlCs ∧ Span 0 0 w w'
theorem DelBox.k {t : Cx} {n : Nat} {A : Option Addr} {p : Nat} {wA w w' : World} {v : Value} (h : DelBox t n A p wA v w) (s : Span 0 0 w w') : DelBox t n A p wA v w' := by
  obtain ⟨B, bM, bC, e, h1, h2, h3, h4⟩ := h
  exact ⟨B, bM, bC, e, h1.keep s, h2.k s, h3.k s, h4.trans s⟩

def DelI (wA : World) (t : Cx) (n : Nat) (Ad : Option Addr) (pd : Nat) (L : Nat → Bool) (u : Nat → Value) (w : World) : Prop :=
  Span 0 0 wA w ∧
  (L 0 = true → u 32 = (.complex .f32 t.1 t.2)) ∧
  (L 1 = true → u 33 = (srcV t)) ∧
  (L 2 = true → u 34 = (delV n Ad pd)) ∧
  (L 3 = true → u 35 = (gainV 1073741824)) ∧
  (L 4 = true → u 36 = (gainV 1056964608)) ∧
  (L 5 = true → L 12 = false → RowAt 11 Mw.l (dlMs t n Ad pd) 4 w (u 37)) ∧
  (L 6 = true → u 38 = (.agg #[.int .i64 0, .int .i64 1])) ∧
  (L 7 = true → u 39 = (.agg #[.int .i64 1, .int .i64 2])) ∧
  (L 8 = true → u 40 = (.agg #[.int .i64 2, .int .i64 3])) ∧
  (L 9 = true → L 12 = false → RowAt 2 cabC dlCs 3 w (u 41)) ∧
  (L 10 = true → L 12 = false → ∃ m c, u 42 = .agg #[m, c] ∧ RowAt 11 Mw.l (dlMs t n Ad pd) 4 w m ∧ RowAt 2 cabC dlCs 3 w c) ∧
  (L 11 = true → L 12 = false → ∃ B, u 7 = .pointer (some ⟨B, 0, none⟩) ∧ wA.heap.size ≤ B ∧ Bx B #[.slice none 0 0, .slice none 0 0] w) ∧
  (L 12 = true → DelBox t n Ad pd wA (u 7) w)
section
variable {wA w w' : World} {t : Cx} {n : Nat} {Ad : Option Addr} {pd : Nat} {L : Nat → Bool} {u : Nat → Value}
theorem DelI.s0 (h : DelI wA t n Ad pd L u w) (s : Span 0 0 w w') : DelI wA t n Ad pd (fun j => L j || j == 0) (updO u (some 32) (.complex .f32 t.1 t.2)) w' := by
  obtain ⟨sp, k0, k1, k2, k3, k4, k5, k6, k7, k8, k9, k10, k11, k12⟩ := h
  exact ⟨sp.trans s, fun _ => rfl, fun h => k1 (by simpa using h), fun h => k2 (by simpa using h), fun h => k3 (by simpa using h), fun h => k4 (by simpa using h), fun h h8 => (k5 (by simpa using h) (by simpa using h8)).k s, fun h => k6 (by simpa using h), fun h => k7 (by simpa using h), fun h => k8 (by simpa using h), fun h h8 => (k9 (by simpa using h) (by simpa using h8)).k s, fun h h8 => (k10 (by simpa using h) (by simpa using h8)).elim fun m h1 => h1.elim fun c h2 => ⟨m, c, h2.1, h2.2.1.k s, h2.2.2.k s⟩, fun h h8 => (k11 (by simpa using h) (by simpa using h8)).elim fun B h1 => ⟨B, h1.1, h1.2.1, h1.2.2.keep s⟩, fun h => (k12 (by simpa using h)).k s⟩
theorem DelI.s1 (h : DelI wA t n Ad pd L u w) (s : Span 0 0 w w') : DelI wA t n Ad pd (fun j => L j || j == 1) (updO u (some 33) (srcV t)) w' := by
  obtain ⟨sp, k0, k1, k2, k3, k4, k5, k6, k7, k8, k9, k10, k11, k12⟩ := h
  exact ⟨sp.trans s, fun h => k0 (by simpa using h), fun _ => rfl, fun h => k2 (by simpa using h), fun h => k3 (by simpa using h), fun h => k4 (by simpa using h), fun h h8 => (k5 (by simpa using h) (by simpa using h8)).k s, fun h => k6 (by simpa using h), fun h => k7 (by simpa using h), fun h => k8 (by simpa using h), fun h h8 => (k9 (by simpa using h) (by simpa using h8)).k s, fun h h8 => (k10 (by simpa using h) (by simpa using h8)).elim fun m h1 => h1.elim fun c h2 => ⟨m, c, h2.1, h2.2.1.k s, h2.2.2.k s⟩, fun h h8 => (k11 (by simpa using h) (by simpa using h8)).elim fun B h1 => ⟨B, h1.1, h1.2.1, h1.2.2.keep s⟩, fun h => (k12 (by simpa using h)).k s⟩
theorem DelI.s2 (h : DelI wA t n Ad pd L u w) (s : Span 0 0 w w') : DelI wA t n Ad pd (fun j => L j || j == 2) (updO u (some 34) (delV n Ad pd)) w' := by
  obtain ⟨sp, k0, k1, k2, k3, k4, k5, k6, k7, k8, k9, k10, k11, k12⟩ := h
  exact ⟨sp.trans s, fun h => k0 (by simpa using h), fun h => k1 (by simpa using h), fun _ => rfl, fun h => k3 (by simpa using h), fun h => k4 (by simpa using h), fun h h8 => (k5 (by simpa using h) (by simpa using h8)).k s, fun h => k6 (by simpa using h), fun h => k7 (by simpa using h), fun h => k8 (by simpa using h), fun h h8 => (k9 (by simpa using h) (by simpa using h8)).k s, fun h h8 => (k10 (by simpa using h) (by simpa using h8)).elim fun m h1 => h1.elim fun c h2 => ⟨m, c, h2.1, h2.2.1.k s, h2.2.2.k s⟩, fun h h8 => (k11 (by simpa using h) (by simpa using h8)).elim fun B h1 => ⟨B, h1.1, h1.2.1, h1.2.2.keep s⟩, fun h => (k12 (by simpa using h)).k s⟩
theorem DelI.s3 (h : DelI wA t n Ad pd L u w) (s : Span 0 0 w w') : DelI wA t n Ad pd (fun j => L j || j == 3) (updO u (some 35) (gainV 1073741824)) w' := by
  obtain ⟨sp, k0, k1, k2, k3, k4, k5, k6, k7, k8, k9, k10, k11, k12⟩ := h
  exact ⟨sp.trans s, fun h => k0 (by simpa using h), fun h => k1 (by simpa using h), fun h => k2 (by simpa using h), fun _ => rfl, fun h => k4 (by simpa using h), fun h h8 => (k5 (by simpa using h) (by simpa using h8)).k s, fun h => k6 (by simpa using h), fun h => k7 (by simpa using h), fun h => k8 (by simpa using h), fun h h8 => (k9 (by simpa using h) (by simpa using h8)).k s, fun h h8 => (k10 (by simpa using h) (by simpa using h8)).elim fun m h1 => h1.elim fun c h2 => ⟨m, c, h2.1, h2.2.1.k s, h2.2.2.k s⟩, fun h h8 => (k11 (by simpa using h) (by simpa using h8)).elim fun B h1 => ⟨B, h1.1, h1.2.1, h1.2.2.keep s⟩, fun h => (k12 (by simpa using h)).k s⟩
theorem DelI.s4 (h : DelI wA t n Ad pd L u w) (s : Span 0 0 w w') : DelI wA t n Ad pd (fun j => L j || j == 4) (updO u (some 36) (gainV 1056964608)) w' := by
  obtain ⟨sp, k0, k1, k2, k3, k4, k5, k6, k7, k8, k9, k10, k11, k12⟩ := h
  exact ⟨sp.trans s, fun h => k0 (by simpa using h), fun h => k1 (by simpa using h), fun h => k2 (by simpa using h), fun h => k3 (by simpa using h), fun _ => rfl, fun h h8 => (k5 (by simpa using h) (by simpa using h8)).k s, fun h => k6 (by simpa using h), fun h => k7 (by simpa using h), fun h => k8 (by simpa using h), fun h h8 => (k9 (by simpa using h) (by simpa using h8)).k s, fun h h8 => (k10 (by simpa using h) (by simpa using h8)).elim fun m h1 => h1.elim fun c h2 => ⟨m, c, h2.1, h2.2.1.k s, h2.2.2.k s⟩, fun h h8 => (k11 (by simpa using h) (by simpa using h8)).elim fun B h1 => ⟨B, h1.1, h1.2.1, h1.2.2.keep s⟩, fun h => (k12 (by simpa using h)).k s⟩
theorem DelI.s5 {v : Value} (h : DelI wA t n Ad pd L u w) (s : Span 0 0 w w') (hv : RowAt 11 Mw.l (dlMs t n Ad pd) 4 w' v) : DelI wA t n Ad pd (fun j => L j || j == 5) (updO u (some 37) v) w' := by
  obtain ⟨sp, k0, k1, k2, k3, k4, k5, k6, k7, k8, k9, k10, k11, k12⟩ := h
  exact ⟨sp.trans s, fun h => k0 (by simpa using h), fun h => k1 (by simpa using h), fun h => k2 (by simpa using h), fun h => k3 (by simpa using h), fun h => k4 (by simpa using h), fun _ _ => hv, fun h => k6 (by simpa using h), fun h => k7 (by simpa using h), fun h => k8 (by simpa using h), fun h h8 => (k9 (by simpa using h) (by simpa using h8)).k s, fun h h8 => (k10 (by simpa using h) (by simpa using h8)).elim fun m h1 => h1.elim fun c h2 => ⟨m, c, h2.1, h2.2.1.k s, h2.2.2.k s⟩, fun h h8 => (k11 (by simpa using h) (by simpa using h8)).elim fun B h1 => ⟨B, h1.1, h1.2.1, h1.2.2.keep s⟩, fun h => (k12 (by simpa using h)).k s⟩
theorem DelI.s6 (h : DelI wA t n Ad pd L u w) (s : Span 0 0 w w') : DelI wA t n Ad pd (fun j => L j || j == 6) (updO u (some 38) (.agg #[.int .i64 0, .int .i64 1])) w' := by
  obtain ⟨sp, k0, k1, k2, k3, k4, k5, k6, k7, k8, k9, k10, k11, k12⟩ := h
  exact ⟨sp.trans s, fun h => k0 (by simpa using h), fun h => k1 (by simpa using h), fun h => k2 (by simpa using h), fun h => k3 (by simpa using h), fun h => k4 (by simpa using h), fun h h8 => (k5 (by simpa using h) (by simpa using h8)).k s, fun _ => rfl, fun h => k7 (by simpa using h), fun h => k8 (by simpa using h), fun h h8 => (k9 (by simpa using h) (by simpa using h8)).k s, fun h h8 => (k10 (by simpa using h) (by simpa using h8)).elim fun m h1 => h1.elim fun c h2 => ⟨m, c, h2.1, h2.2.1.k s, h2.2.2.k s⟩, fun h h8 => (k11 (by simpa using h) (by simpa using h8)).elim fun B h1 => ⟨B, h1.1, h1.2.1, h1.2.2.keep s⟩, fun h => (k12 (by simpa using h)).k s⟩
theorem DelI.s7 (h : DelI wA t n Ad pd L u w) (s : Span 0 0 w w') : DelI wA t n Ad pd (fun j => L j || j == 7) (updO u (some 39) (.agg #[.int .i64 1, .int .i64 2])) w' := by
  obtain ⟨sp, k0, k1, k2, k3, k4, k5, k6, k7, k8, k9, k10, k11, k12⟩ := h
  exact ⟨sp.trans s, fun h => k0 (by simpa using h), fun h => k1 (by simpa using h), fun h => k2 (by simpa using h), fun h => k3 (by simpa using h), fun h => k4 (by simpa using h), fun h h8 => (k5 (by simpa using h) (by simpa using h8)).k s, fun h => k6 (by simpa using h), fun _ => rfl, fun h => k8 (by simpa using h), fun h h8 => (k9 (by simpa using h) (by simpa using h8)).k s, fun h h8 => (k10 (by simpa using h) (by simpa using h8)).elim fun m h1 => h1.elim fun c h2 => ⟨m, c, h2.1, h2.2.1.k s, h2.2.2.k s⟩, fun h h8 => (k11 (by simpa using h) (by simpa using h8)).elim fun B h1 => ⟨B, h1.1, h1.2.1, h1.2.2.keep s⟩, fun h => (k12 (by simpa using h)).k s⟩
theorem DelI.s8 (h : DelI wA t n Ad pd L u w) (s : Span 0 0 w w') : DelI wA t n Ad pd (fun j => L j || j == 8) (updO u (some 40) (.agg #[.int .i64 2, .int .i64 3])) w' := by
  obtain ⟨sp, k0, k1, k2, k3, k4, k5, k6, k7, k8, k9, k10, k11, k12⟩ := h
  exact ⟨sp.trans s, fun h => k0 (by simpa using h), fun h => k1 (by simpa using h), fun h => k2 (by simpa using h), fun h => k3 (by simpa using h), fun h => k4 (by simpa using h), fun h h8 => (k5 (by simpa using h) (by simpa using h8)).k s, fun h => k6 (by simpa using h), fun h => k7 (by simpa using h), fun _ => rfl, fun h h8 => (k9 (by simpa using h) (by simpa using h8)).k s, fun h h8 => (k10 (by simpa using h) (by simpa using h8)).elim fun m h1 => h1.elim fun c h2 => ⟨m, c, h2.1, h2.2.1.k s, h2.2.2.k s⟩, fun h h8 => (k11 (by simpa using h) (by simpa using h8)).elim fun B h1 => ⟨B, h1.1, h1.2.1, h1.2.2.keep s⟩, fun h => (k12 (by simpa using h)).k s⟩
theorem DelI.s9 {v : Value} (h : DelI wA t n Ad pd L u w) (s : Span 0 0 w w') (hv : RowAt 2 cabC dlCs 3 w' v) : DelI wA t n Ad pd (fun j => L j || j == 9) (updO u (some 41) v) w' := by
  obtain ⟨sp, k0, k1, k2, k3, k4, k5, k6, k7, k8, k9, k10, k11, k12⟩ := h
  exact ⟨sp.trans s, fun h => k0 (by simpa using h), fun h => k1 (by simpa using h), fun h => k2 (by simpa using h), fun h => k3 (by simpa using h), fun h => k4 (by simpa using h), fun h h8 => (k5 (by simpa using h) (by simpa using h8)).k s, fun h => k6 (by simpa using h), fun h => k7 (by simpa using h), fun h => k8 (by simpa using h), fun _ _ => hv, fun h h8 => (k10 (by simpa using h) (by simpa using h8)).elim fun m h1 => h1.elim fun c h2 => ⟨m, c, h2.1, h2.2.1.k s, h2.2.2.k s⟩, fun h h8 => (k11 (by simpa using h) (by simpa using h8)).elim fun B h1 => ⟨B, h1.1, h1.2.1, h1.2.2.keep s⟩, fun h => (k12 (by simpa using h)).k s⟩
theorem DelI.s10 {m c : Value} (h : DelI wA t n Ad pd L u w) (h1 : RowAt 11 Mw.l (dlMs t n Ad pd) 4 w m) (h2 : RowAt 2 cabC dlCs 3 w c) : DelI wA t n Ad pd (fun j => L j || j == 10) (updO u (some 42) (.agg #[m, c])) w := by
  obtain ⟨sp, k0, k1, k2, k3, k4, k5, k6, k7, k8, k9, k10, k11, k12⟩ := h
  exact ⟨sp, fun h => k0 (by simpa using h), fun h => k1 (by simpa using h), fun h => k2 (by simpa using h), fun h => k3 (by simpa using h), fun h => k4 (by simpa using h), fun h h8 => (k5 (by simpa using h) (by simpa using h8)), fun h => k6 (by simpa using h), fun h => k7 (by simpa using h), fun h => k8 (by simpa using h), fun h h8 => (k9 (by simpa using h) (by simpa using h8)), fun _ _ => ⟨m, c, rfl, h1, h2⟩, fun h h8 => k11 (by simpa using h) (by simpa using h8), fun h => (k12 (by simpa using h))⟩
theorem DelI.s11 {ty : TypeId} (h : DelI wA t n Ad pd L u w) (hL : L 12 = false) : DelI wA t n Ad pd (fun j => L j || j == 11) (updO u (some 7) (.pointer (some ⟨w.heap.size, 0, none⟩))) (w.alloc (.cells #[.slice none 0 0, .slice none 0 0] ty)) := by
  obtain ⟨sp, k0, k1, k2, k3, k4, k5, k6, k7, k8, k9, k10, k11, k12⟩ := h
  have s := (Span.refl 0 0 w).alloc (.cells #[.slice none 0 0, .slice none 0 0] ty)
  exact ⟨sp.trans s, fun h => k0 (by simpa using h), fun h => k1 (by simpa using h), fun h => k2 (by simpa using h), fun h => k3 (by simpa using h), fun h => k4 (by simpa using h), fun h h8 => (k5 (by simpa using h) (by simpa using h8)).k s, fun h => k6 (by simpa using h), fun h => k7 (by simpa using h), fun h => k8 (by simpa using h), fun h h8 => (k9 (by simpa using h) (by simpa using h8)).k s, fun h h8 => (k10 (by simpa using h) (by simpa using h8)).elim fun m h1 => h1.elim fun c h2 => ⟨m, c, h2.1, h2.2.1.k s, h2.2.2.k s⟩, fun _ _ => ⟨_, rfl, sp.size, Bx.new ..⟩, fun h => by simp [hL] at h⟩
theorem DelI.s12 {B : Nat} {m c v : Value} (h : DelI wA t n Ad pd L u w) (hu : u 7 = .pointer (some ⟨B, 0, none⟩)) (hB : wA.heap.size ≤ B) (hb : Bx B #[.slice none 0 0, .slice none 0 0] w) (h1 : RowAt 11 Mw.l (dlMs t n Ad pd) 4 w m) (h2 : RowAt 2 cabC dlCs 3 w c) : DelI wA t n Ad pd (fun j => L j || j == 12) (updO u none v) ((w.setCell ⟨B, 0, none⟩ m).setCell ⟨B, 1, none⟩ c) := by
  obtain ⟨sp, k0, k1, k2, k3, k4, k5, k6, k7, k8, k9, k10, k11, k12⟩ := h
  obtain ⟨bM, rfl, hm⟩ := h1
  obtain ⟨bC, rfl, hc⟩ := h2
  have c0 := hb.cells 0
  have n1 : B ≠ bM := by
    intro e
    have := hm.at_ (j := 0) (i := 0) rfl rfl
    rw [← e] at this
    have h := c0.symm.trans this
    simp at h
  have n2 : B ≠ bC := by
    intro e
    have := hc.at_ (j := 0) (i := 0) rfl rfl
    rw [← e] at this
    have h := c0.symm.trans this
    simp at h
  have sp' : Span 0 0 wA ((w.setCell ⟨B, 0, none⟩ (.slice (some ⟨bM, 0, none⟩) 4 4)).setCell ⟨B, 1, none⟩ (.slice (some ⟨bC, 0, none⟩) 3 3)) := (sp.setCell (p := ⟨B, 0, none⟩) (.inr hB) _).setCell (p := ⟨B, 1, none⟩) (.inr hB) _
  exact ⟨sp', fun h => k0 (by simpa using h), fun h => k1 (by simpa using h), fun h => k2 (by simpa using h), fun h => k3 (by simpa using h), fun h => k4 (by simpa using h), fun h h8 => by simp at h8, fun h => k6 (by simpa using h), fun h => k7 (by simpa using h), fun h => k8 (by simpa using h), fun h h8 => by simp at h8, fun h h8 => by simp at h8, fun h h8 => by simp at h8, fun _ => ⟨B, bM, bC, hu, hb.set2 _ _, (hm.st _ n1).st _ n1, (hc.st _ n2).st _ n2, sp'⟩⟩
end

set_option maxRecDepth 100000 in
set_option maxHeartbeats 2000000 in
theorem equal_true (xs : List Cx) (hx : ∀ x ∈ xs, FloatKind.f32.format.order x.1 x.1 = some .eq ∧ FloatKind.f32.format.order x.2 x.2 = some .eq) {o1 o2 : Bool} {b1 lo1 hi1 b2 lo2 hi2 : Nat} {v1 v2 : Value} (w : World) (h1 : HasS cxV o1 b1 lo1 hi1 w v1 xs) (h2 : HasS cxV o2 b2 lo2 hi2 w v2 xs) (hl : xs.length ≤ 4194304) :
    Calls Try.prog 11 #[v1, v2] w fun e w' => e = .returned (.bool true) ∧ ∃ m, w' = w.drewN m := by
  have H1 := Lib.hid h1
  have H2 := Lib.hid h2
  have HX := Lib.hid hx
  obtain ⟨A1, c1, rfl, -, -⟩ := h1
  obtain ⟨A2, c2, rfl, -, -⟩ := h2
  obtain ⟨n, hn⟩ : ∃ n, n = xs.length := ⟨_, rfl⟩
  have HN := Lib.hid hn
  rw [← hn] at H1 H2 hl ⊢
  have i1 : (n : Int) ≤ 4194304 := by omega
  clear hn hx hl
  go_enter Try.func11, Try.ntmps11
  go_wp2_with fail
  go_loopw [13] (fun q wr => ∃ k m : Nat, k ≤ n ∧ q = .int .i64 k ∧ wr = w.drewN m) (fun q _ => n - (intOf q).toNat)
  case atStart => exact ⟨0, 0, Nat.zero_le _, rfl, rfl⟩
  case round =>
    obtain ⟨k, m, hk, rfl, rfl⟩ := hrel
    by_cases hlt : k < n
    · obtain ⟨⟨x1, x2⟩, hxk⟩ := getElem?_some (xs := xs) (j := k) (by rw [← HN.out]; exact hlt)
      obtain ⟨o1, o2⟩ := HX.out _ (List.mem_of_getElem? hxk)
      obtain ⟨f1, hf1, -, -, -⟩ := H1.out.addrT (by rw [← HN.out]; omega)
      subst hf1
      obtain ⟨f2, hf2, -, -, -⟩ := H2.out.addrT (by rw [← HN.out]; omega)
      subst hf2
      have d1 : w.cell? ⟨b1, f1 + k, none⟩ = some (.complex .f32 x1 x2) := H1.out.atJ hxk
      have d2 : w.cell? ⟨b2, f2 + k, none⟩ = some (.complex .f32 x1 x2) := H2.out.atJ hxk
      have j1 : (0 : Int) ≤ (k : Int) := by omega
      have j2 : (k : Int) < (n : Int) := by omega
      simp only at o1 o2
      clear hxk
      go_wp2_with fail
      go_quiet (fail)
      go_wp2_with fail
      go_roundw
      case rel => exact ⟨k + 1, _, hlt, by go_num, by first | rfl | (rw [World.drewN_drewN]; rfl) | exact World.drewN_drewN ..⟩
      case measure => simp [intOf]; omega
    · have hkn : k = n := by omega
      subst hkn
      go_wp2_with fail
      go_ret
      exact ⟨rfl, _, rfl⟩

theorem TrAt.row {F n : Nat} {L : List (List Cx)} {vs : List Value} {w : World} (h : TrAt F n L vs w) {i : Nat} {l : List Cx} (hl : L[i]? = some l) (hp : 0 < l.length) :
    ∃ b q, vs[i]? = some (.slice (some ⟨b, 0, none⟩) l.length q) ∧ HasS cxV true b 0 w.heap.size w (.slice (some ⟨b, 0, none⟩) l.length q) l ∧ l.length ≤ q ∧ b < w.heap.size := by
  obtain ⟨v, hv⟩ := getElem?_some (xs := vs) (j := i) (by have := (List.getElem?_eq_some_iff.1 hl).1; have := h.len; omega)
  have ho := h.own i v l hv hl
  obtain ⟨b, h1, _⟩ := ownsRow_hasS ho
  obtain ⟨g, q, rfl, hg, hgl⟩ := ho.form hp
  have h2 := h1
  obtain ⟨A', c', e, hc, hx⟩ := h1
  injection e with e1 e2 e3
  obtain ⟨off, e4, g1, g2, g3, _⟩ := hx hp
  rw [e4] at e1
  injection e1 with e1
  injection e1 with e5 e6
  subst e5
  exact ⟨g, q, hv, h2.weak (Nat.zero_le _) (.inl (Nat.le_refl _)), by omega, g3⟩
theorem HasS.part {α : Type} {val : α → Value} {o : Bool} {b b' off lo hi n c : Nat} {w : World} {xs : List α} (h : HasS val o b lo hi w (.slice (some ⟨b', off, none⟩) n c) xs) (k m c' : Nat) (hm : k + m ≤ xs.length) (hc : m ≤ c') : HasS val o b lo hi w (.slice (some ⟨b', off + k, none⟩) m c') ((xs.drop k).take m) := by
  have hl : ((xs.drop k).take m).length = m := by simp; omega
  refine ⟨some ⟨b', off + k, none⟩, c', by rw [hl], by omega, fun hp => ?_⟩
  obtain ⟨A', q, e, _, hx⟩ := h
  injection e with e1 e2 e3
  obtain ⟨off', e4, g1, g2, g3, g4, g5⟩ := hx (by omega)
  rw [e4] at e1
  injection e1 with e1
  injection e1 with e5 e6
  subst e5; subst e6
  refine ⟨off + k, rfl, g1, g2, g3, fun j x hj => ?_, fun ho j hj => ?_⟩
  · have hj' := (List.getElem?_eq_some_iff.1 hj).1
    rw [List.getElem?_take_of_lt (by omega), List.getElem?_drop] at hj
    rw [Nat.add_assoc]
    exact g4 (k + j) x hj
  · rw [Nat.add_assoc]
    exact g5 ho (k + j) (by omega)
theorem part_zero (t : Cx) {d : Nat} (h2 : d ≤ 16) : ((((List.range 40).map (dly t d)).drop 0).take d) = List.replicate d (0, 0) := by
  apply List.ext_getElem?
  intro j
  rw [List.getElem?_replicate]
  by_cases hj : j < d
  · rw [List.getElem?_take_of_lt hj, List.getElem?_drop, List.getElem?_map, List.getElem?_range (by omega), if_pos hj]
    simp [dly, hj]
  · rw [List.getElem?_eq_none (by simp; omega), if_neg hj]
theorem part_src (t : Cx) {d : Nat} (h2 : d ≤ 16) : ((((List.range 40).map (dly t d)).drop d).take (40 - d)) = ((((List.range 40).map (src t)).drop 0).take (40 - d)) := by
  apply List.ext_getElem?
  intro j
  by_cases hj : j < 40 - d
  · rw [List.getElem?_take_of_lt hj, List.getElem?_take_of_lt hj, List.getElem?_drop, List.getElem?_drop, List.getElem?_map, List.getElem?_map, List.getElem?_range (by omega), List.getElem?_range (by omega)]
    have e : dly t d (d + j) = src t j := by unfold dly; rw [if_neg (by omega)]; congr 1; omega
    simp [e]
  · rw [List.getElem?_eq_none (by simp; omega), List.getElem?_eq_none (by simp; omega)]
theorem vals_order {z : Cx} (hz : z ∈ Vals) : FloatKind.f32.format.order z.1 z.1 = some .eq ∧ FloatKind.f32.format.order z.2 z.2 = some .eq := by
  have ok := List.all_eq_true.1 vals_all z hz
  simp only [okVal, Bool.and_eq_true, beq_iff_eq] at ok
  exact ⟨ok.1.2, ok.2⟩
end Go.Proofs.Ytpiiflhdllpoiaa
