/- Products that need no draw; clones. -/
import Derived.Test.YtghekafjccfjcaaJq24
import Derived.WalkSpells
namespace Go.Proofs.Ytghekafjccfjcaa
open Go.RowKit

/-- A product whose parts are numbers that single precision has room for. -/
def mulS (a b : Cx) : Option Cx :=
  (floatToFloatBits .f32 a.1 .f64).bind fun ar => (floatToFloatBits .f32 a.2 .f64).bind fun ai => (floatToFloatBits .f32 b.1 .f64).bind fun br => (floatToFloatBits .f32 b.2 .f64).bind fun bi =>
  (floatBits .mul .f64 ar br).bind fun p => (floatBits .mul .f64 ai bi).bind fun q => (floatBits .sub .f64 p q).bind fun re => (floatToFloatBits .f64 re .f32).bind fun x =>
  (floatBits .mul .f64 ar bi).bind fun r => (floatBits .mul .f64 ai br).bind fun s => (floatBits .add .f64 r s).bind fun im => (floatToFloatBits .f64 im .f32).bind fun y => some (x, y)

theorem cv_of {s k : FloatKind} {b r : Nat} (h : floatToFloatBits s b k = some r) : (∀ w, fCv s k b w = r) ∧ fCd s k b = 0 := by simp [fCv, fCd, h]
theorem ar_of {op : BinOp} {k : FloatKind} {x y r : Nat} (h : floatBits op k x y = some r) : (∀ w, fAr op k x y w = r) ∧ fDr op k x y = 0 := by simp [fAr, fDr, h]

set_option maxRecDepth 100000 in
set_option maxHeartbeats 1000000 in
theorem impl_multiply_some (a b z : Cx) (h : mulS a b = some z) (w : World) : Calls Try.prog 64 #[.complex .f32 a.1 a.2, .complex .f32 b.1 b.2] w fun e w' => e = .returned (.complex .f32 z.1 z.2) ∧ w = w' := by
  unfold mulS at h
  obtain ⟨ar, h1, h⟩ := bind_some h
  obtain ⟨ai, h2, h⟩ := bind_some h
  obtain ⟨br, h3, h⟩ := bind_some h
  obtain ⟨bi, h4, h⟩ := bind_some h
  obtain ⟨p, h5, h⟩ := bind_some h
  obtain ⟨q, h6, h⟩ := bind_some h
  obtain ⟨re, h7, h⟩ := bind_some h
  obtain ⟨x, h8, h⟩ := bind_some h
  obtain ⟨r, h9, h⟩ := bind_some h
  obtain ⟨s, h10, h⟩ := bind_some h
  obtain ⟨im, h11, h⟩ := bind_some h
  obtain ⟨y, h12, h⟩ := bind_some h
  cases h
  obtain ⟨c1, d1⟩ := cv_of h1
  obtain ⟨c2, d2⟩ := cv_of h2
  obtain ⟨c3, d3⟩ := cv_of h3
  obtain ⟨c4, d4⟩ := cv_of h4
  obtain ⟨c5, d5⟩ := ar_of h5
  obtain ⟨c6, d6⟩ := ar_of h6
  obtain ⟨c7, d7⟩ := ar_of h7
  obtain ⟨c8, d8⟩ := cv_of h8
  obtain ⟨c9, d9⟩ := ar_of h9
  obtain ⟨c10, d10⟩ := ar_of h10
  obtain ⟨c11, d11⟩ := ar_of h11
  obtain ⟨c12, d12⟩ := cv_of h12
  obtain ⟨a1, a2⟩ := a
  obtain ⟨b1, b2⟩ := b
  simp only at *
  clear h1 h2 h3 h4 h5 h6 h7 h8 h9 h10 h11 h12
  go_enter Try.func64, Try.ntmps64
  go_wp2
  go_ret
  exact ⟨rfl, rfl⟩

/-- A slice in new memory. -/
def GivesS {α : Type} (val : α → Value) (xs : List α) (w : World) (e : Ending) (w' : World) : Prop :=
  ∃ v b, e = .returned v ∧ HasS val true b w.heap.size w'.heap.size w' v xs ∧ Span 0 0 w w'

theorem one_cells {xs : List Cx} : ∀ u ∈ xs.map cxV, u.oneCell' = true := by
  intro u hu
  obtain ⟨x, _, rfl⟩ := List.mem_map.1 hu
  rfl
theorem one_cellsI {xs : List Int} : ∀ u ∈ xs.map intV, u.oneCell' = true := by
  intro u hu
  obtain ⟨x, _, rfl⟩ := List.mem_map.1 hu
  rfl

theorem HasS.news {α : Type} {val : α → Value} {own : Bool} {b lo hi off n c : Nat} {w : World} {xs : List α} (h : HasS val own b lo hi w (.slice (some ⟨b, off, none⟩) n c) xs) (o : Obj) :
    ∀ j u, (xs.map val)[j]? = some u → (w.alloc o).cell? ((⟨b, off, none⟩ : Addr).add j) = some u := by
  intro j u hj
  rw [List.getElem?_map, Option.map_eq_some_iff] at hj
  obtain ⟨x, hx, rfl⟩ := hj
  obtain ⟨A, cap, e, _, hc⟩ := h
  obtain ⟨off', e2, _, _, hb, hcell, _⟩ := hc (by have := (List.getElem?_eq_some_iff.1 hx).1; omega)
  injection e with e3 _ _
  rw [e2] at e3
  injection e3 with e3
  injection e3 with _ e4
  subst e4
  rw [Addr.add_lit]
  exact ((Span.alloc (Span.refl 0 0 w) o).cells (Nat.le_refl _)).1 b _ hb |>.trans (hcell j x hx)

set_option maxRecDepth 100000 in
set_option maxHeartbeats 1000000 in
theorem cloneC_any (xs : List Cx) (o : Bool) (b lo hi : Nat) (v : Value) (w : World) (hx : HasS cxV o b lo hi w v xs) (hlen : xs.length ≤ 4194304) :
    Calls Try.prog 35 #[v] w (GivesS cxV xs w) := by
  have HX := Lib.hid hx
  obtain ⟨ip, hip, hzp, hsp, hbp⟩ := info_parts info_c64
  obtain ⟨A, cap, rfl, hcap, hc⟩ := hx
  obtain ⟨len, hl⟩ : ∃ len, len = xs.length := ⟨_, rfl⟩
  have HL := Lib.hid hl
  rw [← hl] at hcap hlen HX ⊢
  cases A with
  | none =>
    have h0 : len = 0 := by
      by_cases h : 0 < len
      · obtain ⟨off, e, _⟩ := hc (by omega)
        cases e
      · omega
    subst h0
    have HE : Hid (xs = []) := by cases xs with | nil => exact rfl | cons a l => simp at hl
    clear hc hl
    have hq := Lib.run_eql_slice_nil (P := Try.prog) w 30 29 none 0 cap 0 0 Try.underlying30
    go_enter Try.func35, Try.ntmps35
    go_wp2
    go_ret
    refine ⟨_, 0, rfl, ?_, Span.refl _ _ _⟩
    rw [HE.out]; exact HasS.empty _ _ _ _ _ _ _ _
  | some ad =>
    have HO := Lib.hid (World.ownsRow_made (base := w.heap.size) (e := 29) (size := 1) w #[] 0 (Nat.le_refl _) (Nat.zero_le _) rfl)
    have HN : Hid (∀ (o : Obj) (j : Nat) u, (xs.map cxV)[j]? = some u → (w.alloc o).cell? (ad.add j) = some u) := by
      unfold Hid
      intro o j u hj
      have hp : 0 < xs.length := by
        have := (List.getElem?_eq_some_iff.1 hj).1
        simp at this; omega
      obtain ⟨off, e, _⟩ := hc hp
      cases e
      exact HX.out.news o j u hj
    clear hc hl
    have hq := Lib.run_eql_slice_nil (P := Try.prog) w 30 29 (some ad) len cap 0 0 Try.underlying30
    go_enter Try.func35, Try.ntmps35
    go_wp2_with (at_builtin; go_loud ((refine wpList_append_own _ rfl _ _ 30 rfl w.heap.size 29 ip (.complex .f32 0 0) 1 8 Try.underlying30 hip hzp hsp hbp rfl (by decide) _ _ _ rfl HO.out ad len cap (xs.map cxV) rfl ?c1 ?c2 ?c3 ?c4 ?c5 ?c6 ?_); (case c1 => rw [List.length_map, ← HL.out, Nat.mul_one]); (case c2 => exact HN.out _); (case c3 => exact one_cells); (case c4 => unfold maxLen; omega); (case c5 => omega); (case c6 => simp); intro v1 w1 ho hgr _; rw [Nat.zero_add, List.nil_append] at ho; obtain ⟨A1, q1, rfl⟩ := ownsRow_slice ho; have HO1 := Lib.hid ho; have HG1 := Lib.hid hgr; clear ho hgr))
    go_ret
    have ho := HO1.out
    obtain ⟨b', h1, _, _⟩ := ownsRow_hasS ho
    exact ⟨_, b', rfl, h1, ((Span.refl _ _ _).alloc _).grown HG1.out (fun k hk => by have hk' : some w.heap.size = some k := hk; injection hk' with hk'; right; omega)⟩

set_option maxRecDepth 100000 in
set_option maxHeartbeats 1000000 in
theorem cloneI_any (xs : List Int) (o : Bool) (b lo hi : Nat) (v : Value) (w : World) (hx : HasS intV o b lo hi w v xs) (hlen : xs.length ≤ 4194304) :
    Calls Try.prog 36 #[v] w (GivesS intV xs w) := by
  have HX := Lib.hid hx
  obtain ⟨ip, hip, hzp, hsp, hbp⟩ := info_parts info_int
  obtain ⟨A, cap, rfl, hcap, hc⟩ := hx
  obtain ⟨len, hl⟩ : ∃ len, len = xs.length := ⟨_, rfl⟩
  have HL := Lib.hid hl
  rw [← hl] at hcap hlen HX ⊢
  cases A with
  | none =>
    have h0 : len = 0 := by
      by_cases h : 0 < len
      · obtain ⟨off, e, _⟩ := hc (by omega)
        cases e
      · omega
    subst h0
    have HE : Hid (xs = []) := by cases xs with | nil => exact rfl | cons a l => simp at hl
    clear hc hl
    have hq := Lib.run_eql_slice_nil (P := Try.prog) w 33 3 none 0 cap 0 0 Try.underlying33
    go_enter Try.func36, Try.ntmps36
    go_wp2
    go_ret
    refine ⟨_, 0, rfl, ?_, Span.refl _ _ _⟩
    rw [HE.out]; exact HasS.empty _ _ _ _ _ _ _ _
  | some ad =>
    have HO := Lib.hid (World.ownsRow_made (base := w.heap.size) (e := 3) (size := 1) w #[] 0 (Nat.le_refl _) (Nat.zero_le _) rfl)
    have HN : Hid (∀ (o : Obj) (j : Nat) u, (xs.map intV)[j]? = some u → (w.alloc o).cell? (ad.add j) = some u) := by
      unfold Hid
      intro o j u hj
      have hp : 0 < xs.length := by
        have := (List.getElem?_eq_some_iff.1 hj).1
        simp at this; omega
      obtain ⟨off, e, _⟩ := hc hp
      cases e
      exact HX.out.news o j u hj
    clear hc hl
    have hq := Lib.run_eql_slice_nil (P := Try.prog) w 33 3 (some ad) len cap 0 0 Try.underlying33
    go_enter Try.func36, Try.ntmps36
    go_wp2_with (at_builtin; go_loud ((refine wpList_append_own _ rfl _ _ 33 rfl w.heap.size 3 ip (.int .i64 0) 1 8 Try.underlying33 hip hzp hsp hbp rfl (by decide) _ _ _ rfl HO.out ad len cap (xs.map intV) rfl ?c1 ?c2 ?c3 ?c4 ?c5 ?c6 ?_); (case c1 => rw [List.length_map, ← HL.out, Nat.mul_one]); (case c2 => exact HN.out _); (case c3 => exact one_cellsI); (case c4 => unfold maxLen; omega); (case c5 => omega); (case c6 => simp); intro v1 w1 ho hgr _; rw [Nat.zero_add, List.nil_append] at ho; obtain ⟨A1, q1, rfl⟩ := ownsRow_slice ho; have HO1 := Lib.hid ho; have HG1 := Lib.hid hgr; clear ho hgr))
    go_ret
    have ho := HO1.out
    obtain ⟨b', h1, _, _⟩ := ownsRow_hasS ho
    exact ⟨_, b', rfl, h1, ((Span.refl _ _ _).alloc _).grown HG1.out (fun k hk => by have hk' : some w.heap.size = some k := hk; injection hk' with hk'; right; omega)⟩
end Go.Proofs.Ytghekafjccfjcaa
