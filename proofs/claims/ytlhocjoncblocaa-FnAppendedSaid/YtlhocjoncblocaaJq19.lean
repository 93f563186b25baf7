/- A valid table is found valid. Distances, and the nearest point. Deciding and encoding. Encoding, and places in lists. Products that need no draw; clones. -/
import Derived.Test.YtlhocjoncblocaaJq18
import Derived.WalkSpells
namespace Go.Proofs.Ytlhocjoncblocaa
section
open Go.RowKit

def finX (x : Nat) : Prop := x < 4294967296 ∧ rungOf Ieee.single x < 2139095040
def finC (z : Cx) : Prop := finX z.1 ∧ finX z.2
structure Valid (t : Tab) : Prop where
  len : t.2.length = t.1.length
  most : t.1.length ≤ 64
  fin : ∀ z ∈ t.1, finC z
  apart : Apart t.1
end
section
open Go.RowKit

def distC (a b : Cx) : Nat := fC .add .f32 (fC .mul .f32 (fC .sub .f32 a.1 b.1) (fC .sub .f32 a.1 b.1)) (fC .mul .f32 (fC .sub .f32 a.2 b.2) (fC .sub .f32 a.2 b.2))

theorem widen_nan (x : Nat) (w : World) : nanB .f64 (fCv .f32 .f64 x w) = nanB .f32 x := by
  cases h : nanB .f32 x with
  | true => exact nanB_of_cv w (by simp) h
  | false =>
    rcases Nat.lt_trichotomy (rungOf Ieee.single x) Ieee.single.infRung with h1 | h1 | h1
    · obtain ⟨m, g, h2, _⟩ := read_isU (widen_fin w h1)
      show (Ieee.double.read _).isNaN = false
      rw [h2]; rfl
    · have hi := widen_inf w (read_inf Ieee.single s_eb h1)
      show (Ieee.double.read _).isNaN = false
      rw [hi]; rfl
    · have := nan_of_rung (by rw [s_inf] at h1; exact h1)
      rw [h] at this; cases this

def nearStep (z : Cx) (best : Option (Nat × Nat)) (i : Nat) (p : Cx) : Option (Nat × Nat) :=
  if nanB .f32 (distC p z) then best else
  match best with
  | none => some (i, distC p z)
  | some (j, m) => if FloatKind.f32.format.order (distC p z) m == some .lt then some (i, distC p z) else some (j, m)
def nearC (Q : List Cx) (z : Cx) : Option (Nat × Nat) := Q.zipIdx.foldl (fun b p => nearStep z b p.2 p.1) none

theorem nearC_snoc (Q : List Cx) (p z : Cx) : nearC (Q ++ [p]) z = nearStep z (nearC Q z) Q.length p := by
  simp [nearC, List.zipIdx_append]

def GivesNear (r : Option (Nat × Nat)) (w : World) (e : Ending) (w' : World) : Prop :=
  ∃ n, e = .returned (.tuple #[.int .i64 (((r.map (·.1)).getD 0 : Nat) : Int), .bool r.isSome]) ∧ w' = w.drewN n
end
section
open Go.RowKit

/-- A list of numbers in new memory, and true. -/
def GivesL {α : Type} (val : α → Value) (xs : List α) (w : World) (e : Ending) (w' : World) : Prop :=
  ∃ v b, e = .returned (.tuple #[v, .bool true]) ∧ HasS val true b w.heap.size w'.heap.size w' v xs ∧ Span 0 0 w w'

theorem Filled.setOther {w : World} {g : Nat} {e : TypeId} {n k : Nat} {f : Nat → Value} (h : Filled w g e n k f) (n' : Nat) : Filled (w.drewN n') g e n k f := h

/-- How each sample is decided. -/
def Decided (t : Tab) (zs : List Cx) (ls : List Int) : Prop :=
  ls.length = zs.length ∧ ∀ (j : Nat) (z : Cx), zs[j]? = some z → ∃ (i m : Nat) (l : Int), nearC t.1 z = some (i, m) ∧ t.2[i]? = some l ∧ ls[j]? = some l
end
section
open Go.RowKit

/-- How each label is encoded. -/
def Encoded (t : Tab) (ns : List Int) (zs : List Cx) : Prop :=
  zs.length = ns.length ∧ ∀ (j : Nat) (n : Int), ns[j]? = some n → ∃ (i : Nat) (z : Cx), t.2[i]? = some n ∧ (∀ k, k < i → t.2[k]? ≠ some n) ∧ t.1[i]? = some z ∧ zs[j]? = some z
end
section
open Go.RowKit

/-- A product whose parts are numbers that single precision has room for. -/
def mulS (a b : Cx) : Option Cx :=
  (floatToFloatBits .f32 a.1 .f64).bind fun ar => (floatToFloatBits .f32 a.2 .f64).bind fun ai => (floatToFloatBits .f32 b.1 .f64).bind fun br => (floatToFloatBits .f32 b.2 .f64).bind fun bi =>
  (floatBits .mul .f64 ar br).bind fun p => (floatBits .mul .f64 ai bi).bind fun q => (floatBits .sub .f64 p q).bind fun re => (floatToFloatBits .f64 re .f32).bind fun x =>
  (floatBits .mul .f64 ar bi).bind fun r => (floatBits .mul .f64 ai br).bind fun s => (floatBits .add .f64 r s).bind fun im => (floatToFloatBits .f64 im .f32).bind fun y => some (x, y)

theorem cv_of {s k : FloatKind} {b r : Nat} (h : floatToFloatBits s b k = some r) : (∀ w, fCv s k b w = r) ∧ fCd s k b = 0 := by simp [fCv, fCd, h]
theorem ar_of {op : BinOp} {k : FloatKind} {x y r : Nat} (h : floatBits op k x y = some r) : (∀ w, fAr op k x y w = r) ∧ fDr op k x y = 0 := by simp [fAr, fDr, h]

/-- A slice in new memory. -/
def GivesS {α : Type} (val : α → Value) (xs : List α) (w : World) (e : Ending) (w' : World) : Prop :=
  ∃ v b, e = .returned v ∧ HasS val true b w.heap.size w'.heap.size w' v xs ∧ Span 0 0 w w'

theorem one_cells {xs : List Cx} : ∀ u ∈ xs.map cxV, u.oneCell' = true := by
  intro u hu
  obtain ⟨x, _, rfl⟩ := List.mem_map.1 hu
  rfl
theorem one_cellsI {xs : List Int} : ∀ u ∈ xs.map intV, u.oneCell' = true := by
  intro u hu
  obtain ⟨x, _, rfl⟩ := List.mem_map.1 hu
  rfl

theorem HasS.news {α : Type} {val : α → Value} {own : Bool} {b lo hi off n c : Nat} {w : World} {xs : List α} (h : HasS val own b lo hi w (.slice (some ⟨b, off, none⟩) n c) xs) (o : Obj) :
    ∀ j u, (xs.map val)[j]? = some u → (w.alloc o).cell? ((⟨b, off, none⟩ : Addr).add j) = some u := by
  intro j u hj
  rw [List.getElem?_map, Option.map_eq_some_iff] at hj
  obtain ⟨x, hx, rfl⟩ := hj
  obtain ⟨A, cap, e, _, hc⟩ := h
  obtain ⟨off', e2, _, _, hb, hcell, _⟩ := hc (by have := (List.getElem?_eq_some_iff.1 hx).1; omega)
  injection e with e3 _ _
  rw [e2] at e3
  injection e3 with e3
  injection e3 with _ e4
  subst e4
  rw [Addr.add_lit]
  exact ((Span.alloc (Span.refl 0 0 w) o).cells (Nat.le_refl _)).1 b _ hb |>.trans (hcell j x hx)

set_option maxRecDepth 100000 in
set_option maxHeartbeats 1000000 in
theorem cloneC_any (xs : List Cx) (o : Bool) (b lo hi : Nat) (v : Value) (w : World) (hx : HasS cxV o b lo hi w v xs) (hlen : xs.length ≤ 4194304) :
    Calls Try.prog 54 #[v] w (GivesS cxV xs w) := by
  have HX := Lib.hid hx
  obtain ⟨ip, hip, hzp, hsp, hbp⟩ := info_parts info_c64
  obtain ⟨A, cap, rfl, hcap, hc⟩ := hx
  obtain ⟨len, hl⟩ : ∃ len, len = xs.length := ⟨_, rfl⟩
  have HL := Lib.hid hl
  rw [← hl] at hcap hlen HX ⊢
  cases A with
  | none =>
    have h0 : len = 0 := by
      by_cases h : 0 < len
      · obtain ⟨off, e, _⟩ := hc (by omega)
        cases e
      · omega
    subst h0
    have HE : Hid (xs = []) := by cases xs with | nil => exact rfl | cons a l => simp at hl
    clear hc hl
    have hq := Lib.run_eql_slice_nil (P := Try.prog) w 23 48 none 0 cap 0 0 Try.underlying23
    go_enter Try.func54, Try.ntmps54
    go_wp2
    go_ret
    refine ⟨_, 0, rfl, ?_, Span.refl _ _ _⟩
    rw [HE.out]; exact HasS.empty _ _ _ _ _ _ _ _
  | some ad =>
    have HO := Lib.hid (World.ownsRow_made (base := w.heap.size) (e := 48) (size := 1) w #[] 0 (Nat.le_refl _) (Nat.zero_le _) rfl)
    have HN : Hid (∀ (o : Obj) (j : Nat) u, (xs.map cxV)[j]? = some u → (w.alloc o).cell? (ad.add j) = some u) := by
      unfold Hid
      intro o j u hj
      have hp : 0 < xs.length := by
        have := (List.getElem?_eq_some_iff.1 hj).1
        simp at this; omega
      obtain ⟨off, e, _⟩ := hc hp
      cases e
      exact HX.out.news o j u hj
    clear hc hl
    have hq := Lib.run_eql_slice_nil (P := Try.prog) w 23 48 (some ad) len cap 0 0 Try.underlying23
    go_enter Try.func54, Try.ntmps54
    go_wp2_with (at_builtin; go_loud ((refine wpList_append_own _ rfl _ _ 23 rfl w.heap.size 48 ip (.complex .f32 0 0) 1 8 Try.underlying23 hip hzp hsp hbp rfl (by decide) _ _ _ rfl HO.out ad len cap (xs.map cxV) rfl ?c1 ?c2 ?c3 ?c4 ?c5 ?c6 ?_); (case c1 => rw [List.length_map, ← HL.out, Nat.mul_one]); (case c2 => exact HN.out _); (case c3 => exact one_cells); (case c4 => unfold maxLen; omega); (case c5 => omega); (case c6 => simp); intro v1 w1 ho hgr _; rw [Nat.zero_add, List.nil_append] at ho; obtain ⟨A1, q1, rfl⟩ := ownsRow_slice ho; have HO1 := Lib.hid ho; have HG1 := Lib.hid hgr; clear ho hgr))
    go_ret
    have ho := HO1.out
    obtain ⟨b', h1, _, _⟩ := ownsRow_hasS ho
    exact ⟨_, b', rfl, h1, ((Span.refl _ _ _).alloc _).grown HG1.out (fun k hk => by have hk' : some w.heap.size = some k := hk; injection hk' with hk'; right; omega)⟩
end
end Go.Proofs.Ytlhocjoncblocaa
