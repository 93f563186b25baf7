/- A valid table is found valid. Distances, and the nearest point. Deciding and encoding. Encoding, and places in lists. Products that need no draw; clones. A copy of a table; tables that are turned. Tables that are turned. -/
import Derived.Test.YtfafkdpefdpnkaaJq12
import Derived.WalkSpells
namespace Go.Proofs.Ytfafkdpefdpnkaa
section
open Go.RowKit

def finX (x : Nat) : Prop := x < 4294967296 ∧ rungOf Ieee.single x < 2139095040
def finC (z : Cx) : Prop := finX z.1 ∧ finX z.2
structure Valid (t : Tab) : Prop where
  len : t.2.length = t.1.length
  most : t.1.length ≤ 64
  fin : ∀ z ∈ t.1, finC z
  apart : Apart t.1
end
section
open Go.RowKit

def distC (a b : Cx) : Nat := fC .add .f32 (fC .mul .f32 (fC .sub .f32 a.1 b.1) (fC .sub .f32 a.1 b.1)) (fC .mul .f32 (fC .sub .f32 a.2 b.2) (fC .sub .f32 a.2 b.2))

theorem widen_nan (x : Nat) (w : World) : nanB .f64 (fCv .f32 .f64 x w) = nanB .f32 x := by
  cases h : nanB .f32 x with
  | true => exact nanB_of_cv w (by simp) h
  | false =>
    rcases Nat.lt_trichotomy (rungOf Ieee.single x) Ieee.single.infRung with h1 | h1 | h1
    · obtain ⟨m, g, h2, _⟩ := read_isU (widen_fin w h1)
      show (Ieee.double.read _).isNaN = false
      rw [h2]; rfl
    · have hi := widen_inf w (read_inf Ieee.single s_eb h1)
      show (Ieee.double.read _).isNaN = false
      rw [hi]; rfl
    · have := nan_of_rung (by rw [s_inf] at h1; exact h1)
      rw [h] at this; cases this

def nearStep (z : Cx) (best : Option (Nat × Nat)) (i : Nat) (p : Cx) : Option (Nat × Nat) :=
  if nanB .f32 (distC p z) then best else
  match best with
  | none => some (i, distC p z)
  | some (j, m) => if FloatKind.f32.format.order (distC p z) m == some .lt then some (i, distC p z) else some (j, m)
def nearC (Q : List Cx) (z : Cx) : Option (Nat × Nat) := Q.zipIdx.foldl (fun b p => nearStep z b p.2 p.1) none

theorem nearC_snoc (Q : List Cx) (p z : Cx) : nearC (Q ++ [p]) z = nearStep z (nearC Q z) Q.length p := by
  simp [nearC, List.zipIdx_append]

def GivesNear (r : Option (Nat × Nat)) (w : World) (e : Ending) (w' : World) : Prop :=
  ∃ n, e = .returned (.tuple #[.int .i64 (((r.map (·.1)).getD 0 : Nat) : Int), .bool r.isSome]) ∧ w' = w.drewN n
end
section
open Go.RowKit

/-- A list of numbers in new memory, and true. -/
def GivesL {α : Type} (val : α → Value) (xs : List α) (w : World) (e : Ending) (w' : World) : Prop :=
  ∃ v b, e = .returned (.tuple #[v, .bool true]) ∧ HasS val true b w.heap.size w'.heap.size w' v xs ∧ Span 0 0 w w'

theorem Filled.setOther {w : World} {g : Nat} {e : TypeId} {n k : Nat} {f : Nat → Value} (h : Filled w g e n k f) (n' : Nat) : Filled (w.drewN n') g e n k f := h

/-- How each sample is decided. -/
def Decided (t : Tab) (zs : List Cx) (ls : List Int) : Prop :=
  ls.length = zs.length ∧ ∀ (j : Nat) (z : Cx), zs[j]? = some z → ∃ (i m : Nat) (l : Int), nearC t.1 z = some (i, m) ∧ t.2[i]? = some l ∧ ls[j]? = some l
end
section
open Go.RowKit

/-- How each label is encoded. -/
def Encoded (t : Tab) (ns : List Int) (zs : List Cx) : Prop :=
  zs.length = ns.length ∧ ∀ (j : Nat) (n : Int), ns[j]? = some n → ∃ (i : Nat) (z : Cx), t.2[i]? = some n ∧ (∀ k, k < i → t.2[k]? ≠ some n) ∧ t.1[i]? = some z ∧ zs[j]? = some z
end
section
open Go.RowKit

/-- A product whose parts are numbers that single precision has room for. -/
def mulS (a b : Cx) : Option Cx :=
  (floatToFloatBits .f32 a.1 .f64).bind fun ar => (floatToFloatBits .f32 a.2 .f64).bind fun ai => (floatToFloatBits .f32 b.1 .f64).bind fun br => (floatToFloatBits .f32 b.2 .f64).bind fun bi =>
  (floatBits .mul .f64 ar br).bind fun p => (floatBits .mul .f64 ai bi).bind fun q => (floatBits .sub .f64 p q).bind fun re => (floatToFloatBits .f64 re .f32).bind fun x =>
  (floatBits .mul .f64 ar bi).bind fun r => (floatBits .mul .f64 ai br).bind fun s => (floatBits .add .f64 r s).bind fun im => (floatToFloatBits .f64 im .f32).bind fun y => some (x, y)

theorem cv_of {s k : FloatKind} {b r : Nat} (h : floatToFloatBits s b k = some r) : (∀ w, fCv s k b w = r) ∧ fCd s k b = 0 := by simp [fCv, fCd, h]
theorem ar_of {op : BinOp} {k : FloatKind} {x y r : Nat} (h : floatBits op k x y = some r) : (∀ w, fAr op k x y w = r) ∧ fDr op k x y = 0 := by simp [fAr, fDr, h]

/-- A slice in new memory. -/
def GivesS {α : Type} (val : α → Value) (xs : List α) (w : World) (e : Ending) (w' : World) : Prop :=
  ∃ v b, e = .returned v ∧ HasS val true b w.heap.size w'.heap.size w' v xs ∧ Span 0 0 w w'

theorem one_cells {xs : List Cx} : ∀ u ∈ xs.map cxV, u.oneCell' = true := by
  intro u hu
  obtain ⟨x, _, rfl⟩ := List.mem_map.1 hu
  rfl
theorem one_cellsI {xs : List Int} : ∀ u ∈ xs.map intV, u.oneCell' = true := by
  intro u hu
  obtain ⟨x, _, rfl⟩ := List.mem_map.1 hu
  rfl

theorem HasS.news {α : Type} {val : α → Value} {own : Bool} {b lo hi off n c : Nat} {w : World} {xs : List α} (h : HasS val own b lo hi w (.slice (some ⟨b, off, none⟩) n c) xs) (o : Obj) :
    ∀ j u, (xs.map val)[j]? = some u → (w.alloc o).cell? ((⟨b, off, none⟩ : Addr).add j) = some u := by
  intro j u hj
  rw [List.getElem?_map, Option.map_eq_some_iff] at hj
  obtain ⟨x, hx, rfl⟩ := hj
  obtain ⟨A, cap, e, _, hc⟩ := h
  obtain ⟨off', e2, _, _, hb, hcell, _⟩ := hc (by have := (List.getElem?_eq_some_iff.1 hx).1; omega)
  injection e with e3 _ _
  rw [e2] at e3
  injection e3 with e3
  injection e3 with _ e4
  subst e4
  rw [Addr.add_lit]
  exact ((Span.alloc (Span.refl 0 0 w) o).cells (Nat.le_refl _)).1 b _ hb |>.trans (hcell j x hx)

set_option maxRecDepth 100000 in
set_option maxHeartbeats 1000000 in
theorem cloneC_any (xs : List Cx) (o : Bool) (b lo hi : Nat) (v : Value) (w : World) (hx : HasS cxV o b lo hi w v xs) (hlen : xs.length ≤ 4194304) :
    Calls Try.prog 25 #[v] w (GivesS cxV xs w) := by
  have HX := Lib.hid hx
  obtain ⟨ip, hip, hzp, hsp, hbp⟩ := info_parts info_c64
  obtain ⟨A, cap, rfl, hcap, hc⟩ := hx
  obtain ⟨len, hl⟩ : ∃ len, len = xs.length := ⟨_, rfl⟩
  have HL := Lib.hid hl
  rw [← hl] at hcap hlen HX ⊢
  cases A with
  | none =>
    have h0 : len = 0 := by
      by_cases h : 0 < len
      · obtain ⟨off, e, _⟩ := hc (by omega)
        cases e
      · omega
    subst h0
    have HE : Hid (xs = []) := by cases xs with | nil => exact rfl | cons a l => simp at hl
    clear hc hl
    have hq := Lib.run_eql_slice_nil (P := Try.prog) w 23 35 none 0 cap 0 0 Try.underlying23
    go_enter Try.func25, Try.ntmps25
    go_wp2
    go_ret
    refine ⟨_, 0, rfl, ?_, Span.refl _ _ _⟩
    rw [HE.out]; exact HasS.empty _ _ _ _ _ _ _ _
  | some ad =>
    have HO := Lib.hid (World.ownsRow_made (base := w.heap.size) (e := 35) (size := 1) w #[] 0 (Nat.le_refl _) (Nat.zero_le _) rfl)
    have HN : Hid (∀ (o : Obj) (j : Nat) u, (xs.map cxV)[j]? = some u → (w.alloc o).cell? (ad.add j) = some u) := by
      unfold Hid
      intro o j u hj
      have hp : 0 < xs.length := by
        have := (List.getElem?_eq_some_iff.1 hj).1
        simp at this; omega
      obtain ⟨off, e, _⟩ := hc hp
      cases e
      exact HX.out.news o j u hj
    clear hc hl
    have hq := Lib.run_eql_slice_nil (P := Try.prog) w 23 35 (some ad) len cap 0 0 Try.underlying23
    go_enter Try.func25, Try.ntmps25
    go_wp2_with (at_builtin; go_loud ((refine wpList_append_own _ rfl _ _ 23 rfl w.heap.size 35 ip (.complex .f32 0 0) 1 8 Try.underlying23 hip hzp hsp hbp rfl (by decide) _ _ _ rfl HO.out ad len cap (xs.map cxV) rfl ?c1 ?c2 ?c3 ?c4 ?c5 ?c6 ?_); (case c1 => rw [List.length_map, ← HL.out, Nat.mul_one]); (case c2 => exact HN.out _); (case c3 => exact one_cells); (case c4 => unfold maxLen; omega); (case c5 => omega); (case c6 => simp); intro v1 w1 ho hgr _; rw [Nat.zero_add, List.nil_append] at ho; obtain ⟨A1, q1, rfl⟩ := ownsRow_slice ho; have HO1 := Lib.hid ho; have HG1 := Lib.hid hgr; clear ho hgr))
    go_ret
    have ho := HO1.out
    obtain ⟨b', h1, _, _⟩ := ownsRow_hasS ho
    exact ⟨_, b', rfl, h1, ((Span.refl _ _ _).alloc _).grown HG1.out (fun k hk => by have hk' : some w.heap.size = some k := hk; injection hk' with hk'; right; omega)⟩
end
section
open Go.RowKit

def GivesT (t : Tab) (w : World) (e : Ending) (w' : World) : Prop :=
  ∃ v, e = .returned v ∧ HasTab true w.heap.size w'.heap.size w' v t ∧ Span 0 0 w w'

theorem HasS.apart {α β : Type} {val : α → Value} {val' : β → Value} {o o' : Bool} {b b' lo mid hi : Nat} {w : World} {v v' : Value} {xs : List α} {ys : List β} (h : HasS val o b lo mid w v xs) (h' : HasS val' o' b' mid hi w v' ys) (hl : 0 < xs.length) (hl' : 0 < ys.length) : b ≠ b' := by
  obtain ⟨A, c, rfl, _, hc⟩ := h
  obtain ⟨A', c', rfl, _, hc'⟩ := h'
  obtain ⟨_, _, _, h1, _⟩ := hc hl
  obtain ⟨_, _, h2, _⟩ := hc' hl'
  omega

theorem HasS.setCell {α : Type} {val : α → Value} {own : Bool} {b lo hi b0 o0 : Nat} {w : World} {v : Value} {xs : List α} (h : HasS val own b lo hi w v xs) (hd : b0 < lo) (u : Value) : HasS val own b lo hi (w.setCell ⟨b0, o0, none⟩ u) v xs :=
  h.span ((Span.refl b0 (b0 + 1) w).setCell (.inl ⟨Nat.le_refl _, Nat.lt_succ_self _⟩) u) (by omega)

theorem tab_of {own : Bool} {b1 b2 lo mid hi : Nat} {w : World} {vP vL : Value} {t : Tab} (h1 : HasS cxV own b1 lo mid w vP t.1) (h2 : HasS intV own b2 mid hi w vL t.2) (hl : lo ≤ mid) (hm : mid ≤ hi) : HasTab own lo hi w (.agg #[vP, vL]) t := by
  obtain ⟨P, L⟩ := t
  by_cases hP : 0 < P.length
  · by_cases hL : 0 < L.length
    · exact ⟨b1, b2, vP, vL, rfl, h1.apart h2 hP hL, h1.weak (Nat.le_refl _) (.inl hm), h2.weak hl (.inl (Nat.le_refl _))⟩
    · have e : L = [] := by cases L with | nil => rfl | cons a l => simp at hL
      subst e
      obtain ⟨A, c, rfl, _⟩ := h2
      exact ⟨b1, b1 + 1, vP, _, rfl, by omega, h1.weak (Nat.le_refl _) (.inl hm), HasS.empty _ _ _ _ _ _ _ _⟩
  · have e : P = [] := by cases P with | nil => rfl | cons a l => simp at hP
    subst e
    obtain ⟨A, c, rfl, _⟩ := h1
    exact ⟨b2 + 1, b2, _, vL, rfl, by omega, HasS.empty _ _ _ _ _ _ _ _, h2.weak hl (.inl (Nat.le_refl _))⟩

/-- A box of two cells that may be written. -/
def Box (b : Nat) (u v : Value) (w : World) : Prop := b < w.heap.size ∧ w.cell? ⟨b, 0, none⟩ = some u ∧ w.cell? ⟨b, 1, none⟩ = some v ∧ w.frozen? ⟨b, 0, none⟩ = false ∧ w.frozen? ⟨b, 1, none⟩ = false
theorem Box.new (w : World) (u v : Value) (t : TypeId) : Box w.heap.size u v (w.alloc (.cells #[u, v] t)) :=
  ⟨by simp, (box2_new w u v t).1, (box2_new w u v t).2, by rw [World.frozen?_alloc_new], by rw [World.frozen?_alloc_new]⟩
theorem Box.span {b : Nat} {u v : Value} {w w' : World} {lo hi : Nat} (h : Box b u v w) (hs : Span lo hi w w') (hd : hi ≤ lo ∨ b < lo ∨ hi ≤ b) : Box b u v w' := by
  obtain ⟨h0, h1, h2, h3, h4⟩ := h
  have e := hs.block b h0 (by omega)
  exact ⟨Nat.lt_of_lt_of_le h0 hs.size, (World.cell?_of_block (w := w) (a := ⟨b, 0, none⟩) e).trans h1, (World.cell?_of_block (w := w) (a := ⟨b, 1, none⟩) e).trans h2,
    (World.frozen?_of_block (w := w) (a := ⟨b, 0, none⟩) e).trans h3, (World.frozen?_of_block (w := w) (a := ⟨b, 1, none⟩) e).trans h4⟩
theorem Box.alloc {b : Nat} {u v : Value} {w : World} (h : Box b u v w) (o : Obj) : Box b u v (w.alloc o) := h.span ((Span.refl 0 0 w).alloc o) (.inl (Nat.le_refl _))
theorem Box.drewN {b : Nat} {u v : Value} {w : World} (h : Box b u v w) (n : Nat) : Box b u v (w.drewN n) := h
end
section
open Go.RowKit

theorem box_stored {b : Nat} {u v u' v' : Value} {w : World} (h : Box b u v w) :
    ((w.setCell ⟨b, 0, none⟩ u').setCell ⟨b, 1, none⟩ v').cell? ⟨b, 0, none⟩ = some u' ∧ ((w.setCell ⟨b, 0, none⟩ u').setCell ⟨b, 1, none⟩ v').cell? ⟨b, 1, none⟩ = some v' :=
  ⟨(World.cell?_setCell_other _ ⟨b, 1, none⟩ ⟨b, 0, none⟩ _ (by simp)).trans (World.cell?_setCell_same w ⟨b, 0, none⟩ _ h.2.1),
    World.cell?_setCell_same _ ⟨b, 1, none⟩ _ ((World.cell?_setCell_other _ ⟨b, 0, none⟩ ⟨b, 1, none⟩ _ (by simp)).trans h.2.2.1)⟩

theorem impl_equalPoints (a b : Cx) (w : World) : Calls Try.prog 31 #[.complex .f32 a.1 a.2, .complex .f32 b.1 b.2] w fun e w' => e = .returned (.bool (eqC a b)) ∧ w = w' := by
  obtain ⟨a1, a2⟩ := a
  obtain ⟨b1, b2⟩ := b
  simp only
  go_enter Try.func31, Try.ntmps31
  go_wp2
  go_ret
  exact ⟨rfl, rfl⟩

/-- All points have products. -/
def Turned (Q : List Cx) (z : Cx) (R : List Cx) : Prop := R.length = Q.length ∧ ∀ (j : Nat) (p : Cx), Q[j]? = some p → ∃ r, mulS p z = some r ∧ R[j]? = some r

/-- Points in the course of being turned: the first k are new. -/
structure Turning (Q R : List Cx) (L : List Int) (c1 off c2 lo hi : Nat) (vL : Value) (G F : Nat) (u v u' v' : Value) (w : World) (k : Nat) (wr : World) : Prop where
  new : ∀ (j : Nat) (p : Cx), R[j]? = some p → j < k → wr.cell? ⟨c1, off + j, none⟩ = some (.complex .f32 p.1 p.2)
  old : ∀ (j : Nat) (p : Cx), Q[j]? = some p → k ≤ j → wr.cell? ⟨c1, off + j, none⟩ = some (.complex .f32 p.1 p.2)
  free : ∀ j, j < Q.length → wr.frozen? ⟨c1, off + j, none⟩ = false
  labels : HasS intV true c2 lo hi wr vL L
  g : Box G u v wr
  f : Box F u' v' wr
  s : Span 0 0 w wr
  size : hi ≤ wr.heap.size

theorem Turning.step {Q R : List Cx} {L : List Int} {c1 off c2 lo hi : Nat} {vL : Value} {G F : Nat} {u v u' v' : Value} {w : World} {k : Nat} {wr : World} (h : Turning Q R L c1 off c2 lo hi vL G F u v u' v' w k wr)
    (hc : c1 ≠ c2) (h1 : lo ≤ c1) (h2 : c1 < hi) (hG : G < lo ∨ hi ≤ G) (hF : F < lo ∨ hi ≤ F) (hw : w.heap.size ≤ lo) {p r : Cx} (hp : Q[k]? = some p) (hr : R[k]? = some r) (hl : R.length = Q.length) :
    Turning Q R L c1 off c2 lo hi vL G F u v u' v' w (k + 1) (wr.setCell ⟨c1, off + k, none⟩ (.complex .f32 r.1 r.2)) := by
  have sp : Span c1 (c1 + 1) wr (wr.setCell ⟨c1, off + k, none⟩ (.complex .f32 r.1 r.2)) := (Span.refl c1 (c1 + 1) wr).setCell (p := ⟨c1, off + k, none⟩) (.inl ⟨Nat.le_refl _, Nat.lt_succ_self _⟩) _
  have hk := h.old k p hp (Nat.le_refl _)
  refine ⟨fun j q hq hj => ?_, fun j q hq hj => ?_, fun j hj => by rw [World.frozen?_setCell]; exact h.free j hj, h.labels.span sp (by omega), h.g.span sp (by omega), h.f.span sp (by omega), h.s.setCell (.inr (by simp only; omega)) _, by simpa [World.setCell] using h.size⟩
  · by_cases e : j = k
    · subst e
      rw [hr] at hq; cases hq
      exact World.cell?_setCell_same wr ⟨c1, off + j, none⟩ _ hk
    · exact (World.cell?_setCell_other wr ⟨c1, off + k, none⟩ ⟨c1, off + j, none⟩ _ (by intro e; injection e; omega)).trans (h.new j q hq (by omega))
  · exact (World.cell?_setCell_other wr ⟨c1, off + k, none⟩ ⟨c1, off + j, none⟩ _ (by intro e; injection e; omega)).trans (h.old j q hq (by omega))

theorem Turning.drewN {Q R : List Cx} {L : List Int} {c1 off c2 lo hi : Nat} {vL : Value} {G F : Nat} {u v u' v' : Value} {w : World} {k : Nat} {wr : World} (h : Turning Q R L c1 off c2 lo hi vL G F u v u' v' w k wr) (n : Nat) :
    Turning Q R L c1 off c2 lo hi vL G F u v u' v' w k (wr.drewN n) := ⟨h.new, h.old, h.free, h.labels, h.g, h.f, h.s.drewN n, h.size⟩
end
end Go.Proofs.Ytfafkdpefdpnkaa
