/- Rings that are valid: IsRing. Rings are made. What a ring holds: ItemsOf. Rings in plain mathematics: a sample is put behind the others, the oldest one is taken. -/
import Derived.Test.YtkjlodoppmipfaaGreatJg25
import Derived.Test.YtkjlodoppmipfaaGreatJg3
import Derived.Test.YtkjlodoppmipfaaGreatJg6
import Derived.Deep.RegionWith
import Derived.Outline
namespace Go.Proofs.YtkjlodoppmipfaaGreat
section
open Go.RowKit

/-- A ring as numbers: at most 16 places, the free ones are 0. -/
def ValidR (xs : List Cx) (a k : Nat) : Prop := 1 ≤ xs.length ∧ xs.length ≤ 16 ∧ a < xs.length ∧ k ≤ xs.length ∧ ∀ j, k ≤ j → j < xs.length → xs[(a + j) % xs.length]? = some (0, 0)

theorem isPlainZero_zero (w : World) : Calls Tryz.prog 162 #[.complex .f32 0 0] w fun e w' => e = .returned (.bool true) ∧ w = w' := by
  have hb := run_float32bits
  go_enter Tryz.func162, Tryz.ntmps162
  go_wp2_with fail
  go_ret
  exact ⟨rfl, rfl⟩

theorem ringIndex_any (A : Option Addr) (n p a j : Nat) (c : Int) (h1 : 1 ≤ n) (h2 : n ≤ 16) (ha : a ≤ 16) (hj : j ≤ 16) (w : World) : Calls Tryz.prog 163 #[.agg #[.slice A n p, .int .i64 (a : Int), .int .i64 c], .int .i64 (j : Int)] w fun e w' => e = .returned (.int .i64 (((a + j) % n : Nat) : Int)) ∧ Span 0 0 w w' := by
  have i0 : ¬ ((n : Int) = 0) := by omega
  have i1 : ¬ (n = 0) := by omega
  have i2 : ((a : Int) + (j : Int)).tmod (n : Int) = (((a + j) % n : Nat) : Int) := by
    rw [← Int.natCast_add, Int.ofNat_tmod]
  have i3 : IntKind.i64.wrap (((a + j) % n : Nat) : Int) = (((a + j) % n : Nat) : Int) := IntWalk.i64_in _ (by have := Nat.mod_lt (a + j) (show 0 < n by omega); omega)
  obtain ⟨q, hq⟩ : ∃ q, q = (a + j) % n := ⟨_, rfl⟩
  rw [← hq] at i2 i3 ⊢
  clear hq
  go_enter Tryz.func163, Tryz.ntmps163
  go_wp2_with fail
  go_ret
  exact ⟨rfl, (Span.refl _ _ _).alloc _⟩

set_option maxRecDepth 100000 in
set_option maxHeartbeats 2000000 in
theorem isRing_true (xs : List Cx) (a k : Nat) (hv : ValidR xs a k) (o : Bool) (b lo hi : Nat) (v : Value) (w : World) (hx : HasS cxV o b lo hi w v xs) :
    Calls Tryz.prog 160 #[.agg #[v, .int .i64 (a : Int), .int .i64 (k : Int)]] w (True0 w) := by
  obtain ⟨h1, h2, h3, h4, h5⟩ := hv
  have HX := Lib.hid hx
  obtain ⟨A, p, rfl, hp, hc⟩ := hx
  obtain ⟨n, hn⟩ : ∃ n, n = xs.length := ⟨_, rfl⟩
  rw [← hn] at h1 h2 h3 h4 h5 HX hp hc ⊢
  have HN := Lib.hid hn
  have H5 := Lib.hid h5
  obtain ⟨off, rfl, _, _, hbs, hcell, _⟩ := hc (by omega)
  have HC := Lib.hid hcell
  have X := Lib.hid (Bx.new w #[.slice (some ⟨b, off, none⟩) n p, .int .i64 (a : Int), .int .i64 (k : Int)] 27)
  have HS0 := Lib.hid ((Span.refl 0 0 w).alloc (.cells #[.slice (some ⟨b, off, none⟩) n p, .int .i64 (a : Int), .int .i64 (k : Int)] 27))
  have HB := Lib.hid hbs
  have d1 : decide ((n : Int) < 1) = false := by rw [decide_eq_false_iff_not]; omega
  have d2 : decide ((16 : Int) < (n : Int)) = false := by rw [decide_eq_false_iff_not]; omega
  have d3 : decide ((a : Int) < 0) = false := by rw [decide_eq_false_iff_not]; omega
  have d4 : decide ((n : Int) ≤ (a : Int)) = false := by rw [decide_eq_false_iff_not]; omega
  have d5 : decide ((k : Int) < 0) = false := by rw [decide_eq_false_iff_not]; omega
  have d6 : decide ((n : Int) < (k : Int)) = false := by rw [decide_eq_false_iff_not]; omega
  have f1 : ¬ (n < 1) := by omega
  have f2 : ¬ (16 < n) := by omega
  have f4 : ¬ (n ≤ a) := by omega
  have f4' : a < n := by omega
  have f6 : ¬ (n < k) := by omega
  have f6' : k ≤ n := by omega
  have HN1 := Lib.hid h1
  have HN2 := Lib.hid h2
  have HN3 := Lib.hid h3
  have HN4 := Lib.hid h4
  clear hc hcell hn h5 hbs h1 h2 h3 h4 hp
  go_enter Tryz.func160, Tryz.ntmps160
  go_wp2_with fail
  generalize w.alloc (.cells #[.slice (some ⟨b, off, none⟩) n p, .int .i64 (a : Int), .int .i64 (k : Int)] 27) = w0 at *
  go_loopw [4] (fun i wr => ∃ j : Nat, k ≤ j ∧ j ≤ n ∧ i = .int .i64 j ∧ Span 0 0 w0 wr) (fun i _ => n - (intOf i).toNat)
  case atStart => exact ⟨k, Nat.le_refl _, HN4.out, rfl, Span.refl _ _ _⟩
  case round =>
    obtain ⟨j, hkj, hjn, rfl, hs⟩ := hrel
    have cx := (X.out.keep hs).cells
    have HSr := Lib.hid (HS0.out.trans hs)
    have HXr := Lib.hid (X.out.keep hs)
    by_cases hlt : j < n
    · obtain ⟨q, hq⟩ : ∃ q, q = (a + j) % n := ⟨_, rfl⟩
      have hqn : q < n := by rw [hq]; exact Nat.mod_lt _ (by omega)
      have hz := H5.out j hkj hlt
      rw [← hq] at hz
      have hck : wr.cell? ⟨b, off + q, none⟩ = some (.complex .f32 0 0) := ((HSr.out.cells (Nat.le_refl _)).1 b _ HB.out).trans (HC.out q _ hz)
      have RI := Lib.hid (ringIndex_any (some ⟨b, off, none⟩) n p a j (k : Int) HN1.out HN2.out (by have := HN3.out; have := HN2.out; omega) (by have := HN2.out; omega))
      rw [← hq] at RI
      have HCK := Lib.hid hck
      have j0 : (0 : Int) ≤ (q : Int) := by omega
      have j1 : (q : Int) < (n : Int) := by omega
      have HJ := Lib.hid hlt
      have HK := Lib.hid hkj
      have HS1 := Lib.hid hs
      clear hq hz hs hkj hjn
      go_wp2_with fail
      go_region_with (first
        | (go_at_call 163; go_loud ((refine (RI.out _).mono ?_; rintro _ wq ⟨rfl, sq⟩; have SQ : Hid (Span 0 0 wr wq) := (by first | exact sq | exact sq.undrawn | exact Span.undrawn (n := 1) sq); have cq := (HXr.out.keep SQ.out).cells; have hcq : wq.cell? ⟨b, off + q, none⟩ = some (.complex .f32 0 0) := ((SQ.out.cells (Nat.le_refl _)).1 b _ (Nat.lt_of_lt_of_le HB.out HSr.out.size)).trans HCK.out; clear sq)))
        | (go_at_call 162; go_loud (refine (isPlainZero_zero _).mono ?_; rintro _ _ ⟨rfl, rfl⟩)))
      all_goals
        go_wp2_with fail
        go_roundw
        case rel => exact ⟨j + 1, by have := HK.out; omega, by omega, by go_num, by first | exact HS1.out.trans SQ.out | exact (HS1.out.trans SQ.out).drewN _⟩
        case measure => simp [intOf]; omega
    · have hje : j = n := by omega
      have HJ := Lib.hid hje
      clear hje hs
      go_wp2_with fail
      go_ret
      exact ⟨rfl, HSr.out⟩
end
section
open Go.RowKit

theorem HasR.form {own : Bool} {lo hi : Nat} {w : World} {v : Value} {t : Rg} (h : HasR own lo hi w v t) : ∃ A c, v = .agg #[.slice A t.store.length c, .int .i64 t.at_, .int .i64 t.cnt] := by
  obtain ⟨b1, vS, rfl, h1⟩ := h
  obtain ⟨A, c, rfl, _⟩ := h1
  exact ⟨A, c, rfl⟩

def zeroRing : Rg := ⟨[], 0, 0⟩
/-- A ring that is made, or none. -/
def GivesR (o : Option Rg) (w : World) (e : Ending) (w' : World) : Prop :=
  ∃ v, e = .returned (.tuple #[v, .bool o.isSome]) ∧ HasR true w.heap.size w'.heap.size w' v (o.getD zeroRing) ∧ Span 0 0 w w'

/-- A box of 3 cells. -/
def Box3 (b : Nat) (u0 u1 u2 : Value) (w : World) : Prop := w.cell? ⟨b, 0, none⟩ = some u0 ∧ w.cell? ⟨b, 1, none⟩ = some u1 ∧ w.cell? ⟨b, 2, none⟩ = some u2
theorem box3_mk {b : Nat} {u0 u1 u2 : Value} {w : World} (h0 : w.cell? ⟨b, 0, none⟩ = some u0) (h1 : w.cell? ⟨b, 1, none⟩ = some u1) (h2 : w.cell? ⟨b, 2, none⟩ = some u2) : Box3 b u0 u1 u2 w := ⟨h0, h1, h2⟩
theorem box3_span {lo hi b : Nat} {u0 u1 u2 : Value} {w w' : World} (h : Box3 b u0 u1 u2 w) (s : Span lo hi w w') (hb : b < w.heap.size) (hd : hi ≤ lo ∨ b < lo ∨ hi ≤ b) : Box3 b u0 u1 u2 w' := by
  have e := s.block b hb (by omega)
  exact ⟨(World.cell?_of_block (w := w) (a := ⟨b, 0, none⟩) e).trans h.1, (World.cell?_of_block (w := w) (a := ⟨b, 1, none⟩) e).trans h.2.1, (World.cell?_of_block (w := w) (a := ⟨b, 2, none⟩) e).trans h.2.2⟩
theorem box3_alloc {b : Nat} {u0 u1 u2 : Value} {w : World} (h : Box3 b u0 u1 u2 w) (hb : b < w.heap.size) : (∀ o, (w.alloc o).cell? ⟨b, 0, none⟩ = some u0) ∧ (∀ o, (w.alloc o).cell? ⟨b, 1, none⟩ = some u1) ∧ (∀ o, (w.alloc o).cell? ⟨b, 2, none⟩ = some u2) :=
  have k := fun o => box3_span h ((Span.refl 0 0 w).alloc o) hb (.inl (Nat.le_refl _))
  ⟨fun o => (k o).1, fun o => (k o).2.1, fun o => (k o).2.2⟩
theorem box3_new (w : World) (u0 u1 u2 : Value) (t : TypeId) : Box3 w.heap.size u0 u1 u2 (w.alloc (.cells #[u0, u1, u2] t)) :=
  ⟨(by rw [World.cell?_alloc_new]; rfl), (by rw [World.cell?_alloc_new]; rfl), (by rw [World.cell?_alloc_new]; rfl)⟩

def ringO (n : Int) : Option Rg := if 1 ≤ n ∧ n ≤ 16 then some ⟨List.replicate n.toNat (0, 0), 0, 0⟩ else none
theorem ringO_len (n : Int) : ((ringO n).getD zeroRing).store.length ≤ 16 := by
  unfold ringO
  by_cases h : 1 ≤ n ∧ n ≤ 16
  · rw [if_pos h]; simp; omega
  · rw [if_neg h]; simp [zeroRing]

theorem zeros_hasS' (w : World) (m lo hi : Nat) (h1 : lo ≤ w.heap.size) (h2 : w.heap.size < hi) : HasS cxV true w.heap.size lo hi (w.alloc (.cells (zerosV (.complex .f32 0 0) m) 23)) (.slice (some ⟨w.heap.size, 0, none⟩) m m) (List.replicate m (0, 0)) := by
  have hF : Filled (w.alloc (.cells (zerosV (.complex .f32 0 0) m) 23)) w.heap.size 23 m m (fun _ => .complex .f32 0 0) :=
    ⟨zerosV (.complex .f32 0 0) m, heap_alloc_new _ _, by simp [zerosV], fun j hj => by simp [zerosV, hj]⟩
  have := Filled.hasS (val := cxV) (xs := List.replicate m ((0, 0) : Cx)) (lo := lo) (hi := hi) (w := w.alloc (.cells (zerosV (.complex .f32 0 0) m) 23)) (g := w.heap.size) (e := 23) (f := fun _ => .complex .f32 0 0) (by rw [List.length_replicate]; exact hF)
    (fun j x hj => by obtain ⟨_, h⟩ := List.getElem?_eq_some_iff.1 hj; simp at h; rw [← h]; rfl) h1 h2
  rw [List.length_replicate] at this
  exact this

set_option maxRecDepth 100000 in
theorem impl_newRing (n : Int) (w : World) : Calls Tryz.prog 34 #[.int .i64 n] w (GivesR (ringO n) w) := by
  unfold ringO
  by_cases h0 : n < 1
  · rw [if_neg (by omega)]
    go_enter Tryz.func34, Tryz.ntmps34
    go_wp2
    exact bodyPost_ret (v := .tuple #[.agg #[.slice none 0 0, .int .i64 0, .int .i64 0], .bool false]) (by simp [results, Tryz.results34, go_sem]) rfl ⟨_, rfl, HasR.none_ _ _ _ _, (Span.refl _ _ _).alloc _⟩
  · by_cases h1 : n ≤ 16
    · obtain ⟨m, rfl⟩ := Int.eq_ofNat_of_zero_le (show 0 ≤ n by omega)
      rw [if_pos (by omega)]
      have i0 : decide ((m : Int) < 1) = false := by rw [decide_eq_false_iff_not]; omega
      have i1 : decide ((16 : Int) < (m : Int)) = false := by rw [decide_eq_false_iff_not]; omega
      have hmk := run_make_zeros (P := Tryz.prog) (w.alloc (.cells #[.slice none 0 0, .int .i64 0, .int .i64 0] 27)) 25 23 (.complex .f32 0 0) 8 Tryz.underlying25 info_c64 rfl m (by omega) (by omega)
      go_enter Tryz.func34, Tryz.ntmps34
      go_wp2_with fail
      have HZ := Lib.hid (zeros_hasS' (w.alloc (.cells #[.slice (some ⟨w.heap.size + 1, 0, none⟩) m m, .int .i64 0, .int .i64 0] 27)) m (w.heap.size + 1) (w.heap.size + 2) (by simp) (by simp))
      obtain ⟨HX0, HX1, HX2⟩ := box3_span (box3_new w (.slice (some ⟨w.heap.size + 1, 0, none⟩) m m) (.int .i64 0) (.int .i64 0) 27) ((Span.refl 0 0 _).alloc (.cells (zerosV (.complex .f32 0 0) m) 23)) (by simp) (.inl (Nat.le_refl _))
      rw [show (w.alloc (.cells #[.slice (some ⟨w.heap.size + 1, 0, none⟩) m m, .int .i64 0, .int .i64 0] 27)).heap.size = w.heap.size + 1 by simp] at HZ
      refine bodyPost_ret (v := .tuple #[.agg #[.slice (some ⟨w.heap.size + 1, 0, none⟩) m m, .int .i64 0, .int .i64 0], .bool true]) (by simp [results, Tryz.results34, go_sem, HX0, HX1, HX2]) rfl ⟨_, rfl, ?_, ((Span.refl 0 0 w).alloc _).alloc _⟩
      refine HasR.weak (lo := w.heap.size + 1) (hi := w.heap.size + 2) ⟨w.heap.size + 1, _, rfl, ?_⟩ (by omega) (.inl (by simp))
      have := HZ.out
      simpa using this
    · rw [if_neg (by omega)]
      have i0 : decide (n < 1) = false := by rw [decide_eq_false_iff_not]; omega
      have i1 : decide (16 < n) = true := by rw [decide_eq_true_iff]; omega
      go_enter Tryz.func34, Tryz.ntmps34
      go_wp2
      exact bodyPost_ret (v := .tuple #[.agg #[.slice none 0 0, .int .i64 0, .int .i64 0], .bool false]) (by simp [results, Tryz.results34, go_sem]) rfl ⟨_, rfl, HasR.none_ _ _ _ _, (Span.refl _ _ _).alloc _⟩

set_option maxRecDepth 100000 in
theorem spec_newRing (n : Int) (w : World) : Calls Tryz.prog 93 #[.int .i64 n] w (GivesR (ringO n) w) := by
  unfold ringO
  by_cases h1 : 1 ≤ n ∧ n ≤ 16
  · obtain ⟨m, rfl⟩ := Int.eq_ofNat_of_zero_le (show 0 ≤ n by omega)
    rw [if_pos (by omega)]
    have i0 : Hid (decide ((1 : Int) ≤ (m : Int) ∧ (m : Int) ≤ 16) = true) := by unfold Hid; rw [decide_eq_true_iff]; omega
    have hmk := run_make_zeros (P := Tryz.prog) (w.alloc (.cells #[.slice none 0 0, .int .i64 0, .int .i64 0] 27)) 25 23 (.complex .f32 0 0) 8 Tryz.underlying25 info_c64 rfl m (by omega) (by omega)
    go_enter Tryz.func93, Tryz.ntmps93
    go_wp2_with fail
    refine (l1In_any _ _ _ _).mono ?_
    rintro _ _ ⟨rfl, rfl⟩
    rw [i0.out]
    go_wp2_with fail
    have HZ := Lib.hid (zeros_hasS' (w.alloc (.cells #[.slice (some ⟨w.heap.size + 1, 0, none⟩) m m, .int .i64 0, .int .i64 0] 27)) m (w.heap.size + 1) (w.heap.size + 2) (by simp) (by simp))
    obtain ⟨HX0, HX1, HX2⟩ := box3_span (box3_new w (.slice (some ⟨w.heap.size + 1, 0, none⟩) m m) (.int .i64 0) (.int .i64 0) 27) ((Span.refl 0 0 _).alloc (.cells (zerosV (.complex .f32 0 0) m) 23)) (by simp) (.inl (Nat.le_refl _))
    rw [show (w.alloc (.cells #[.slice (some ⟨w.heap.size + 1, 0, none⟩) m m, .int .i64 0, .int .i64 0] 27)).heap.size = w.heap.size + 1 by simp] at HZ
    refine bodyPost_ret (v := .tuple #[.agg #[.slice (some ⟨w.heap.size + 1, 0, none⟩) m m, .int .i64 0, .int .i64 0], .bool true]) (by simp [results, Tryz.results93, go_sem, HX0, HX1, HX2]) rfl ⟨_, rfl, ?_, ((Span.refl 0 0 w).alloc _).alloc _⟩
    refine HasR.weak (lo := w.heap.size + 1) (hi := w.heap.size + 2) ⟨w.heap.size + 1, _, rfl, ?_⟩ (by omega) (.inl (by simp))
    have := HZ.out
    simpa using this
  · rw [if_neg h1]
    have b3 : Hid (decide ((1 : Int) ≤ n ∧ n ≤ 16) = false) := by unfold Hid; rw [decide_eq_false_iff_not]; omega
    clear h1
    go_enter Tryz.func93, Tryz.ntmps93
    go_wp2_with fail
    refine (l1In_any _ _ _ _).mono ?_
    rintro _ _ ⟨rfl, rfl⟩
    rw [b3.out]
    go_wp2
    exact bodyPost_ret (v := .tuple #[.agg #[.slice none 0 0, .int .i64 0, .int .i64 0], .bool false]) (by simp [results, Tryz.results93, go_sem]) rfl ⟨_, rfl, HasR.none_ _ _ _ _, (Span.refl _ _ _).alloc _⟩
end
section
open Go.RowKit

def itemR (xs : List Cx) (a j : Nat) : Cx := (xs[(a + j) % xs.length]?).getD (0, 0)
def itemsR (xs : List Cx) (a k : Nat) : List Cx := (List.range k).map (itemR xs a)
theorem itemsR_length (xs : List Cx) (a k : Nat) : (itemsR xs a k).length = k := by simp [itemsR]
theorem itemsR_get {xs : List Cx} {a k j : Nat} {z : Cx} (h : (itemsR xs a k)[j]? = some z) : z = itemR xs a j := by
  unfold itemsR at h
  rw [List.getElem?_map] at h
  cases hj : (List.range k)[j]? with
  | none => rw [hj] at h; cases h
  | some i =>
    rw [hj] at h
    obtain ⟨hl, he⟩ := List.getElem?_eq_some_iff.1 hj
    simp at he h
    rw [← h, ← he]

theorem Filled.lt {w : World} {g : Nat} {e : TypeId} {n k : Nat} {f : Nat → Value} (h : Filled w g e n k f) : g < w.heap.size := by
  obtain ⟨cs, hh, _, _⟩ := h
  by_cases h : g < w.heap.size
  · exact h
  · rw [Array.getElem?_eq_none (by omega)] at hh; cases hh
theorem Filled.keep {w w' : World} {g : Nat} {e : TypeId} {n k : Nat} {f : Nat → Value} (h : Filled w g e n k f) (s : Span 0 0 w w') : Filled w' g e n k f := by
  obtain ⟨cs, hh, hs, hf⟩ := h
  have hlt : g < w.heap.size := by
    by_cases h : g < w.heap.size
    · exact h
    · rw [Array.getElem?_eq_none (by omega)] at hh; cases hh
  exact ⟨cs, (s.block g hlt (by omega)).trans hh, hs, hf⟩
end
section
open Go.RowKit

/-- A ring as numbers: its store, where the oldest one is, how many there are. -/
abbrev Rn := List Cx × Nat × Nat
def takeR (r : Rn) : Rn := (r.1.set r.2.1 (0, 0), (r.2.1 + 1) % r.1.length, r.2.2 - 1)
def putR (r : Rn) (z : Cx) : Rn := (r.1.set ((r.2.1 + r.2.2) % r.1.length) z, r.2.1, r.2.2 + 1)
def pushR (r : Rn) (z : Cx) : Rn := if r.2.2 = r.1.length then putR (takeR r) z else putR r z
/-- What is given when a sample is added. -/
def oldR (r : Rn) : Cx := if r.2.2 = r.1.length then itemR r.1 r.2.1 0 else (0, 0)
def VR (r : Rn) : Prop := ValidR r.1 r.2.1 r.2.2
def itsR (r : Rn) : List Cx := itemsR r.1 r.2.1 r.2.2

theorem VR.pos {r : Rn} (h : VR r) : 1 ≤ r.1.length := h.1
theorem VR.most {r : Rn} (h : VR r) : r.1.length ≤ 16 := h.2.1
theorem VR.at_ {r : Rn} (h : VR r) : r.2.1 < r.1.length := h.2.2.1
theorem VR.cnt {r : Rn} (h : VR r) : r.2.2 ≤ r.1.length := h.2.2.2.1

theorem mod_ne {n a j k : Nat} (hj : j < n) (hk : k < n) (h : j ≠ k) : (a + j) % n ≠ (a + k) % n := by
  intro e
  have e1 := Nat.div_add_mod (a + j) n
  have e2 := Nat.div_add_mod (a + k) n
  rw [e] at e1
  generalize (a + k) % n = m at *
  generalize hp : (a + j) / n = p at *
  generalize hq : (a + k) / n = q at *
  rcases Nat.lt_trichotomy p q with c | c | c
  · have := Nat.mul_le_mul_left n (show p + 1 ≤ q from c)
    rw [Nat.mul_add, Nat.mul_one] at this
    omega
  · subst c; omega
  · have := Nat.mul_le_mul_left n (show q + 1 ≤ p from c)
    rw [Nat.mul_add, Nat.mul_one] at this
    omega

theorem next_mod (a j n : Nat) : ((a + 1) % n + j) % n = (a + (j + 1)) % n := by
  rw [Nat.mod_add_mod]
  congr 1
  omega

theorem VR.take {r : Rn} (h : VR r) (hp : 0 < r.2.2) : VR (takeR r) := by
  obtain ⟨xs, a, k⟩ := r
  obtain ⟨h1, h2, h3, h4, h5⟩ := h
  unfold VR takeR
  simp only at *
  refine ⟨by simpa using h1, by simpa using h2, by simpa using Nat.mod_lt _ (by omega), by simp only [List.length_set]; omega, fun j hj hl => ?_⟩
  simp only [List.length_set] at hl ⊢
  rw [next_mod, List.getElem?_set]
  have hm : (a + (j + 1)) % xs.length < xs.length := Nat.mod_lt _ (by omega)
  split
  · first | rfl | rw [if_pos (by omega)]
  · rename_i hne
    have hjn : j + 1 < xs.length := by
      by_cases hc : j + 1 < xs.length
      · exact hc
      · exfalso
        apply hne
        have : j + 1 = xs.length := by omega
        rw [this, Nat.add_mod_right, Nat.mod_eq_of_lt h3]
    exact h5 (j + 1) (by omega) hjn

theorem VR.put {r : Rn} (h : VR r) (z : Cx) (hp : r.2.2 < r.1.length) : VR (putR r z) := by
  obtain ⟨xs, a, k⟩ := r
  obtain ⟨h1, h2, h3, h4, h5⟩ := h
  unfold VR putR
  simp only at *
  refine ⟨by simpa using h1, by simpa using h2, by simpa using h3, by simp only [List.length_set]; omega, fun j hj hl => ?_⟩
  simp only [List.length_set] at hl ⊢
  rw [List.getElem?_set, if_neg (mod_ne hp hl (by omega))]
  exact h5 j (by omega) hl

theorem VR.push {r : Rn} (h : VR r) (z : Cx) : VR (pushR r z) := by
  unfold pushR
  split
  · rename_i hc
    have hp : 0 < r.2.2 := by have := h.pos; omega
    refine (h.take hp).put z ?_
    unfold takeR; simp only [List.length_set]; omega
  · rename_i hc
    exact h.put z (by have := h.cnt; omega)

theorem itemR_get {xs : List Cx} {a j : Nat} (h : 1 ≤ xs.length) : xs[(a + j) % xs.length]? = some (itemR xs a j) := by
  have hm : (a + j) % xs.length < xs.length := Nat.mod_lt _ (by omega)
  unfold itemR
  rw [List.getElem?_eq_getElem hm]
  rfl

theorem itsR_get {r : Rn} {j : Nat} (hj : j < r.2.2) : (itsR r)[j]? = some (itemR r.1 r.2.1 j) := by
  unfold itsR itemsR
  rw [List.getElem?_map, List.getElem?_range hj]
  rfl
theorem itsR_length (r : Rn) : (itsR r).length = r.2.2 := itemsR_length _ _ _

theorem itsR_take {r : Rn} (h : VR r) (hp : 0 < r.2.2) : itsR r = itemR r.1 r.2.1 0 :: itsR (takeR r) := by
  apply List.ext_getElem?
  intro i
  by_cases hi : i < r.2.2
  · rw [itsR_get hi]
    cases i with
    | zero => rfl
    | succ j =>
      rw [List.getElem?_cons_succ, itsR_get (show j < (takeR r).2.2 by unfold takeR; simp only; omega)]
      unfold takeR itemR
      simp only [List.length_set]
      have h3 := h.cnt
      rw [next_mod, List.getElem?_set, if_neg]
      intro e
      have h4 := h.at_
      exact mod_ne (n := r.1.length) (a := r.2.1) (j := 0) (k := j + 1) (by omega) (by omega) (by omega) (by rw [Nat.add_zero, Nat.mod_eq_of_lt h4]; exact e)
  · rw [List.getElem?_eq_none (by rw [itsR_length]; omega), List.getElem?_eq_none]
    simp only [List.length_cons, itsR_length]
    unfold takeR; simp only; omega

theorem itsR_put {r : Rn} (_h : VR r) (z : Cx) (hp : r.2.2 < r.1.length) : itsR (putR r z) = itsR r ++ [z] := by
  apply List.ext_getElem?
  intro i
  by_cases hi : i < r.2.2
  · rw [List.getElem?_append_left (by rw [itsR_length]; exact hi), itsR_get hi, itsR_get (show i < (putR r z).2.2 by unfold putR; simp only; omega)]
    unfold putR itemR
    simp only [List.length_set]
    rw [List.getElem?_set, if_neg (mod_ne hp (by omega) (by omega))]
  · by_cases he : i = r.2.2
    · subst he
      rw [List.getElem?_append_right (by rw [itsR_length]; exact Nat.le_refl _), itsR_length, Nat.sub_self, itsR_get (show r.2.2 < (putR r z).2.2 by unfold putR; simp only; omega)]
      unfold putR itemR
      simp only [List.length_set]
      rw [List.getElem?_set, if_pos rfl, if_pos (Nat.mod_lt _ (by omega))]
      rfl
    · rw [List.getElem?_eq_none (by rw [itsR_length]; unfold putR; simp only; omega), List.getElem?_eq_none]
      simp only [List.length_append, itsR_length, List.length_cons, List.length_nil]
      omega

theorem takeR_len (r : Rn) : (takeR r).1.length = r.1.length := by unfold takeR; simp
theorem putR_len (r : Rn) (z : Cx) : (putR r z).1.length = r.1.length := by unfold putR; simp
theorem pushR_len (r : Rn) (z : Cx) : (pushR r z).1.length = r.1.length := by
  unfold pushR; split
  · rw [putR_len, takeR_len]
  · rw [putR_len]
theorem takeR_cnt (r : Rn) : (takeR r).2.2 = r.2.2 - 1 := rfl
theorem putR_cnt (r : Rn) (z : Cx) : (putR r z).2.2 = r.2.2 + 1 := rfl

theorem itsR_push {r : Rn} (h : VR r) (z : Cx) : (if r.2.2 = r.1.length then [oldR r] else []) ++ itsR (pushR r z) = itsR r ++ [z] := by
  unfold pushR oldR
  by_cases hc : r.2.2 = r.1.length
  · have hp : 0 < r.2.2 := by have := h.pos; omega
    rw [if_pos hc, if_pos hc, if_pos hc, itsR_put (h.take hp) z (by rw [takeR_len, takeR_cnt]; omega), itsR_take h hp]
    rfl
  · rw [if_neg hc, if_neg hc, itsR_put h z (by have := h.cnt; omega)]
    rfl

/-- A cell of an own slice is written. -/
theorem HasS.put {α : Type} {val : α → Value} {b lo hi off n c : Nat} {w : World} {xs : List α} (h : HasS val true b lo hi w (.slice (some ⟨b, off, none⟩) n c) xs) (i : Nat) (z : α) (hil : i < xs.length) :
    HasS val true b lo hi (w.setCell ⟨b, off + i, none⟩ (val z)) (.slice (some ⟨b, off, none⟩) n c) (xs.set i z) := by
  obtain ⟨A, cap, e, hcap, hc⟩ := h
  injection e with e1 e2 e3
  subst e1 e2 e3
  obtain ⟨off', e4, g1, g2, g3, g4, g5⟩ := hc (by omega)
  injection e4 with e4
  injection e4 with _ e5
  subst e5
  refine ⟨_, c, by rw [List.length_set], by simpa using hcap, fun _ => ⟨off, rfl, g1, g2, by simpa [World.setCell] using g3, fun j x hj => ?_, fun _ j hj => ?_⟩⟩
  · rw [List.getElem?_set] at hj
    by_cases hij : i = j
    · subst hij
      rw [if_pos rfl, if_pos hil] at hj
      injection hj with hj
      rw [← hj]
      exact World.cell?_setCell_same w ⟨b, off + i, none⟩ _ (g4 i _ (List.getElem?_eq_getElem hil))
    · rw [if_neg hij] at hj
      rw [World.cell?_setCell_other w ⟨b, off + i, none⟩ ⟨b, off + j, none⟩ _ (by intro e; injection e; omega)]
      exact g4 j x hj
  · rw [World.frozen?_setCell]
    exact g5 rfl j (by simpa using hj)
end
end Go.Proofs.YtkjlodoppmipfaaGreat
