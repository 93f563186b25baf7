/- Rings are made. What a ring holds: ItemsOf. -/
import Derived.Test.YtfafkdpefdpnkaaJq16
import Derived.Outline
import Derived.Test.YtfafkdpefdpnkaaJq17
namespace Go.Proofs.Ytfafkdpefdpnkaa
section
open Go.RowKit

theorem HasR.form {own : Bool} {lo hi : Nat} {w : World} {v : Value} {t : Rg} (h : HasR own lo hi w v t) : ∃ A c, v = .agg #[.slice A t.store.length c, .int .i64 t.at_, .int .i64 t.cnt] := by
  obtain ⟨b1, vS, rfl, h1⟩ := h
  obtain ⟨A, c, rfl, _⟩ := h1
  exact ⟨A, c, rfl⟩

def zeroRing : Rg := ⟨[], 0, 0⟩
/-- A ring that is made, or none. -/
def GivesR (o : Option Rg) (w : World) (e : Ending) (w' : World) : Prop :=
  ∃ v, e = .returned (.tuple #[v, .bool o.isSome]) ∧ HasR true w.heap.size w'.heap.size w' v (o.getD zeroRing) ∧ Span 0 0 w w'

/-- A box of 3 cells. -/
def Box3 (b : Nat) (u0 u1 u2 : Value) (w : World) : Prop := w.cell? ⟨b, 0, none⟩ = some u0 ∧ w.cell? ⟨b, 1, none⟩ = some u1 ∧ w.cell? ⟨b, 2, none⟩ = some u2
theorem box3_mk {b : Nat} {u0 u1 u2 : Value} {w : World} (h0 : w.cell? ⟨b, 0, none⟩ = some u0) (h1 : w.cell? ⟨b, 1, none⟩ = some u1) (h2 : w.cell? ⟨b, 2, none⟩ = some u2) : Box3 b u0 u1 u2 w := ⟨h0, h1, h2⟩
theorem box3_span {lo hi b : Nat} {u0 u1 u2 : Value} {w w' : World} (h : Box3 b u0 u1 u2 w) (s : Span lo hi w w') (hb : b < w.heap.size) (hd : hi ≤ lo ∨ b < lo ∨ hi ≤ b) : Box3 b u0 u1 u2 w' := by
  have e := s.block b hb (by omega)
  exact ⟨(World.cell?_of_block (w := w) (a := ⟨b, 0, none⟩) e).trans h.1, (World.cell?_of_block (w := w) (a := ⟨b, 1, none⟩) e).trans h.2.1, (World.cell?_of_block (w := w) (a := ⟨b, 2, none⟩) e).trans h.2.2⟩
theorem box3_alloc {b : Nat} {u0 u1 u2 : Value} {w : World} (h : Box3 b u0 u1 u2 w) (hb : b < w.heap.size) : (∀ o, (w.alloc o).cell? ⟨b, 0, none⟩ = some u0) ∧ (∀ o, (w.alloc o).cell? ⟨b, 1, none⟩ = some u1) ∧ (∀ o, (w.alloc o).cell? ⟨b, 2, none⟩ = some u2) :=
  have k := fun o => box3_span h ((Span.refl 0 0 w).alloc o) hb (.inl (Nat.le_refl _))
  ⟨fun o => (k o).1, fun o => (k o).2.1, fun o => (k o).2.2⟩
theorem box3_new (w : World) (u0 u1 u2 : Value) (t : TypeId) : Box3 w.heap.size u0 u1 u2 (w.alloc (.cells #[u0, u1, u2] t)) :=
  ⟨(by rw [World.cell?_alloc_new]; rfl), (by rw [World.cell?_alloc_new]; rfl), (by rw [World.cell?_alloc_new]; rfl)⟩

def ringO (n : Int) : Option Rg := if 1 ≤ n ∧ n ≤ 16 then some ⟨List.replicate n.toNat (0, 0), 0, 0⟩ else none
theorem ringO_len (n : Int) : ((ringO n).getD zeroRing).store.length ≤ 16 := by
  unfold ringO
  by_cases h : 1 ≤ n ∧ n ≤ 16
  · rw [if_pos h]; simp; omega
  · rw [if_neg h]; simp [zeroRing]

theorem zeros_hasS' (w : World) (m lo hi : Nat) (h1 : lo ≤ w.heap.size) (h2 : w.heap.size < hi) : HasS cxV true w.heap.size lo hi (w.alloc (.cells (zerosV (.complex .f32 0 0) m) 35)) (.slice (some ⟨w.heap.size, 0, none⟩) m m) (List.replicate m (0, 0)) := by
  have hF : Filled (w.alloc (.cells (zerosV (.complex .f32 0 0) m) 35)) w.heap.size 35 m m (fun _ => .complex .f32 0 0) :=
    ⟨zerosV (.complex .f32 0 0) m, heap_alloc_new _ _, by simp [zerosV], fun j hj => by simp [zerosV, hj]⟩
  have := Filled.hasS (val := cxV) (xs := List.replicate m ((0, 0) : Cx)) (lo := lo) (hi := hi) (w := w.alloc (.cells (zerosV (.complex .f32 0 0) m) 35)) (g := w.heap.size) (e := 35) (f := fun _ => .complex .f32 0 0) (by rw [List.length_replicate]; exact hF)
    (fun j x hj => by obtain ⟨_, h⟩ := List.getElem?_eq_some_iff.1 hj; simp at h; rw [← h]; rfl) h1 h2
  rw [List.length_replicate] at this
  exact this

set_option maxRecDepth 100000 in
theorem spec_newRing (n : Int) (w : World) : Calls Try.prog 62 #[.int .i64 n] w (GivesR (ringO n) w) := by
  unfold ringO
  by_cases h1 : 1 ≤ n ∧ n ≤ 16
  · obtain ⟨m, rfl⟩ := Int.eq_ofNat_of_zero_le (show 0 ≤ n by omega)
    rw [if_pos (by omega)]
    have i0 : Hid (decide ((1 : Int) ≤ (m : Int) ∧ (m : Int) ≤ 16) = true) := by unfold Hid; rw [decide_eq_true_iff]; omega
    have hmk := run_make_zeros (P := Try.prog) (w.alloc (.cells #[.slice none 0 0, .int .i64 0, .int .i64 0] 52)) 23 35 (.complex .f32 0 0) 8 Try.underlying23 info_c64 rfl m (by omega) (by omega)
    go_enter Try.func62, Try.ntmps62
    go_wp2_with fail
    refine (l1In_any _ _ _ _).mono ?_
    rintro _ _ ⟨rfl, rfl⟩
    rw [i0.out]
    go_wp2_with fail
    have HZ := Lib.hid (zeros_hasS' (w.alloc (.cells #[.slice (some ⟨w.heap.size + 1, 0, none⟩) m m, .int .i64 0, .int .i64 0] 52)) m (w.heap.size + 1) (w.heap.size + 2) (by simp) (by simp))
    obtain ⟨HX0, HX1, HX2⟩ := box3_span (box3_new w (.slice (some ⟨w.heap.size + 1, 0, none⟩) m m) (.int .i64 0) (.int .i64 0) 52) ((Span.refl 0 0 _).alloc (.cells (zerosV (.complex .f32 0 0) m) 35)) (by simp) (.inl (Nat.le_refl _))
    rw [show (w.alloc (.cells #[.slice (some ⟨w.heap.size + 1, 0, none⟩) m m, .int .i64 0, .int .i64 0] 52)).heap.size = w.heap.size + 1 by simp] at HZ
    refine bodyPost_ret (v := .tuple #[.agg #[.slice (some ⟨w.heap.size + 1, 0, none⟩) m m, .int .i64 0, .int .i64 0], .bool true]) (by simp [results, Try.results62, go_sem, HX0, HX1, HX2]) rfl ⟨_, rfl, ?_, ((Span.refl 0 0 w).alloc _).alloc _⟩
    refine HasR.weak (lo := w.heap.size + 1) (hi := w.heap.size + 2) ⟨w.heap.size + 1, _, rfl, ?_⟩ (by omega) (.inl (by simp))
    have := HZ.out
    simpa using this
  · rw [if_neg h1]
    have b3 : Hid (decide ((1 : Int) ≤ n ∧ n ≤ 16) = false) := by unfold Hid; rw [decide_eq_false_iff_not]; omega
    clear h1
    go_enter Try.func62, Try.ntmps62
    go_wp2_with fail
    refine (l1In_any _ _ _ _).mono ?_
    rintro _ _ ⟨rfl, rfl⟩
    rw [b3.out]
    go_wp2
    exact bodyPost_ret (v := .tuple #[.agg #[.slice none 0 0, .int .i64 0, .int .i64 0], .bool false]) (by simp [results, Try.results62, go_sem]) rfl ⟨_, rfl, HasR.none_ _ _ _ _, (Span.refl _ _ _).alloc _⟩
end
section
open Go.RowKit

def itemR (xs : List Cx) (a j : Nat) : Cx := (xs[(a + j) % xs.length]?).getD (0, 0)
def itemsR (xs : List Cx) (a k : Nat) : List Cx := (List.range k).map (itemR xs a)
theorem itemsR_length (xs : List Cx) (a k : Nat) : (itemsR xs a k).length = k := by simp [itemsR]
theorem itemsR_get {xs : List Cx} {a k j : Nat} {z : Cx} (h : (itemsR xs a k)[j]? = some z) : z = itemR xs a j := by
  unfold itemsR at h
  rw [List.getElem?_map] at h
  cases hj : (List.range k)[j]? with
  | none => rw [hj] at h; cases h
  | some i =>
    rw [hj] at h
    obtain ⟨hl, he⟩ := List.getElem?_eq_some_iff.1 hj
    simp at he h
    rw [← h, ← he]

theorem Filled.lt {w : World} {g : Nat} {e : TypeId} {n k : Nat} {f : Nat → Value} (h : Filled w g e n k f) : g < w.heap.size := by
  obtain ⟨cs, hh, _, _⟩ := h
  by_cases h : g < w.heap.size
  · exact h
  · rw [Array.getElem?_eq_none (by omega)] at hh; cases hh
theorem Filled.keep {w w' : World} {g : Nat} {e : TypeId} {n k : Nat} {f : Nat → Value} (h : Filled w g e n k f) (s : Span 0 0 w w') : Filled w' g e n k f := by
  obtain ⟨cs, hh, hs, hf⟩ := h
  have hlt : g < w.heap.size := by
    by_cases h : g < w.heap.size
    · exact h
    · rw [Array.getElem?_eq_none (by omega)] at hh; cases hh
  exact ⟨cs, (s.block g hlt (by omega)).trans hh, hs, hf⟩

set_option maxRecDepth 100000 in
set_option maxHeartbeats 2000000 in
theorem itemsOf_any (xs : List Cx) (a k : Nat) (hv : ValidR xs a k) (o : Bool) (b lo hi : Nat) (v : Value) (w : World) (hx : HasS cxV o b lo hi w v xs) :
    Calls Try.prog 22 #[.agg #[v, .int .i64 (a : Int), .int .i64 (k : Int)]] w fun e w' => ∃ v' b', e = .returned v' ∧ HasS cxV true b' w.heap.size w'.heap.size w' v' (itemsR xs a k) ∧ Span 0 0 w w' := by
  have HV := Lib.hid hv
  obtain ⟨h1, h2, h3, h4, h5⟩ := hv
  have HX := Lib.hid hx
  obtain ⟨A, p, rfl, hp, hc⟩ := hx
  obtain ⟨n, hn⟩ : ∃ n, n = xs.length := ⟨_, rfl⟩
  have HI := Lib.hid (show ∀ j, itemR xs a j = (xs[(a + j) % xs.length]?).getD (0, 0) from fun _ => rfl)
  rw [← hn] at h1 h2 h3 h4 HX hp hc HI ⊢
  have HN := Lib.hid hn
  obtain ⟨off, rfl, _, _, hbs, hcell, _⟩ := hc (by omega)
  have HC := Lib.hid hcell
  have X := Lib.hid (Bx.new w #[.slice (some ⟨b, off, none⟩) n p, .int .i64 (a : Int), .int .i64 (k : Int)] 52)
  have HS0 := Lib.hid ((Span.refl 0 0 w).alloc (.cells #[.slice (some ⟨b, off, none⟩) n p, .int .i64 (a : Int), .int .i64 (k : Int)] 52))
  have HB := Lib.hid hbs
  have HN1 := Lib.hid h1
  have HN2 := Lib.hid h2
  have HN3 := Lib.hid h3
  have HN4 := Lib.hid h4
  have i9 : (k : Int) ≤ 16 := by omega
  have hmk := fun w => run_make_zeros (P := Try.prog) w 23 35 (.complex .f32 0 0) 8 Try.underlying23 info_c64 rfl k (by omega) (by omega)
  clear hc hcell hn h5 hbs h1 h2 h3 h4 hp
  go_enter Try.func22, Try.ntmps22
  go_wp2_with fail
  refine (isRing_true xs a k HV.out o b lo hi _ _ (HX.out.span HS0.out (.inl (Nat.le_refl _)))).mono ?_
  rintro _ w1 ⟨rfl, s1⟩
  have X1 := Lib.hid (X.out.keep s1)
  have S1 := Lib.hid (HS0.out.trans s1)
  have c1 := X1.out.cells
  clear s1
  go_wp2_with fail
  have HF := Lib.hid (Filled.made w1 35 (.complex .f32 0 0) k (fun j => cxV (itemR xs a j)))
  have S2 := Lib.hid (S1.out.alloc (.cells (zerosV (.complex .f32 0 0) k) 35))
  have X2 := Lib.hid (X1.out.alloc (.cells (zerosV (.complex .f32 0 0) k) 35))
  have HW := Lib.hid X1.out.1
  obtain ⟨g, hg⟩ : ∃ g, g = w1.heap.size := ⟨_, rfl⟩
  rw [← hg] at HF HW ⊢
  generalize w1.alloc (.cells (zerosV (.complex .f32 0 0) k) 35) = w2 at *
  clear hg c1 hmk
  go_loopw [4, 13] (fun _ i wr => ∃ j : Nat, j ≤ k ∧ i = .int .i64 j ∧ Filled wr g 35 k j (fun j => cxV (itemR xs a j)) ∧ Span 0 0 w wr ∧ Bx w.heap.size #[.slice (some ⟨b, off, none⟩) n p, .int .i64 (a : Int), .int .i64 (k : Int)] wr) (fun _ i _ => k - (intOf i).toNat)
  case atStart => exact ⟨0, Nat.zero_le _, rfl, HF.out, S2.out, X2.out⟩
  case round =>
    obtain ⟨j, hjk, rfl, hf, hs, hxr⟩ := hrel
    by_cases hlt : j < k
    · obtain ⟨q, hq⟩ : ∃ q, q = (a + j) % n := ⟨_, rfl⟩
      have hqn : q < n := by rw [hq]; exact Nat.mod_lt _ (by have := HN1.out; omega)
      obtain ⟨⟨z1, z2⟩, hz⟩ := getElem?_some (xs := xs) (show q < xs.length by rw [← HN.out]; exact hqn)
      have hit : itemR xs a j = (z1, z2) := by rw [HI.out j, ← hq, hz]; rfl
      have hck : wr.cell? ⟨b, off + q, none⟩ = some (.complex .f32 z1 z2) := ((hs.cells (Nat.le_refl _)).1 b _ HB.out).trans (HC.out q _ hz)
      have RI := Lib.hid (ringIndex_any (some ⟨b, off, none⟩) n p a j (k : Int) HN1.out HN2.out (by have := HN3.out; have := HN2.out; omega) (by have := HN4.out; have := HN2.out; omega))
      rw [← hq] at RI
      have HCK := Lib.hid hck
      have HIT := Lib.hid hit
      have HFr := Lib.hid hf
      have HSr := Lib.hid hs
      have HXr := Lib.hid hxr
      have cx := hxr.cells
      have j0 : (0 : Int) ≤ (q : Int) := by omega
      have j1 : (q : Int) < (n : Int) := by omega
      have j2 : (0 : Int) ≤ (j : Int) := by omega
      have j3 : (j : Int) < (k : Int) := by omega
      have HJ := Lib.hid hlt
      clear hq hz hit hs hf hxr hjk
      go_wp2_with fail
      go_region_with (go_at_call 42; go_loud ((refine (RI.out _).mono ?_; rintro _ wq ⟨rfl, sq⟩; have SQ : Hid (Span 0 0 wr wq) := (by first | exact sq | exact sq.undrawn | exact Span.undrawn (n := 1) sq); have cq := (HXr.out.keep SQ.out).cells; have hcq : wq.cell? ⟨b, off + q, none⟩ = some (.complex .f32 z1 z2) := ((SQ.out.cells (Nat.le_refl _)).1 b _ (Nat.lt_of_lt_of_le HB.out HSr.out.size)).trans HCK.out; have HFq := Lib.hid (HFr.out.keep SQ.out); obtain ⟨u, hu⟩ := HFq.out.cell HJ.out; have hfz := HFq.out.frozen j; clear sq)))
      all_goals
        go_wp2_with fail
        have hst := HFq.out.step HJ.out
        simp only [HIT.out, cxV] at hst
        go_roundw
        case rel => exact ⟨j + 1, by omega, by go_num, by simpa [cxV, HIT.out] using hst, (HSr.out.trans SQ.out).setCell (.inr (by have h9 := HW.out; show w.heap.size ≤ g; omega)) _, (HXr.out.keep SQ.out).other (by have h9 := HW.out; intro e9; have e9 : g = w.heap.size := e9; omega) _⟩
        case measure => simp [intOf]; omega
    · have hje : j = k := by omega
      subst hje
      have HFr := Lib.hid hf
      have HSr := Lib.hid hs
      clear hf hs hxr
      go_wp2_with fail
      go_ret
      have := Filled.hasS (val := cxV) (xs := itemsR xs a j) (lo := w.heap.size) (hi := wr.heap.size) (w := wr) (g := g) (e := 35) (f := fun j => cxV (itemR xs a j)) (by rw [itemsR_length]; exact HFr.out) (fun i x hi => by rw [itemsR_get hi]) (Nat.le_of_lt HW.out) HFr.out.lt
      rw [itemsR_length] at this
      exact ⟨_, g, rfl, this, HSr.out⟩
end
end Go.Proofs.Ytfafkdpefdpnkaa
