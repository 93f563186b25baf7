/- What a ring holds: ItemsOf. Rings in plain mathematics: a sample is put behind the others, the oldest one is taken. -/
import Derived.Test.YtdmahikaajdkgaaJb21
import Derived.Test.YtdmahikaajdkgaaJb22
import Derived.Outline
namespace Go.Proofs.Ytdmahikaajdkgaa
section
open Go.RowKit

def itemR (xs : List Cx) (a j : Nat) : Cx := (xs[(a + j) % xs.length]?).getD (0, 0)
def itemsR (xs : List Cx) (a k : Nat) : List Cx := (List.range k).map (itemR xs a)
theorem itemsR_length (xs : List Cx) (a k : Nat) : (itemsR xs a k).length = k := by simp [itemsR]
theorem itemsR_get {xs : List Cx} {a k j : Nat} {z : Cx} (h : (itemsR xs a k)[j]? = some z) : z = itemR xs a j := by
  unfold itemsR at h
  rw [List.getElem?_map] at h
  cases hj : (List.range k)[j]? with
  | none => rw [hj] at h; cases h
  | some i =>
    rw [hj] at h
    obtain ⟨hl, he⟩ := List.getElem?_eq_some_iff.1 hj
    simp at he h
    rw [← h, ← he]

theorem Filled.lt {w : World} {g : Nat} {e : TypeId} {n k : Nat} {f : Nat → Value} (h : Filled w g e n k f) : g < w.heap.size := by
  obtain ⟨cs, hh, _, _⟩ := h
  by_cases h : g < w.heap.size
  · exact h
  · rw [Array.getElem?_eq_none (by omega)] at hh; cases hh
theorem Filled.keep {w w' : World} {g : Nat} {e : TypeId} {n k : Nat} {f : Nat → Value} (h : Filled w g e n k f) (s : Span 0 0 w w') : Filled w' g e n k f := by
  obtain ⟨cs, hh, hs, hf⟩ := h
  have hlt : g < w.heap.size := by
    by_cases h : g < w.heap.size
    · exact h
    · rw [Array.getElem?_eq_none (by omega)] at hh; cases hh
  exact ⟨cs, (s.block g hlt (by omega)).trans hh, hs, hf⟩

set_option maxRecDepth 100000 in
set_option maxHeartbeats 2000000 in
theorem itemsOf_any (xs : List Cx) (a k : Nat) (hv : ValidR xs a k) (o : Bool) (b lo hi : Nat) (v : Value) (w : World) (hx : HasS cxV o b lo hi w v xs) :
    Calls Try.prog 23 #[.agg #[v, .int .i64 (a : Int), .int .i64 (k : Int)]] w fun e w' => ∃ v' b', e = .returned v' ∧ HasS cxV true b' w.heap.size w'.heap.size w' v' (itemsR xs a k) ∧ Span 0 0 w w' := by
  have HV := Lib.hid hv
  obtain ⟨h1, h2, h3, h4, h5⟩ := hv
  have HX := Lib.hid hx
  obtain ⟨A, p, rfl, hp, hc⟩ := hx
  obtain ⟨n, hn⟩ : ∃ n, n = xs.length := ⟨_, rfl⟩
  have HI := Lib.hid (show ∀ j, itemR xs a j = (xs[(a + j) % xs.length]?).getD (0, 0) from fun _ => rfl)
  rw [← hn] at h1 h2 h3 h4 HX hp hc HI ⊢
  have HN := Lib.hid hn
  obtain ⟨off, rfl, _, _, hbs, hcell, _⟩ := hc (by omega)
  have HC := Lib.hid hcell
  have X := Lib.hid (Bx.new w #[.slice (some ⟨b, off, none⟩) n p, .int .i64 (a : Int), .int .i64 (k : Int)] 30)
  have HS0 := Lib.hid ((Span.refl 0 0 w).alloc (.cells #[.slice (some ⟨b, off, none⟩) n p, .int .i64 (a : Int), .int .i64 (k : Int)] 30))
  have HB := Lib.hid hbs
  have HN1 := Lib.hid h1
  have HN2 := Lib.hid h2
  have HN3 := Lib.hid h3
  have HN4 := Lib.hid h4
  have i9 : (k : Int) ≤ 16 := by omega
  have hmk := fun w => run_make_zeros (P := Try.prog) w 28 27 (.complex .f32 0 0) 8 Try.underlying28 info_c64 rfl k (by omega) (by omega)
  clear hc hcell hn h5 hbs h1 h2 h3 h4 hp
  go_enter Try.func23, Try.ntmps23
  go_wp2_with fail
  refine (isRing_true xs a k HV.out o b lo hi _ _ (HX.out.span HS0.out (.inl (Nat.le_refl _)))).mono ?_
  rintro _ w1 ⟨rfl, s1⟩
  have X1 := Lib.hid (X.out.keep s1)
  have S1 := Lib.hid (HS0.out.trans s1)
  have c1 := X1.out.cells
  clear s1
  go_wp2_with fail
  have HF := Lib.hid (Filled.made w1 27 (.complex .f32 0 0) k (fun j => cxV (itemR xs a j)))
  have S2 := Lib.hid (S1.out.alloc (.cells (zerosV (.complex .f32 0 0) k) 27))
  have X2 := Lib.hid (X1.out.alloc (.cells (zerosV (.complex .f32 0 0) k) 27))
  have HW := Lib.hid X1.out.1
  obtain ⟨g, hg⟩ : ∃ g, g = w1.heap.size := ⟨_, rfl⟩
  rw [← hg] at HF HW ⊢
  generalize w1.alloc (.cells (zerosV (.complex .f32 0 0) k) 27) = w2 at *
  clear hg c1 hmk
  go_loopw [4, 13] (fun _ i wr => ∃ j : Nat, j ≤ k ∧ i = .int .i64 j ∧ Filled wr g 27 k j (fun j => cxV (itemR xs a j)) ∧ Span 0 0 w wr ∧ Bx w.heap.size #[.slice (some ⟨b, off, none⟩) n p, .int .i64 (a : Int), .int .i64 (k : Int)] wr) (fun _ i _ => k - (intOf i).toNat)
  case atStart => exact ⟨0, Nat.zero_le _, rfl, HF.out, S2.out, X2.out⟩
  case round =>
    obtain ⟨j, hjk, rfl, hf, hs, hxr⟩ := hrel
    by_cases hlt : j < k
    · obtain ⟨q, hq⟩ : ∃ q, q = (a + j) % n := ⟨_, rfl⟩
      have hqn : q < n := by rw [hq]; exact Nat.mod_lt _ (by have := HN1.out; omega)
      obtain ⟨⟨z1, z2⟩, hz⟩ := getElem?_some (xs := xs) (show q < xs.length by rw [← HN.out]; exact hqn)
      have hit : itemR xs a j = (z1, z2) := by rw [HI.out j, ← hq, hz]; rfl
      have hck : wr.cell? ⟨b, off + q, none⟩ = some (.complex .f32 z1 z2) := ((hs.cells (Nat.le_refl _)).1 b _ HB.out).trans (HC.out q _ hz)
      have RI := Lib.hid (ringIndex_any (some ⟨b, off, none⟩) n p a j (k : Int) HN1.out HN2.out (by have := HN3.out; have := HN2.out; omega) (by have := HN4.out; have := HN2.out; omega))
      rw [← hq] at RI
      have HCK := Lib.hid hck
      have HIT := Lib.hid hit
      have HFr := Lib.hid hf
      have HSr := Lib.hid hs
      have HXr := Lib.hid hxr
      have cx := hxr.cells
      have j0 : (0 : Int) ≤ (q : Int) := by omega
      have j1 : (q : Int) < (n : Int) := by omega
      have j2 : (0 : Int) ≤ (j : Int) := by omega
      have j3 : (j : Int) < (k : Int) := by omega
      have HJ := Lib.hid hlt
      clear hq hz hit hs hf hxr hjk
      go_wp2_with fail
      go_region_with (go_at_call 52; go_loud ((refine (RI.out _).mono ?_; rintro _ wq ⟨rfl, sq⟩; have SQ : Hid (Span 0 0 wr wq) := (by first | exact sq | exact sq.undrawn | exact Span.undrawn (n := 1) sq); have cq := (HXr.out.keep SQ.out).cells; have hcq : wq.cell? ⟨b, off + q, none⟩ = some (.complex .f32 z1 z2) := ((SQ.out.cells (Nat.le_refl _)).1 b _ (Nat.lt_of_lt_of_le HB.out HSr.out.size)).trans HCK.out; have HFq := Lib.hid (HFr.out.keep SQ.out); obtain ⟨u, hu⟩ := HFq.out.cell HJ.out; have hfz := HFq.out.frozen j; clear sq)))
      all_goals
        go_wp2_with fail
        have hst := HFq.out.step HJ.out
        simp only [HIT.out, cxV] at hst
        go_roundw
        case rel => exact ⟨j + 1, by omega, by go_num, by simpa [cxV, HIT.out] using hst, (HSr.out.trans SQ.out).setCell (.inr (by have h9 := HW.out; show w.heap.size ≤ g; omega)) _, (HXr.out.keep SQ.out).other (by have h9 := HW.out; intro e9; have e9 : g = w.heap.size := e9; omega) _⟩
        case measure => simp [intOf]; omega
    · have hje : j = k := by omega
      subst hje
      have HFr := Lib.hid hf
      have HSr := Lib.hid hs
      clear hf hs hxr
      go_wp2_with fail
      go_ret
      have := Filled.hasS (val := cxV) (xs := itemsR xs a j) (lo := w.heap.size) (hi := wr.heap.size) (w := wr) (g := g) (e := 27) (f := fun j => cxV (itemR xs a j)) (by rw [itemsR_length]; exact HFr.out) (fun i x hi => by rw [itemsR_get hi]) (Nat.le_of_lt HW.out) HFr.out.lt
      rw [itemsR_length] at this
      exact ⟨_, g, rfl, this, HSr.out⟩
end
section
open Go.RowKit

/-- A ring as numbers: its store, where the oldest one is, how many there are. -/
abbrev Rn := List Cx × Nat × Nat
def takeR (r : Rn) : Rn := (r.1.set r.2.1 (0, 0), (r.2.1 + 1) % r.1.length, r.2.2 - 1)
def putR (r : Rn) (z : Cx) : Rn := (r.1.set ((r.2.1 + r.2.2) % r.1.length) z, r.2.1, r.2.2 + 1)
def pushR (r : Rn) (z : Cx) : Rn := if r.2.2 = r.1.length then putR (takeR r) z else putR r z
/-- What is given when a sample is added. -/
def oldR (r : Rn) : Cx := if r.2.2 = r.1.length then itemR r.1 r.2.1 0 else (0, 0)
def VR (r : Rn) : Prop := ValidR r.1 r.2.1 r.2.2
def itsR (r : Rn) : List Cx := itemsR r.1 r.2.1 r.2.2

theorem VR.pos {r : Rn} (h : VR r) : 1 ≤ r.1.length := h.1
theorem VR.most {r : Rn} (h : VR r) : r.1.length ≤ 16 := h.2.1
theorem VR.at_ {r : Rn} (h : VR r) : r.2.1 < r.1.length := h.2.2.1
theorem VR.cnt {r : Rn} (h : VR r) : r.2.2 ≤ r.1.length := h.2.2.2.1

theorem mod_ne {n a j k : Nat} (hj : j < n) (hk : k < n) (h : j ≠ k) : (a + j) % n ≠ (a + k) % n := by
  intro e
  have e1 := Nat.div_add_mod (a + j) n
  have e2 := Nat.div_add_mod (a + k) n
  rw [e] at e1
  generalize (a + k) % n = m at *
  generalize hp : (a + j) / n = p at *
  generalize hq : (a + k) / n = q at *
  rcases Nat.lt_trichotomy p q with c | c | c
  · have := Nat.mul_le_mul_left n (show p + 1 ≤ q from c)
    rw [Nat.mul_add, Nat.mul_one] at this
    omega
  · subst c; omega
  · have := Nat.mul_le_mul_left n (show q + 1 ≤ p from c)
    rw [Nat.mul_add, Nat.mul_one] at this
    omega

theorem next_mod (a j n : Nat) : ((a + 1) % n + j) % n = (a + (j + 1)) % n := by
  rw [Nat.mod_add_mod]
  congr 1
  omega

theorem VR.take {r : Rn} (h : VR r) (hp : 0 < r.2.2) : VR (takeR r) := by
  obtain ⟨xs, a, k⟩ := r
  obtain ⟨h1, h2, h3, h4, h5⟩ := h
  unfold VR takeR
  simp only at *
  refine ⟨by simpa using h1, by simpa using h2, by simpa using Nat.mod_lt _ (by omega), by simp only [List.length_set]; omega, fun j hj hl => ?_⟩
  simp only [List.length_set] at hl ⊢
  rw [next_mod, List.getElem?_set]
  have hm : (a + (j + 1)) % xs.length < xs.length := Nat.mod_lt _ (by omega)
  split
  · first | rfl | rw [if_pos (by omega)]
  · rename_i hne
    have hjn : j + 1 < xs.length := by
      by_cases hc : j + 1 < xs.length
      · exact hc
      · exfalso
        apply hne
        have : j + 1 = xs.length := by omega
        rw [this, Nat.add_mod_right, Nat.mod_eq_of_lt h3]
    exact h5 (j + 1) (by omega) hjn

theorem VR.put {r : Rn} (h : VR r) (z : Cx) (hp : r.2.2 < r.1.length) : VR (putR r z) := by
  obtain ⟨xs, a, k⟩ := r
  obtain ⟨h1, h2, h3, h4, h5⟩ := h
  unfold VR putR
  simp only at *
  refine ⟨by simpa using h1, by simpa using h2, by simpa using h3, by simp only [List.length_set]; omega, fun j hj hl => ?_⟩
  simp only [List.length_set] at hl ⊢
  rw [List.getElem?_set, if_neg (mod_ne hp hl (by omega))]
  exact h5 j (by omega) hl

theorem VR.push {r : Rn} (h : VR r) (z : Cx) : VR (pushR r z) := by
  unfold pushR
  split
  · rename_i hc
    have hp : 0 < r.2.2 := by have := h.pos; omega
    refine (h.take hp).put z ?_
    unfold takeR; simp only [List.length_set]; omega
  · rename_i hc
    exact h.put z (by have := h.cnt; omega)

theorem itemR_get {xs : List Cx} {a j : Nat} (h : 1 ≤ xs.length) : xs[(a + j) % xs.length]? = some (itemR xs a j) := by
  have hm : (a + j) % xs.length < xs.length := Nat.mod_lt _ (by omega)
  unfold itemR
  rw [List.getElem?_eq_getElem hm]
  rfl

theorem itsR_get {r : Rn} {j : Nat} (hj : j < r.2.2) : (itsR r)[j]? = some (itemR r.1 r.2.1 j) := by
  unfold itsR itemsR
  rw [List.getElem?_map, List.getElem?_range hj]
  rfl
theorem itsR_length (r : Rn) : (itsR r).length = r.2.2 := itemsR_length _ _ _

theorem itsR_take {r : Rn} (h : VR r) (hp : 0 < r.2.2) : itsR r = itemR r.1 r.2.1 0 :: itsR (takeR r) := by
  apply List.ext_getElem?
  intro i
  by_cases hi : i < r.2.2
  · rw [itsR_get hi]
    cases i with
    | zero => rfl
    | succ j =>
      rw [List.getElem?_cons_succ, itsR_get (show j < (takeR r).2.2 by unfold takeR; simp only; omega)]
      unfold takeR itemR
      simp only [List.length_set]
      have h3 := h.cnt
      rw [next_mod, List.getElem?_set, if_neg]
      intro e
      have h4 := h.at_
      exact mod_ne (n := r.1.length) (a := r.2.1) (j := 0) (k := j + 1) (by omega) (by omega) (by omega) (by rw [Nat.add_zero, Nat.mod_eq_of_lt h4]; exact e)
  · rw [List.getElem?_eq_none (by rw [itsR_length]; omega), List.getElem?_eq_none]
    simp only [List.length_cons, itsR_length]
    unfold takeR; simp only; omega

theorem itsR_put {r : Rn} (h : VR r) (z : Cx) (hp : r.2.2 < r.1.length) : itsR (putR r z) = itsR r ++ [z] := by
  apply List.ext_getElem?
  intro i
  by_cases hi : i < r.2.2
  · rw [List.getElem?_append_left (by rw [itsR_length]; exact hi), itsR_get hi, itsR_get (show i < (putR r z).2.2 by unfold putR; simp only; omega)]
    unfold putR itemR
    simp only [List.length_set]
    rw [List.getElem?_set, if_neg (mod_ne hp (by omega) (by omega))]
  · by_cases he : i = r.2.2
    · subst he
      rw [List.getElem?_append_right (by rw [itsR_length]; exact Nat.le_refl _), itsR_length, Nat.sub_self, itsR_get (show r.2.2 < (putR r z).2.2 by unfold putR; simp only; omega)]
      unfold putR itemR
      simp only [List.length_set]
      rw [List.getElem?_set, if_pos rfl, if_pos (Nat.mod_lt _ (by omega))]
      rfl
    · rw [List.getElem?_eq_none (by rw [itsR_length]; unfold putR; simp only; omega), List.getElem?_eq_none]
      simp only [List.length_append, itsR_length, List.length_cons, List.length_nil]
      omega

theorem takeR_len (r : Rn) : (takeR r).1.length = r.1.length := by unfold takeR; simp
theorem putR_len (r : Rn) (z : Cx) : (putR r z).1.length = r.1.length := by unfold putR; simp
theorem pushR_len (r : Rn) (z : Cx) : (pushR r z).1.length = r.1.length := by
  unfold pushR; split
  · rw [putR_len, takeR_len]
  · rw [putR_len]
theorem takeR_cnt (r : Rn) : (takeR r).2.2 = r.2.2 - 1 := rfl
theorem putR_cnt (r : Rn) (z : Cx) : (putR r z).2.2 = r.2.2 + 1 := rfl

theorem itsR_push {r : Rn} (h : VR r) (z : Cx) : (if r.2.2 = r.1.length then [oldR r] else []) ++ itsR (pushR r z) = itsR r ++ [z] := by
  unfold pushR oldR
  by_cases hc : r.2.2 = r.1.length
  · have hp : 0 < r.2.2 := by have := h.pos; omega
    rw [if_pos hc, if_pos hc, if_pos hc, itsR_put (h.take hp) z (by rw [takeR_len, takeR_cnt]; omega), itsR_take h hp]
    rfl
  · rw [if_neg hc, if_neg hc, itsR_put h z (by have := h.cnt; omega)]
    rfl

/-- A cell of an own slice is written. -/
theorem HasS.put {α : Type} {val : α → Value} {b lo hi off n c : Nat} {w : World} {xs : List α} (h : HasS val true b lo hi w (.slice (some ⟨b, off, none⟩) n c) xs) (i : Nat) (z : α) (hil : i < xs.length) :
    HasS val true b lo hi (w.setCell ⟨b, off + i, none⟩ (val z)) (.slice (some ⟨b, off, none⟩) n c) (xs.set i z) := by
  obtain ⟨A, cap, e, hcap, hc⟩ := h
  injection e with e1 e2 e3
  subst e1 e2 e3
  obtain ⟨off', e4, g1, g2, g3, g4, g5⟩ := hc (by omega)
  injection e4 with e4
  injection e4 with _ e5
  subst e5
  refine ⟨_, c, by rw [List.length_set], by simpa using hcap, fun _ => ⟨off, rfl, g1, g2, by simpa [World.setCell] using g3, fun j x hj => ?_, fun _ j hj => ?_⟩⟩
  · rw [List.getElem?_set] at hj
    by_cases hij : i = j
    · subst hij
      rw [if_pos rfl, if_pos hil] at hj
      injection hj with hj
      rw [← hj]
      exact World.cell?_setCell_same w ⟨b, off + i, none⟩ _ (g4 i _ (List.getElem?_eq_getElem hil))
    · rw [if_neg hij] at hj
      rw [World.cell?_setCell_other w ⟨b, off + i, none⟩ ⟨b, off + j, none⟩ _ (by intro e; injection e; omega)]
      exact g4 j x hj
  · rw [World.frozen?_setCell]
    exact g5 rfl j (by simpa using hj)
end
end Go.Proofs.Ytdmahikaajdkgaa
