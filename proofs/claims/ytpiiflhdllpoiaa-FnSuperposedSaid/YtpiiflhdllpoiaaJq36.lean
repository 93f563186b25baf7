/- Rings in plain mathematics: a sample is put behind the others, the oldest one is taken. Rings are copied, the oldest sample is taken, a sample is put. -/
import Derived.Test.YtpiiflhdllpoiaaJq35
import Derived.Outline
import Derived.Test.YtpiiflhdllpoiaaJq15
import Derived.Deep.RegionWith
namespace Go.Proofs.Ytpiiflhdllpoiaa
section
open Go.RowKit

/-- A ring as numbers: its store, where the oldest one is, how many there are. -/
abbrev Rn := List Cx × Nat × Nat
def takeR (r : Rn) : Rn := (r.1.set r.2.1 (0, 0), (r.2.1 + 1) % r.1.length, r.2.2 - 1)
def putR (r : Rn) (z : Cx) : Rn := (r.1.set ((r.2.1 + r.2.2) % r.1.length) z, r.2.1, r.2.2 + 1)
def pushR (r : Rn) (z : Cx) : Rn := if r.2.2 = r.1.length then putR (takeR r) z else putR r z
/-- What is given when a sample is added. -/
def oldR (r : Rn) : Cx := if r.2.2 = r.1.length then itemR r.1 r.2.1 0 else (0, 0)
def VR (r : Rn) : Prop := ValidR r.1 r.2.1 r.2.2
def itsR (r : Rn) : List Cx := itemsR r.1 r.2.1 r.2.2

theorem VR.pos {r : Rn} (h : VR r) : 1 ≤ r.1.length := h.1
theorem VR.most {r : Rn} (h : VR r) : r.1.length ≤ 16 := h.2.1
theorem VR.at_ {r : Rn} (h : VR r) : r.2.1 < r.1.length := h.2.2.1
theorem VR.cnt {r : Rn} (h : VR r) : r.2.2 ≤ r.1.length := h.2.2.2.1

theorem mod_ne {n a j k : Nat} (hj : j < n) (hk : k < n) (h : j ≠ k) : (a + j) % n ≠ (a + k) % n := by
  intro e
  have e1 := Nat.div_add_mod (a + j) n
  have e2 := Nat.div_add_mod (a + k) n
  rw [e] at e1
  generalize (a + k) % n = m at *
  generalize hp : (a + j) / n = p at *
  generalize hq : (a + k) / n = q at *
  rcases Nat.lt_trichotomy p q with c | c | c
  · have := Nat.mul_le_mul_left n (show p + 1 ≤ q from c)
    rw [Nat.mul_add, Nat.mul_one] at this
    omega
  · subst c; omega
  · have := Nat.mul_le_mul_left n (show q + 1 ≤ p from c)
    rw [Nat.mul_add, Nat.mul_one] at this
    omega

theorem next_mod (a j n : Nat) : ((a + 1) % n + j) % n = (a + (j + 1)) % n := by
  rw [Nat.mod_add_mod]
  congr 1
  omega

theorem VR.take {r : Rn} (h : VR r) (hp : 0 < r.2.2) : VR (takeR r) := by
  obtain ⟨xs, a, k⟩ := r
  obtain ⟨h1, h2, h3, h4, h5⟩ := h
  unfold VR takeR
  simp only at *
  refine ⟨by simpa using h1, by simpa using h2, by simpa using Nat.mod_lt _ (by omega), by simp only [List.length_set]; omega, fun j hj hl => ?_⟩
  simp only [List.length_set] at hl ⊢
  rw [next_mod, List.getElem?_set]
  have hm : (a + (j + 1)) % xs.length < xs.length := Nat.mod_lt _ (by omega)
  split
  · first | rfl | rw [if_pos (by omega)]
  · rename_i hne
    have hjn : j + 1 < xs.length := by
      by_cases hc : j + 1 < xs.length
      · exact hc
      · exfalso
        apply hne
        have : j + 1 = xs.length := by omega
        rw [this, Nat.add_mod_right, Nat.mod_eq_of_lt h3]
    exact h5 (j + 1) (by omega) hjn

theorem VR.put {r : Rn} (h : VR r) (z : Cx) (hp : r.2.2 < r.1.length) : VR (putR r z) := by
  obtain ⟨xs, a, k⟩ := r
  obtain ⟨h1, h2, h3, h4, h5⟩ := h
  unfold VR putR
  simp only at *
  refine ⟨by simpa using h1, by simpa using h2, by simpa using h3, by simp only [List.length_set]; omega, fun j hj hl => ?_⟩
  simp only [List.length_set] at hl ⊢
  rw [List.getElem?_set, if_neg (mod_ne hp hl (by omega))]
  exact h5 j (by omega) hl

theorem VR.push {r : Rn} (h : VR r) (z : Cx) : VR (pushR r z) := by
  unfold pushR
  split
  · rename_i hc
    have hp : 0 < r.2.2 := by have := h.pos; omega
    refine (h.take hp).put z ?_
    unfold takeR; simp only [List.length_set]; omega
  · rename_i hc
    exact h.put z (by have := h.cnt; omega)

theorem itemR_get {xs : List Cx} {a j : Nat} (h : 1 ≤ xs.length) : xs[(a + j) % xs.length]? = some (itemR xs a j) := by
  have hm : (a + j) % xs.length < xs.length := Nat.mod_lt _ (by omega)
  unfold itemR
  rw [List.getElem?_eq_getElem hm]
  rfl

theorem itsR_get {r : Rn} {j : Nat} (hj : j < r.2.2) : (itsR r)[j]? = some (itemR r.1 r.2.1 j) := by
  unfold itsR itemsR
  rw [List.getElem?_map, List.getElem?_range hj]
  rfl
theorem itsR_length (r : Rn) : (itsR r).length = r.2.2 := itemsR_length _ _ _

theorem itsR_take {r : Rn} (h : VR r) (hp : 0 < r.2.2) : itsR r = itemR r.1 r.2.1 0 :: itsR (takeR r) := by
  apply List.ext_getElem?
  intro i
  by_cases hi : i < r.2.2
  · rw [itsR_get hi]
    cases i with
    | zero => rfl
    | succ j =>
      rw [List.getElem?_cons_succ, itsR_get (show j < (takeR r).2.2 by unfold takeR; simp only; omega)]
      unfold takeR itemR
      simp only [List.length_set]
      have h3 := h.cnt
      rw [next_mod, List.getElem?_set, if_neg]
      intro e
      have h4 := h.at_
      exact mod_ne (n := r.1.length) (a := r.2.1) (j := 0) (k := j + 1) (by omega) (by omega) (by omega) (by rw [Nat.add_zero, Nat.mod_eq_of_lt h4]; exact e)
  · rw [List.getElem?_eq_none (by rw [itsR_length]; omega), List.getElem?_eq_none]
    simp only [List.length_cons, itsR_length]
    unfold takeR; simp only; omega

theorem itsR_put {r : Rn} (h : VR r) (z : Cx) (hp : r.2.2 < r.1.length) : itsR (putR r z) = itsR r ++ [z] := by
  apply List.ext_getElem?
  intro i
  by_cases hi : i < r.2.2
  · rw [List.getElem?_append_left (by rw [itsR_length]; exact hi), itsR_get hi, itsR_get (show i < (putR r z).2.2 by unfold putR; simp only; omega)]
    unfold putR itemR
    simp only [List.length_set]
    rw [List.getElem?_set, if_neg (mod_ne hp (by omega) (by omega))]
  · by_cases he : i = r.2.2
    · subst he
      rw [List.getElem?_append_right (by rw [itsR_length]; exact Nat.le_refl _), itsR_length, Nat.sub_self, itsR_get (show r.2.2 < (putR r z).2.2 by unfold putR; simp only; omega)]
      unfold putR itemR
      simp only [List.length_set]
      rw [List.getElem?_set, if_pos rfl, if_pos (Nat.mod_lt _ (by omega))]
      rfl
    · rw [List.getElem?_eq_none (by rw [itsR_length]; unfold putR; simp only; omega), List.getElem?_eq_none]
      simp only [List.length_append, itsR_length, List.length_cons, List.length_nil]
      omega

theorem takeR_len (r : Rn) : (takeR r).1.length = r.1.length := by unfold takeR; simp
theorem putR_len (r : Rn) (z : Cx) : (putR r z).1.length = r.1.length := by unfold putR; simp
theorem pushR_len (r : Rn) (z : Cx) : (pushR r z).1.length = r.1.length := by
  unfold pushR; split
  · rw [putR_len, takeR_len]
  · rw [putR_len]
theorem takeR_cnt (r : Rn) : (takeR r).2.2 = r.2.2 - 1 := rfl
theorem putR_cnt (r : Rn) (z : Cx) : (putR r z).2.2 = r.2.2 + 1 := rfl

theorem itsR_push {r : Rn} (h : VR r) (z : Cx) : (if r.2.2 = r.1.length then [oldR r] else []) ++ itsR (pushR r z) = itsR r ++ [z] := by
  unfold pushR oldR
  by_cases hc : r.2.2 = r.1.length
  · have hp : 0 < r.2.2 := by have := h.pos; omega
    rw [if_pos hc, if_pos hc, if_pos hc, itsR_put (h.take hp) z (by rw [takeR_len, takeR_cnt]; omega), itsR_take h hp]
    rfl
  · rw [if_neg hc, if_neg hc, itsR_put h z (by have := h.cnt; omega)]
    rfl

/-- A cell of an own slice is written. -/
theorem HasS.put {α : Type} {val : α → Value} {b lo hi off n c : Nat} {w : World} {xs : List α} (h : HasS val true b lo hi w (.slice (some ⟨b, off, none⟩) n c) xs) (i : Nat) (z : α) (hil : i < xs.length) :
    HasS val true b lo hi (w.setCell ⟨b, off + i, none⟩ (val z)) (.slice (some ⟨b, off, none⟩) n c) (xs.set i z) := by
  obtain ⟨A, cap, e, hcap, hc⟩ := h
  injection e with e1 e2 e3
  subst e1 e2 e3
  obtain ⟨off', e4, g1, g2, g3, g4, g5⟩ := hc (by omega)
  injection e4 with e4
  injection e4 with _ e5
  subst e5
  refine ⟨_, c, by rw [List.length_set], by simpa using hcap, fun _ => ⟨off, rfl, g1, g2, by simpa [World.setCell] using g3, fun j x hj => ?_, fun _ j hj => ?_⟩⟩
  · rw [List.getElem?_set] at hj
    by_cases hij : i = j
    · subst hij
      rw [if_pos rfl, if_pos hil] at hj
      injection hj with hj
      rw [← hj]
      exact World.cell?_setCell_same w ⟨b, off + i, none⟩ _ (g4 i _ (List.getElem?_eq_getElem hil))
    · rw [if_neg hij] at hj
      rw [World.cell?_setCell_other w ⟨b, off + i, none⟩ ⟨b, off + j, none⟩ _ (by intro e; injection e; omega)]
      exact g4 j x hj
  · rw [World.frozen?_setCell]
    exact g5 rfl j (by simpa using hj)
end
section
open Go.RowKit

/-- A ring with a store of its own. -/
def GivesRg (xs : List Cx) (i j : Int) (w : World) (e : Ending) (w' : World) : Prop :=
  ∃ v b, e = .returned (.agg #[v, .int .i64 i, .int .i64 j]) ∧ HasS cxV true b w.heap.size w'.heap.size w' v xs ∧ Span 0 0 w w'

set_option maxRecDepth 100000 in
set_option maxHeartbeats 4000000 in
theorem copyRing_any (xs : List Cx) (i j : Int) (o : Bool) (b lo hi : Nat) (v : Value) (w : World) (hx : HasS cxV o b lo hi w v xs) (hl : xs.length ≤ 4194304) :
    Calls Try.prog 42 #[.agg #[v, .int .i64 i, .int .i64 j]] w (GivesRg xs i j w) := by
  have HX := Lib.hid hx
  obtain ⟨A, p, rfl, hp, hc⟩ := hx
  obtain ⟨n, hn⟩ : ∃ n, n = xs.length := ⟨_, rfl⟩
  have HN := Lib.hid hn
  have HL := Lib.hid hl
  rw [← hn] at HX hp hc ⊢
  clear hn hc hp hl
  go_enter Try.func42, Try.ntmps42
  go_wp2_with fail
  have X := Lib.hid ((Bx.new w #[.slice A n p, .int .i64 i, .int .i64 j] 28).alloc (.cells #[.slice none 0 0, .int .i64 0, .int .i64 0] 28))
  have Y := Lib.hid (Bx.new (w.alloc (.cells #[.slice A n p, .int .i64 i, .int .i64 j] 28)) #[.slice none 0 0, .int .i64 0, .int .i64 0] 28)
  rw [show (w.alloc (.cells #[.slice A n p, .int .i64 i, .int .i64 j] 28)).heap.size = w.heap.size + 1 by simp] at Y
  have HS := Lib.hid (((Span.refl 0 0 w).alloc (.cells #[.slice A n p, .int .i64 i, .int .i64 j] 28)).alloc (.cells #[.slice none 0 0, .int .i64 0, .int .i64 0] 28))
  have HW : Hid (((w.alloc (.cells #[.slice A n p, .int .i64 i, .int .i64 j] 28)).alloc (.cells #[.slice none 0 0, .int .i64 0, .int .i64 0] 28)).heap.size = w.heap.size + 2) := by unfold Hid; simp
  generalize (w.alloc (.cells #[.slice A n p, .int .i64 i, .int .i64 j] 28)).alloc (.cells #[.slice none 0 0, .int .i64 0, .int .i64 0] 28) = w0 at *
  have c0 := X.out.cells
  go_region_with (first
    | (go_at_call 47; go_loud ((refine (cloneC_any xs o b lo hi _ _ ((HX.out.span HS.out (.inl (Nat.le_refl _))).drewN _) HL.out).mono ?_; rintro _ w1 ⟨v1, c1, rfl, h1, s1⟩; obtain ⟨A1, q1, rfl, _⟩ := id h1; rw [← HN.out] at h1 ⊢; have X1 := Lib.hid ((X.out.drewN 1).keep s1); have Y1 := Lib.hid ((Y.out.drewN 1).keep s1); have S1 : Hid (Span 0 0 w w1) := (by first | exact HS.out.trans s1 | exact HS.out.trans s1.undrawn' | exact HS.out.trans (Span.undrawn' (n := 1) s1)); have H1 : Hid (HasS cxV true c1 w0.heap.size w1.heap.size w1 (.slice A1 n q1) xs) := h1; have Z1 : Hid (w0.heap.size ≤ w1.heap.size) := s1.size; have c1' := X1.out.cells; have e1' := Y1.out.cells; have f1' := Y1.out.thaw; clear h1 s1))))
  all_goals
    go_wp2_with fail
    have YS := Y1.out.set3 (.slice A1 n q1) (.int .i64 i) (.int .i64 j)
    have d1 := YS.cells
    have hw := HW.out
    have hz := Z1.out
    refine bodyPost_ret (v := .agg #[.slice A1 n q1, .int .i64 i, .int .i64 j]) (by simp [results, Try.results42, go_sem, d1]) rfl ⟨_, c1, rfl, ?_, S1.out.set3 (by omega) _ _ _⟩
    have P1 := (Span.refl (w.heap.size + 1) (w.heap.size + 2) w1).put3 (b := w.heap.size + 1) ⟨Nat.le_refl _, Nat.lt_succ_self _⟩ (.slice A1 n q1) (.int .i64 i) (.int .i64 j)
    have g := (H1.out.span P1 (by omega)).weak (lo' := w.heap.size) (hi' := w1.heap.size) (by omega) (.inl (Nat.le_refl _))
    simpa [World.setCell] using g

set_option maxRecDepth 100000 in
set_option maxHeartbeats 4000000 in
theorem takeOldest_any (r : Rn) (hv : VR r) (hp : 0 < r.2.2) (b off p lo hi : Nat) (w : World) (hx : HasS cxV true b lo hi w (.slice (some ⟨b, off, none⟩) r.1.length p) r.1) :
    Calls Try.prog 97 #[.agg #[.slice (some ⟨b, off, none⟩) r.1.length p, .int .i64 (r.2.1 : Int), .int .i64 (r.2.2 : Int)]] w fun e w' => e = .returned (.tuple #[.agg #[.slice (some ⟨b, off, none⟩) r.1.length p, .int .i64 ((takeR r).2.1 : Int), .int .i64 ((takeR r).2.2 : Int)], cxV (itemR r.1 r.2.1 0)]) ∧ HasS cxV true b lo hi w' (.slice (some ⟨b, off, none⟩) r.1.length p) (takeR r).1 ∧ Span lo hi w w' := by
  obtain ⟨xs, a, k⟩ := r
  have h1 := hv.pos
  have h2 := hv.most
  have h3 := hv.at_
  have h4 := hv.cnt
  have hit := itemR_get (a := a) (j := 0) h1
  unfold takeR
  simp only at *
  rw [Nat.add_zero, Nat.mod_eq_of_lt h3] at hit
  obtain ⟨⟨z1, z2⟩, hz⟩ : ∃ z, z = itemR xs a 0 := ⟨_, rfl⟩
  rw [← hz] at hit ⊢
  have HX := Lib.hid hx
  have HIT := Lib.hid hit
  obtain ⟨A, p', e, hcap, hc⟩ := hx
  injection e with e1 e2 e3
  subst e3
  obtain ⟨off', e4, g1, g2, g3, g4, g5⟩ := hc (by omega)
  rw [e4] at e1
  injection e1 with e1
  injection e1 with _ e5
  subst e5
  have hck := g4 a _ hit
  have hfz := g5 rfl a h3
  obtain ⟨n, hn⟩ : ∃ n, n = xs.length := ⟨_, rfl⟩
  have HNX := Lib.hid hn
  rw [← hn] at h1 h2 h3 h4 HX ⊢
  have HA := Lib.hid h3
  have HB := Lib.hid (show lo ≤ b ∧ b < hi ∧ b < w.heap.size from ⟨g1, g2, g3⟩)
  have X := Lib.hid ((Bx.new w #[.slice (some ⟨b, off, none⟩) n p, .int .i64 (a : Int), .int .i64 (k : Int)] 28).alloc (.cells #[.slice none 0 0, .int .i64 0, .int .i64 0] 28))
  have Y := Lib.hid (Bx.new (w.alloc (.cells #[.slice (some ⟨b, off, none⟩) n p, .int .i64 (a : Int), .int .i64 (k : Int)] 28)) #[.slice none 0 0, .int .i64 0, .int .i64 0] 28)
  rw [show (w.alloc (.cells #[.slice (some ⟨b, off, none⟩) n p, .int .i64 (a : Int), .int .i64 (k : Int)] 28)).heap.size = w.heap.size + 1 by simp] at Y
  have SA := ((Span.refl lo hi w).alloc (.cells #[.slice (some ⟨b, off, none⟩) n p, .int .i64 (a : Int), .int .i64 (k : Int)] 28)).alloc (.cells #[.slice none 0 0, .int .i64 0, .int .i64 0] 28)
  have SA0 := ((Span.refl 0 0 w).alloc (.cells #[.slice (some ⟨b, off, none⟩) n p, .int .i64 (a : Int), .int .i64 (k : Int)] 28)).alloc (.cells #[.slice none 0 0, .int .i64 0, .int .i64 0] 28)
  have S0 := Lib.hid SA
  have HX0 := Lib.hid (HX.out.span SA0 (.inl (Nat.le_refl _)))
  have ck := (SA0.cells (Nat.le_refl _)).1 b (off + a) g3
  have cf := (SA0.cells (Nat.le_refl _)).2 b (off + a) g3
  rw [hck] at ck
  rw [hfz] at cf
  have j0 : (0 : Int) ≤ (a : Int) := by omega
  have j1 : (a : Int) < (n : Int) := by omega
  have RI := Lib.hid (fun (q : Int) => ringIndex_any (some ⟨b, off, none⟩) n p a 1 q h1 h2 (by omega) (by omega))
  have HK := Lib.hid (show 0 < k ∧ k ≤ 16 from ⟨hp, by omega⟩)
  obtain ⟨a', ha'⟩ : ∃ a', a' = (a + 1) % n := ⟨_, rfl⟩
  have n1 : ¬ b = w.heap.size := by omega
  have n2 : ¬ w.heap.size = b := by omega
  have n3 : ¬ b = w.heap.size + 1 := by omega
  have n4 : ¬ w.heap.size + 1 = b := by omega
  rw [← ha'] at RI ⊢
  rw [show ((k - 1 : Nat) : Int) = (k : Int) - 1 by omega]
  clear e4 hc hcap g4 g5 hck hfz hit hz h1 h2 h3 h4 hv e2 g1 g2 g3 SA SA0 hn ha' hp
  go_enter Try.func97, Try.ntmps97
  go_wp2_with fail
  refine (RI.out _ _).mono ?_
  rintro _ wq ⟨rfl, sq⟩
  have hb := HB.out
  have X1 := (X.out.other (a := ⟨b, off + a, none⟩) (by simp; omega) (.complex .f32 0 0)).keep sq
  have Y1 := (Y.out.other (a := ⟨b, off + a, none⟩) (by simp; omega) (.complex .f32 0 0)).keep sq
  have S1 := Lib.hid (((S0.out.setCell (p := ⟨b, off + a, none⟩) (.inl ⟨hb.1, hb.2.1⟩) (.complex .f32 0 0)).trans (sq.wide (fun _ _ h => by omega))))
  have H1 := Lib.hid ((HX0.out.put a (0, 0) (by rw [← HNX.out]; exact HA.out)).span sq (.inl (Nat.le_refl _)))
  have hk := HK.out
  have Y2 := (Y1.other (a := ⟨w.heap.size, 1, none⟩) (by simp) (.int .i64 (a' : Int))).other (a := ⟨w.heap.size, 2, none⟩) (by simp) (.int .i64 ((k : Int) - 1))
  have YS := Lib.hid (Y2.set3 (.slice (some ⟨b, off, none⟩) n p) (.int .i64 (a' : Int)) (.int .i64 ((k : Int) - 1)))
  have cx := X1.cells
  have fx := X1.thaw
  have cy := Y1.cells
  have fy := Y1.thaw
  clear sq X1 Y1 ck cf hb Y2
  go_wp2_with fail
  have d1 := YS.out.cells
  have hb := HB.out
  have hz := S1.out.size
  have P1 := ((Span.refl w.heap.size (w.heap.size + 2) wq).setCell (p := ⟨w.heap.size, 1, none⟩) (.inl (by simp)) (.int .i64 (a' : Int))).setCell (p := ⟨w.heap.size, 2, none⟩) (.inl (by simp)) (.int .i64 ((k : Int) - 1))
  have P2 := P1.put3 (b := w.heap.size + 1) (by omega) (.slice (some ⟨b, off, none⟩) n p) (.int .i64 (a' : Int)) (.int .i64 ((k : Int) - 1))
  have Q1 := (S1.out.setCell (p := ⟨w.heap.size, 1, none⟩) (.inr (Nat.le_refl _)) (.int .i64 (a' : Int))).setCell (p := ⟨w.heap.size, 2, none⟩) (.inr (Nat.le_refl _)) (.int .i64 ((k : Int) - 1))
  refine bodyPost_ret (v := .tuple #[.agg #[.slice (some ⟨b, off, none⟩) n p, .int .i64 (a' : Int), .int .i64 ((k : Int) - 1)], cxV (z1, z2)]) (by simp [results, Try.results97, go_sem, d1]) rfl ⟨rfl, H1.out.span P2 (by omega), Q1.set3 (by omega) _ _ _⟩
end
end Go.Proofs.Ytpiiflhdllpoiaa
