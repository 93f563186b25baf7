/- Rings in plain mathematics: a sample is put behind the others, the oldest one is taken. Rings are copied, the oldest sample is taken, a sample is put. Rings: a sample is put, one is taken. Rings: the oldest sample is taken, if there is one. The model's rings: copied, taken from, put to. -/
import Derived.Test.YtfafkdpefdpnkaaJq18
import Derived.Outline
import Derived.Test.YtfafkdpefdpnkaaJq13
import Derived.Deep.RegionWith
import Derived.Test.YtfafkdpefdpnkaaJq15
namespace Go.Proofs.Ytfafkdpefdpnkaa
section
open Go.RowKit

/-- A ring as numbers: its store, where the oldest one is, how many there are. -/
abbrev Rn := List Cx × Nat × Nat
def takeR (r : Rn) : Rn := (r.1.set r.2.1 (0, 0), (r.2.1 + 1) % r.1.length, r.2.2 - 1)
def putR (r : Rn) (z : Cx) : Rn := (r.1.set ((r.2.1 + r.2.2) % r.1.length) z, r.2.1, r.2.2 + 1)
def pushR (r : Rn) (z : Cx) : Rn := if r.2.2 = r.1.length then putR (takeR r) z else putR r z
/-- What is given when a sample is added. -/
def oldR (r : Rn) : Cx := if r.2.2 = r.1.length then itemR r.1 r.2.1 0 else (0, 0)
def VR (r : Rn) : Prop := ValidR r.1 r.2.1 r.2.2
def itsR (r : Rn) : List Cx := itemsR r.1 r.2.1 r.2.2

theorem VR.pos {r : Rn} (h : VR r) : 1 ≤ r.1.length := h.1
theorem VR.most {r : Rn} (h : VR r) : r.1.length ≤ 16 := h.2.1
theorem VR.at_ {r : Rn} (h : VR r) : r.2.1 < r.1.length := h.2.2.1
theorem VR.cnt {r : Rn} (h : VR r) : r.2.2 ≤ r.1.length := h.2.2.2.1

theorem mod_ne {n a j k : Nat} (hj : j < n) (hk : k < n) (h : j ≠ k) : (a + j) % n ≠ (a + k) % n := by
  intro e
  have e1 := Nat.div_add_mod (a + j) n
  have e2 := Nat.div_add_mod (a + k) n
  rw [e] at e1
  generalize (a + k) % n = m at *
  generalize hp : (a + j) / n = p at *
  generalize hq : (a + k) / n = q at *
  rcases Nat.lt_trichotomy p q with c | c | c
  · have := Nat.mul_le_mul_left n (show p + 1 ≤ q from c)
    rw [Nat.mul_add, Nat.mul_one] at this
    omega
  · subst c; omega
  · have := Nat.mul_le_mul_left n (show q + 1 ≤ p from c)
    rw [Nat.mul_add, Nat.mul_one] at this
    omega

theorem next_mod (a j n : Nat) : ((a + 1) % n + j) % n = (a + (j + 1)) % n := by
  rw [Nat.mod_add_mod]
  congr 1
  omega

theorem VR.take {r : Rn} (h : VR r) (hp : 0 < r.2.2) : VR (takeR r) := by
  obtain ⟨xs, a, k⟩ := r
  obtain ⟨h1, h2, h3, h4, h5⟩ := h
  unfold VR takeR
  simp only at *
  refine ⟨by simpa using h1, by simpa using h2, by simpa using Nat.mod_lt _ (by omega), by simp only [List.length_set]; omega, fun j hj hl => ?_⟩
  simp only [List.length_set] at hl ⊢
  rw [next_mod, List.getElem?_set]
  have hm : (a + (j + 1)) % xs.length < xs.length := Nat.mod_lt _ (by omega)
  split
  · first | rfl | rw [if_pos (by omega)]
  · rename_i hne
    have hjn : j + 1 < xs.length := by
      by_cases hc : j + 1 < xs.length
      · exact hc
      · exfalso
        apply hne
        have : j + 1 = xs.length := by omega
        rw [this, Nat.add_mod_right, Nat.mod_eq_of_lt h3]
    exact h5 (j + 1) (by omega) hjn

theorem VR.put {r : Rn} (h : VR r) (z : Cx) (hp : r.2.2 < r.1.length) : VR (putR r z) := by
  obtain ⟨xs, a, k⟩ := r
  obtain ⟨h1, h2, h3, h4, h5⟩ := h
  unfold VR putR
  simp only at *
  refine ⟨by simpa using h1, by simpa using h2, by simpa using h3, by simp only [List.length_set]; omega, fun j hj hl => ?_⟩
  simp only [List.length_set] at hl ⊢
  rw [List.getElem?_set, if_neg (mod_ne hp hl (by omega))]
  exact h5 j (by omega) hl

theorem VR.push {r : Rn} (h : VR r) (z : Cx) : VR (pushR r z) := by
  unfold pushR
  split
  · rename_i hc
    have hp : 0 < r.2.2 := by have := h.pos; omega
    refine (h.take hp).put z ?_
    unfold takeR; simp only [List.length_set]; omega
  · rename_i hc
    exact h.put z (by have := h.cnt; omega)

theorem itemR_get {xs : List Cx} {a j : Nat} (h : 1 ≤ xs.length) : xs[(a + j) % xs.length]? = some (itemR xs a j) := by
  have hm : (a + j) % xs.length < xs.length := Nat.mod_lt _ (by omega)
  unfold itemR
  rw [List.getElem?_eq_getElem hm]
  rfl

theorem itsR_get {r : Rn} {j : Nat} (hj : j < r.2.2) : (itsR r)[j]? = some (itemR r.1 r.2.1 j) := by
  unfold itsR itemsR
  rw [List.getElem?_map, List.getElem?_range hj]
  rfl
theorem itsR_length (r : Rn) : (itsR r).length = r.2.2 := itemsR_length _ _ _

theorem itsR_take {r : Rn} (h : VR r) (hp : 0 < r.2.2) : itsR r = itemR r.1 r.2.1 0 :: itsR (takeR r) := by
  apply List.ext_getElem?
  intro i
  by_cases hi : i < r.2.2
  · rw [itsR_get hi]
    cases i with
    | zero => rfl
    | succ j =>
      rw [List.getElem?_cons_succ, itsR_get (show j < (takeR r).2.2 by unfold takeR; simp only; omega)]
      unfold takeR itemR
      simp only [List.length_set]
      have h3 := h.cnt
      rw [next_mod, List.getElem?_set, if_neg]
      intro e
      have h4 := h.at_
      exact mod_ne (n := r.1.length) (a := r.2.1) (j := 0) (k := j + 1) (by omega) (by omega) (by omega) (by rw [Nat.add_zero, Nat.mod_eq_of_lt h4]; exact e)
  · rw [List.getElem?_eq_none (by rw [itsR_length]; omega), List.getElem?_eq_none]
    simp only [List.length_cons, itsR_length]
    unfold takeR; simp only; omega

theorem itsR_put {r : Rn} (h : VR r) (z : Cx) (hp : r.2.2 < r.1.length) : itsR (putR r z) = itsR r ++ [z] := by
  apply List.ext_getElem?
  intro i
  by_cases hi : i < r.2.2
  · rw [List.getElem?_append_left (by rw [itsR_length]; exact hi), itsR_get hi, itsR_get (show i < (putR r z).2.2 by unfold putR; simp only; omega)]
    unfold putR itemR
    simp only [List.length_set]
    rw [List.getElem?_set, if_neg (mod_ne hp (by omega) (by omega))]
  · by_cases he : i = r.2.2
    · subst he
      rw [List.getElem?_append_right (by rw [itsR_length]; exact Nat.le_refl _), itsR_length, Nat.sub_self, itsR_get (show r.2.2 < (putR r z).2.2 by unfold putR; simp only; omega)]
      unfold putR itemR
      simp only [List.length_set]
      rw [List.getElem?_set, if_pos rfl, if_pos (Nat.mod_lt _ (by omega))]
      rfl
    · rw [List.getElem?_eq_none (by rw [itsR_length]; unfold putR; simp only; omega), List.getElem?_eq_none]
      simp only [List.length_append, itsR_length, List.length_cons, List.length_nil]
      omega

theorem takeR_len (r : Rn) : (takeR r).1.length = r.1.length := by unfold takeR; simp
theorem putR_len (r : Rn) (z : Cx) : (putR r z).1.length = r.1.length := by unfold putR; simp
theorem pushR_len (r : Rn) (z : Cx) : (pushR r z).1.length = r.1.length := by
  unfold pushR; split
  · rw [putR_len, takeR_len]
  · rw [putR_len]
theorem takeR_cnt (r : Rn) : (takeR r).2.2 = r.2.2 - 1 := rfl
theorem putR_cnt (r : Rn) (z : Cx) : (putR r z).2.2 = r.2.2 + 1 := rfl

theorem itsR_push {r : Rn} (h : VR r) (z : Cx) : (if r.2.2 = r.1.length then [oldR r] else []) ++ itsR (pushR r z) = itsR r ++ [z] := by
  unfold pushR oldR
  by_cases hc : r.2.2 = r.1.length
  · have hp : 0 < r.2.2 := by have := h.pos; omega
    rw [if_pos hc, if_pos hc, if_pos hc, itsR_put (h.take hp) z (by rw [takeR_len, takeR_cnt]; omega), itsR_take h hp]
    rfl
  · rw [if_neg hc, if_neg hc, itsR_put h z (by have := h.cnt; omega)]
    rfl

/-- A cell of an own slice is written. -/
theorem HasS.put {α : Type} {val : α → Value} {b lo hi off n c : Nat} {w : World} {xs : List α} (h : HasS val true b lo hi w (.slice (some ⟨b, off, none⟩) n c) xs) (i : Nat) (z : α) (hil : i < xs.length) :
    HasS val true b lo hi (w.setCell ⟨b, off + i, none⟩ (val z)) (.slice (some ⟨b, off, none⟩) n c) (xs.set i z) := by
  obtain ⟨A, cap, e, hcap, hc⟩ := h
  injection e with e1 e2 e3
  subst e1 e2 e3
  obtain ⟨off', e4, g1, g2, g3, g4, g5⟩ := hc (by omega)
  injection e4 with e4
  injection e4 with _ e5
  subst e5
  refine ⟨_, c, by rw [List.length_set], by simpa using hcap, fun _ => ⟨off, rfl, g1, g2, by simpa [World.setCell] using g3, fun j x hj => ?_, fun _ j hj => ?_⟩⟩
  · rw [List.getElem?_set] at hj
    by_cases hij : i = j
    · subst hij
      rw [if_pos rfl, if_pos hil] at hj
      injection hj with hj
      rw [← hj]
      exact World.cell?_setCell_same w ⟨b, off + i, none⟩ _ (g4 i _ (List.getElem?_eq_getElem hil))
    · rw [if_neg hij] at hj
      rw [World.cell?_setCell_other w ⟨b, off + i, none⟩ ⟨b, off + j, none⟩ _ (by intro e; injection e; omega)]
      exact g4 j x hj
  · rw [World.frozen?_setCell]
    exact g5 rfl j (by simpa using hj)
end
section
open Go.RowKit

/-- A ring with a store of its own. -/
def GivesRg (xs : List Cx) (i j : Int) (w : World) (e : Ending) (w' : World) : Prop :=
  ∃ v b, e = .returned (.agg #[v, .int .i64 i, .int .i64 j]) ∧ HasS cxV true b w.heap.size w'.heap.size w' v xs ∧ Span 0 0 w w'
end
section
open Go.RowKit

theorem HasS.addrT {α : Type} {val : α → Value} {o : Bool} {b lo hi n c : Nat} {w : World} {A : Option Addr} {xs : List α} (h : HasS val o b lo hi w (.slice A n c) xs) (hp : 0 < xs.length) : ∃ off, A = some ⟨b, off, none⟩ ∧ lo ≤ b ∧ b < hi ∧ b < w.heap.size := by
  obtain ⟨A', cap, e, _, hc⟩ := h
  injection e with e1 e2 e3
  obtain ⟨off, e4, h1, h2, h3, _⟩ := hc hp
  exact ⟨off, e1.trans e4, h1, h2, h3⟩
theorem HasS.cellT {α : Type} {val : α → Value} {b off lo hi n c j : Nat} {w : World} {xs : List α} (h : HasS val true b lo hi w (.slice (some ⟨b, off, none⟩) n c) xs) (hj : j < xs.length) : (∃ u, w.cell? ⟨b, off + j, none⟩ = some u) ∧ w.frozen? ⟨b, off + j, none⟩ = false := by
  obtain ⟨A', cap, e, _, hc⟩ := h
  injection e with e1 e2 e3
  obtain ⟨off', e4, _, _, _, h4, h5⟩ := hc (by omega)
  rw [e4] at e1
  injection e1 with e1
  injection e1 with _ e5
  subst e5
  exact ⟨⟨_, h4 j _ (List.getElem?_eq_getElem hj)⟩, h5 rfl j hj⟩

/-- What is given when a sample was put. -/
def PushedR (r : Rn) (z : Cx) (w : World) (e : Ending) (w' : World) : Prop :=
  ∃ v b, e = .returned (.tuple #[.agg #[v, .int .i64 ((pushR r z).2.1 : Int), .int .i64 ((pushR r z).2.2 : Int)], .complex .f32 (oldR r).1 (oldR r).2, .bool true]) ∧ HasS cxV true b w.heap.size w'.heap.size w' v (pushR r z).1 ∧ Span 0 0 w w'
end
section
open Go.RowKit

/-- What is given when a sample was taken. -/
def TakenR (r : Rn) (w : World) (e : Ending) (w' : World) : Prop :=
  ∃ v b, e = .returned (.tuple #[.agg #[v, .int .i64 ((takeR r).2.1 : Int), .int .i64 ((takeR r).2.2 : Int)], .complex .f32 (itemR r.1 r.2.1 0).1 (itemR r.1 r.2.1 0).2, .bool true]) ∧ HasS cxV true b w.heap.size w'.heap.size w' v (takeR r).1 ∧ Span 0 0 w w'
end
section
open Go.RowKit

theorem bx_limbs {w0 w' : World} {B R : Nat} {us : Array Value} (hb : Bx B us w0) (hR : B < R) (h : Span R (R + 1) w0 w') : (∀ i, w'.cell? ⟨B, i, none⟩ = us[i]?) ∧ Span R (R + 1) w0 w' := ⟨(hb.span h (.inr (.inl hR))).cells, h⟩

set_option maxRecDepth 100000 in
set_option maxHeartbeats 4000000 in
theorem l4Copy_any (xs : List Cx) (i j : Int) (o : Bool) (b lo hi : Nat) (v : Value) (w : World) (hx : HasS cxV o b lo hi w v xs) (hl : xs.length ≤ 4194304) :
    Calls Try.prog 80 #[.agg #[v, .int .i64 i, .int .i64 j]] w (GivesRg xs i j w) := by
  obtain ⟨ip, hip, hzp, hsp, hbp⟩ := info_parts info_c64
  have HX := Lib.hid hx
  obtain ⟨A, p, rfl, hp, hc⟩ := hx
  obtain ⟨n, hn⟩ : ∃ n, n = xs.length := ⟨_, rfl⟩
  have HN := Lib.hid hn
  have HL := Lib.hid hl
  rw [← hn] at HX hp hc ⊢
  clear hn hc hp hl
  go_enter Try.func80, Try.ntmps80
  go_wp2_with fail
  have X := Lib.hid ((Bx.new w #[.slice A n p, .int .i64 i, .int .i64 j] 52).alloc (.cells #[.slice none 0 0, .int .i64 0, .int .i64 0] 52))
  have Y := Lib.hid (Bx.new (w.alloc (.cells #[.slice A n p, .int .i64 i, .int .i64 j] 52)) #[.slice none 0 0, .int .i64 0, .int .i64 0] 52)
  rw [show (w.alloc (.cells #[.slice A n p, .int .i64 i, .int .i64 j] 52)).heap.size = w.heap.size + 1 by simp] at Y
  have HS := Lib.hid (((Span.refl 0 0 w).alloc (.cells #[.slice A n p, .int .i64 i, .int .i64 j] 52)).alloc (.cells #[.slice none 0 0, .int .i64 0, .int .i64 0] 52))
  have HW : Hid (((w.alloc (.cells #[.slice A n p, .int .i64 i, .int .i64 j] 52)).alloc (.cells #[.slice none 0 0, .int .i64 0, .int .i64 0] 52)).heap.size = w.heap.size + 2) := by unfold Hid; simp
  generalize (w.alloc (.cells #[.slice A n p, .int .i64 i, .int .i64 j] 52)).alloc (.cells #[.slice none 0 0, .int .i64 0, .int .i64 0] 52) = w0 at *
  have HX0 := Lib.hid (HX.out.span HS.out (.inl (Nat.le_refl _)))
  obtain ⟨Rb, hR⟩ : ∃ Rb, Rb = w.heap.size + 1 := ⟨_, rfl⟩
  have HR : Hid (w.heap.size < Rb) := by unfold Hid; omega
  rw [← hR] at Y ⊢
  have HRE := Lib.hid hR
  clear hR
  go_region_held3 (fun w' => (∀ k, w'.cell? ⟨w.heap.size, k, none⟩ = #[.slice A n p, .int .i64 i, .int .i64 j][k]?) ∧ Span Rb (Rb + 1) w0 w')
    (first
      | exact bx_limbs X.out HR.out ((Span.refl _ _ w0).drew)
      | exact bx_limbs X.out HR.out (sp1.wid0 _ _)
      | (go_split_ands; exact bx_limbs X.out HR.out (Span.alloc (by assumption) _))
      | (exact bx_limbs X.out HR.out ((((sp1.wid0 Rb (Rb + 1)).setCell (.inl ⟨Nat.le_refl _, Nat.lt_succ_self _⟩) _).setCell (.inl ⟨Nat.le_refl _, Nat.lt_succ_self _⟩) _).setCell (.inl ⟨Nat.le_refl _, Nat.lt_succ_self _⟩) _)))
    ((go_split_ands
      refine step_append_any cxV_one rfl (.tmp 3) (.tmp 5) 23 rfl 35 ip (.complex .f32 0 0) 8 Try.underlying23 hip hzp hsp hbp rfl (by omega) w0 HX0.out HL.out rfl _ rfl ?own ?sp ?_
      case own => first | exact own_lit (lit_at (by simp)) (by simp) | exact own_lit (lit_old (lit_at (by simp))) (by simp)
      case sp => first | exact (Span.refl 0 0 w0).drew.alloc _ | exact ((Span.refl 0 0 w0).drew.alloc _).alloc _
      rw [← HN.out]
      intro A1 q1 w1 ho1 sp1 kp1
      have X2 := Y.out.span sp1 (.inl (Nat.le_refl _))
      have c2 := X2.cells
      have f2 := X2.thaw
      have YS := Lib.hid (X2.set3 (.slice A1 n q1) (.int .i64 i) (.int .i64 j))
      clear X2))
  all_goals
    have HSP := Lib.hid sp1
    have HOW := Lib.hid ho1
    clear kp1 sp1 ho1
    go_wp2_with fail
    have d1 := YS.out.cells
    have hw := HW.out
    have hr := HRE.out
    obtain ⟨b1, g1, -, -⟩ := ownsRow_hasS HOW.out
    refine bodyPost_ret (v := .agg #[.slice A1 n q1, .int .i64 i, .int .i64 j]) (by simp [results, Try.results80, go_sem, d1]) rfl ⟨_, b1, rfl, ?_, (HS.out.trans HSP.out).set3 (by omega) _ _ _⟩
    exact (g1.span ((Span.refl Rb (Rb + 1) _).put3 (b := Rb) ⟨Nat.le_refl _, Nat.lt_succ_self _⟩ (.slice A1 n q1) (.int .i64 i) (.int .i64 j)) (by omega)).weak (by omega) (.inl (by simp [World.setCell]))
end
end Go.Proofs.Ytfafkdpefdpnkaa
