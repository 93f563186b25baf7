/- Frames: eight samples each, as values, in memory, lists of them; which are equal. -/
import Derived.Test.YtfafkdpefdpnkaaJq24
import Derived.Laws.StructEq
import Derived.Maps.AppendAt
import Derived.Deep.AppendLies
namespace Go.Proofs.Ytfafkdpefdpnkaa
open Go.RowKit

/-- A frame: eight samples. -/
structure Fr where
  a : Cx
  b : Cx
  c : Cx
  d : Cx
  e : Cx
  f : Cx
  g : Cx
  h : Cx
def Fr.l (F : Fr) : List Cx := [F.a, F.b, F.c, F.d, F.e, F.f, F.g, F.h]
def frC (F : Fr) : List Value := [cxV F.a, cxV F.b, cxV F.c, cxV F.d, cxV F.e, cxV F.f, cxV F.g, cxV F.h]
def frA (F : Fr) : Array Value := #[cxV F.a, cxV F.b, cxV F.c, cxV F.d, cxV F.e, cxV F.f, cxV F.g, cxV F.h]
def frV (F : Fr) : Value := .agg #[cxV F.a, cxV F.b, cxV F.c, cxV F.d, cxV F.e, cxV F.f, cxV F.g, cxV F.h]
def flatF (L : List Fr) : List Value := L.flatMap frC

theorem Fr.len (F : Fr) : F.l.length = 8 := rfl
theorem frC_map (F : Fr) : frC F = F.l.map cxV := rfl
theorem frA_size (F : Fr) : (frA F).size = 8 := rfl
theorem frA_get (F : Fr) (i : Nat) : (frA F)[i]? = F.l[i]?.map cxV := by
  show (F.l.map cxV).toArray[i]? = _
  simp
theorem flatF_cons (x : Fr) (L : List Fr) : flatF (x :: L) = frC x ++ flatF L := rfl
theorem flatF_append (L M : List Fr) : flatF (L ++ M) = flatF L ++ flatF M := List.flatMap_append
theorem flatF_one (x : Fr) : flatF [x] = frC x := by unfold flatF; simp
theorem flatF_length : ∀ L : List Fr, (flatF L).length = L.length * 8
  | [] => rfl
  | x :: L => by rw [flatF_cons, List.length_append, flatF_length L, List.length_cons]; show 8 + _ = _; omega
theorem flatF_map (L : List Fr) : flatF L = (L.flatMap Fr.l).map cxV := by
  induction L with
  | nil => rfl
  | cons x L ih => rw [flatF_cons, ih, List.flatMap_cons, List.map_append]; rfl

theorem flatF_get : ∀ (L : List Fr) (j : Nat) (x : Fr) (i : Nat), L[j]? = some x → i < 8 → (flatF L)[j * 8 + i]? = (frC x)[i]?
  | [], j, x, i, h, _ => by simp at h
  | y :: L, 0, x, i, h, hi => by
    simp at h; subst h
    rw [flatF_cons, Nat.zero_mul, Nat.zero_add, List.getElem?_append_left (by show i < 8; exact hi)]
  | y :: L, j + 1, x, i, h, hi => by
    simp at h
    have := flatF_get L j x i h hi
    rw [flatF_cons, List.getElem?_append_right (by show 8 ≤ _; omega), show (j + 1) * 8 + i - (frC y).length = j * 8 + i by show (j + 1) * 8 + i - 8 = _; omega]
    exact this

theorem flatF_one' {L : List Fr} (u : Value) (h : u ∈ flatF L) : u.oneCell' = true := by
  rw [flatF_map] at h
  obtain ⟨z, _, rfl⟩ := List.mem_map.1 h
  rfl

/-- A slice that reads as a list of frames. -/
def HasFr (b lo hi : Nat) (w : World) (v : Value) (L : List Fr) : Prop :=
  ∃ (A : Option Addr) (cap : Nat), v = .slice A L.length cap ∧ L.length ≤ cap ∧
    (0 < L.length → ∃ off, A = some ⟨b, off, none⟩ ∧ lo ≤ b ∧ b < hi ∧ b < w.heap.size ∧ ∀ j u, (flatF L)[j]? = some u → w.cell? ⟨b, off + j, none⟩ = some u)

theorem HasFr.span {b lo hi l r : Nat} {w w' : World} {v : Value} {L : List Fr} (h : HasFr b lo hi w v L) (hs : Span l r w w') (hd : r ≤ l ∨ hi ≤ l ∨ r ≤ lo ∨ b < l ∨ r ≤ b) : HasFr b lo hi w' v L := by
  obtain ⟨A, cap, rfl, hcap, hc⟩ := h
  refine ⟨A, cap, rfl, hcap, fun hp => ?_⟩
  obtain ⟨off, rfl, h1, h2, h3, h4⟩ := hc hp
  have g2 := hs.block b h3 (by omega)
  exact ⟨off, rfl, h1, h2, Nat.lt_of_lt_of_le h3 hs.size, fun j u hj => (World.cell?_of_block (w := w) g2).trans (h4 j u hj)⟩
theorem HasFr.keep {b lo hi : Nat} {w w' : World} {v : Value} {L : List Fr} (h : HasFr b lo hi w v L) (hs : Span 0 0 w w') : HasFr b lo hi w' v L := h.span hs (.inl (Nat.le_refl _))

theorem HasFr.weak {b lo hi lo' hi' : Nat} {w : World} {v : Value} {L : List Fr} (h : HasFr b lo hi w v L) (h1 : lo' ≤ lo) (h2 : hi ≤ hi' ∨ w.heap.size ≤ hi') : HasFr b lo' hi' w v L := by
  obtain ⟨A, cap, rfl, hcap, hc⟩ := h
  refine ⟨A, cap, rfl, hcap, fun hp => ?_⟩
  obtain ⟨off, rfl, g1, g2, g3, g4⟩ := hc hp
  exact ⟨off, rfl, by omega, by omega, g3, g4⟩

theorem HasFr.empty (b lo hi : Nat) (w : World) (A : Option Addr) (c : Nat) : HasFr b lo hi w (.slice A 0 c) [] :=
  ⟨A, c, rfl, Nat.zero_le _, fun h => absurd h (by simp)⟩

/-- The cells of one frame. -/
def FrAt (w : World) (b o : Nat) (x : Fr) : Prop :=
  w.cell? ⟨b, o, none⟩ = some (cxV x.a) ∧ w.cell? ⟨b, o + 1, none⟩ = some (cxV x.b) ∧ w.cell? ⟨b, o + 2, none⟩ = some (cxV x.c) ∧ w.cell? ⟨b, o + 3, none⟩ = some (cxV x.d) ∧ w.cell? ⟨b, o + 4, none⟩ = some (cxV x.e) ∧ w.cell? ⟨b, o + 5, none⟩ = some (cxV x.f) ∧ w.cell? ⟨b, o + 6, none⟩ = some (cxV x.g) ∧ w.cell? ⟨b, o + 7, none⟩ = some (cxV x.h)

theorem HasFr.at_ {b lo hi : Nat} {w : World} {A : Option Addr} {n c : Nat} {L : List Fr} (h : HasFr b lo hi w (.slice A n c) L) {k : Nat} {x : Fr} (hk : L[k]? = some x) :
    n = L.length ∧ b < w.heap.size ∧ ∃ off, A = some ⟨b, off, none⟩ ∧ FrAt w b (off + k * 8) x := by
  obtain ⟨A', c', e, _, hc⟩ := h
  injection e with e1 e2 e3
  subst e1 e2 e3
  have hl := (List.getElem?_eq_some_iff.1 hk).1
  obtain ⟨off, rfl, _, _, hb, h4⟩ := hc (by omega)
  refine ⟨rfl, hb, off, rfl, ?_, ?_, ?_, ?_, ?_, ?_, ?_, ?_⟩
  · exact h4 (k * 8) _ (flatF_get L k x 0 hk (by omega))
  · rw [Nat.add_assoc]; exact h4 (k * 8 + 1) _ (flatF_get L k x 1 hk (by omega))
  · rw [Nat.add_assoc]; exact h4 (k * 8 + 2) _ (flatF_get L k x 2 hk (by omega))
  · rw [Nat.add_assoc]; exact h4 (k * 8 + 3) _ (flatF_get L k x 3 hk (by omega))
  · rw [Nat.add_assoc]; exact h4 (k * 8 + 4) _ (flatF_get L k x 4 hk (by omega))
  · rw [Nat.add_assoc]; exact h4 (k * 8 + 5) _ (flatF_get L k x 5 hk (by omega))
  · rw [Nat.add_assoc]; exact h4 (k * 8 + 6) _ (flatF_get L k x 6 hk (by omega))
  · rw [Nat.add_assoc]; exact h4 (k * 8 + 7) _ (flatF_get L k x 7 hk (by omega))

theorem ownsRow_hasFr {w : World} {base : Nat} {e : TypeId} {v : Value} {n : Nat} {L : List Fr} (h : w.ownsRow base e 8 v n (flatF L)) :
    ∃ b, HasFr b base w.heap.size w v L ∧ n = L.length ∧ (0 < L.length → v.ownBlock = some b) := by
  obtain ⟨hl, h | ⟨g, cap, cur, rfl, hg, hh, hn, hm, hc, ht⟩⟩ := h
  · obtain ⟨rfl, rfl⟩ := h
    have : L = [] := by cases L with | nil => rfl | cons a l => rw [flatF_length] at hl; simp at hl
    subst this
    exact ⟨0, HasFr.empty _ _ _ _ _ _, rfl, fun h => absurd h (by simp)⟩
  · rw [flatF_length] at hl
    have hnl : n = L.length := by omega
    have hlt : g < w.heap.size := by
      by_cases hg : g < w.heap.size
      · exact hg
      · rw [Array.getElem?_eq_none (by omega)] at hh; cases hh
    refine ⟨g, ⟨_, cap, by rw [hnl], by omega, fun _ => ⟨0, rfl, hg, hlt, hlt, fun j u hj => ?_⟩⟩, hnl, fun _ => rfl⟩
    have hj' := (List.getElem?_eq_some_iff.1 hj).1
    rw [flatF_length] at hj'
    rw [← ht, List.getElem?_take_of_lt (by omega)] at hj
    unfold World.cell?
    simp only [hh, Nat.zero_add]
    simpa using hj

theorem HasFr.newsOf {b lo hi : Nat} {w : World} {A : Option Addr} {n c : Nat} {L : List Fr} (h : HasFr b lo hi w (.slice A n c) L) :
    n = L.length ∧ (A = none → L = []) ∧ ∀ ad, A = some ad → ∀ j u, (flatF L)[j]? = some u → w.cell? (ad.add j) = some u := by
  obtain ⟨A', cap, he, hcap, hc⟩ := h
  injection he with e1 e2 e3
  subst e1 e2 e3
  refine ⟨rfl, fun ha => ?_, fun ad had j u hu => ?_⟩
  · cases L with
    | nil => rfl
    | cons x l =>
      obtain ⟨off, h, _⟩ := hc (by simp)
      rw [ha] at h; cases h
  · have hj := (List.getElem?_eq_some_iff.1 hu).1
    rw [flatF_length] at hj
    obtain ⟨off, h, _, _, _, hcell⟩ := hc (by omega)
    rw [had] at h; cases h
    rw [Addr.add_lit]
    exact hcell j u hu

theorem run_append_fr {P : Program} (w : World) (base : Nat) (t ty e : TypeId) (i : TypeInfo) (z : Value) (bytes : Nat) (ht : P.underlying t = some (.slice e)) (hi : P.info? e = some i) (hz : i.zero = some z)
    (hsize : i.size = 8) (hby : i.bytes = bytes) (hzs : z.cells.size = 8) (v : Value) (n : Nat) (ys : List Value) (hown : w.ownsRow base e 8 v n ys)
    {b lo hi' : Nat} {x : Value} {L : List Fr} (hx : HasFr b lo hi' w x L) (h63 : n + L.length ≤ maxLen) (hbytes : (n + L.length) * bytes ≤ 140737488355328) (hbase : base ≤ w.heap.size) :
    ∃ v' w', (Builtin.append_ #[t, t] ty #[v, x]).run P w = .ok v' w' ∧ w'.ownsRow base e 8 v' (n + L.length) (ys ++ flatF L) ∧ w.grownBy w' v.ownBlock ∧ (v'.ownBlock = v.ownBlock ∨ v'.ownBlock = some w.heap.size) := by
  obtain ⟨A, c, rfl, hc⟩ := id hx
  obtain ⟨_, hn, hnews⟩ := hx.newsOf
  cases A with
  | some ad =>
    obtain ⟨v', w', r1, r2, r3, _, r5⟩ := run_append_own_at (P := P) w base t ty e i z 8 bytes ht hi hz hsize hby hzs (by omega) v n ys hown ad L.length c (flatF L) (flatF_length L) (hnews ad rfl)
      (fun u hu => flatF_one' u hu) h63 hbytes hbase
    exact ⟨v', w', r1, r2, r3, r5⟩
  | none =>
    have he := hn rfl
    subst he
    have hsrc := Src.ofNil (P := P) w (size := i.size) (tx := t) ht c
    rcases hown.2 with ⟨rfl, rfl⟩ | ⟨g, cap, cur, rfl, hb, hg, hnc, hr⟩
    · refine ⟨.slice none 0 0, w, ?_, by simpa [flatF] using hown, World.grownBy.refl _ _, .inl rfl⟩
      simp [Builtin.append_, run_underlying ht, sizeOf, typeInfo, hi, Builtin.lenOf, Builtin.firstCells]
    · refine ⟨.slice (some ⟨g, 0, none⟩) n cap, w, ?_, by simpa [flatF] using hown, World.grownBy.refl _ _, .inl rfl⟩
      have := run_append_room_src (P := P) w t t ty e i ht hi g 0 n cap (.slice none 0 c) 0 [] hsrc (by omega) (fun j hj => absurd hj (by simp)) (fun j hj => absurd hj (by simp))
      rw [setCells_nil] at this
      simpa using this

theorem wpList_append_fr {P : Program} {w : World} {ops : Array Oper} {rest : List Oper} {o : Oper} {a : Act} {Q : Exit → Act → World → Prop} (hgd : o.guard = none) (s x : Operand) (t : TypeId)
    (ho : o.op = .call { callee := .builtin .append, args := #[s, x], argTypes := #[t, t] })
    (base : Nat) (e : TypeId) (i : TypeInfo) (z : Value) (bytes : Nat) (ht : P.underlying t = some (.slice e)) (hi : P.info? e = some i) (hz : i.zero = some z)
    (hsize : i.size = 8) (hby : i.bytes = bytes) (hzs : z.cells.size = 8)
    (v : Value) (n : Nat) (ys : List Value) (hs : a.eval s = v) (hown : w.ownsRow base e 8 v n ys)
    {b lo hi' : Nat} {vx : Value} {L : List Fr} (hxv : HasFr b lo hi' w vx L) (hx : a.eval x = vx)
    (h63 : n + L.length ≤ maxLen) (hbytes : (n + L.length) * bytes ≤ 140737488355328) (hbase : base ≤ w.heap.size)
    (h : ∀ v' w', w'.ownsRow base e 8 v' (n + L.length) (ys ++ flatF L) → w.grownBy w' v.ownBlock → (v'.ownBlock = v.ownBlock ∨ v'.ownBlock = some w.heap.size) → wpList P ops Q rest (a.put o.dst v') w') :
    wpList P ops Q (o :: rest) a w := by
  refine wpList_plain hgd fun K hK => ?_
  obtain ⟨v', w', hr, h2, h3, h4⟩ := run_append_fr (P := P) w base t o.type e i z bytes ht hi hz hsize hby hzs v n ys hown hxv h63 hbytes hbase
  unfold Oper.wp execOp
  simp only [ho, resolve, invoke, builtin, Sem.run_bind, Sem.run_pure, Result.andThen_ok, List.map_toArray, List.map_cons, List.map_nil, hs, hx, hr]
  exact hK _ _ (h v' w' h2 h3 h4)

theorem info_frame : (Try.prog.info? 37).map (fun i => (i.zero, i.size, i.bytes)) = some (some (.agg #[.complex .f32 0 0, .complex .f32 0 0, .complex .f32 0 0, .complex .f32 0 0, .complex .f32 0 0, .complex .f32 0 0, .complex .f32 0 0, .complex .f32 0 0]), 8, 64) := by kernel_rfl

/-! EQUAL NUMBERS -/
section
open Ieee
/-- A number that is no NaN, told so that equal ones are told alike. -/
def keyE (x : Nat) : Option (Int ⊕ Bool) :=
  if rungOf Ieee.single x < 2139095040 then some (.inl (keyX x)) else if rungOf Ieee.single x = 2139095040 then some (.inr (negOf Ieee.single x)) else none

theorem ordEq_key (x y : Nat) : ordEq x y = match keyE x, keyE y with | some a, some b => decide (a = b) | _, _ => false := by
  have hi : Ieee.single.infRung = 2139095040 := s_inf
  have num : ∀ z, rungOf Ieee.single z < 2139095040 → ∃ s m i, Ieee.single.read z = .number s m i := fun z hz => by
    obtain ⟨m, e, h, _⟩ := read_fin Ieee.single (b := z) (by rw [hi]; exact hz)
    exact ⟨_, _, _, h⟩
  have inf : ∀ z, rungOf Ieee.single z = 2139095040 → Ieee.single.read z = .infinity (negOf Ieee.single z) := fun z hz => read_inf Ieee.single s_eb (by rw [hi]; exact hz)
  have nan : ∀ z, ¬ rungOf Ieee.single z < 2139095040 → ¬ rungOf Ieee.single z = 2139095040 → ∃ s t, Ieee.single.read z = .nan s t := fun z h1 h2 => (isNaN_cases _).1 (read_nan Ieee.single s_eb (by rw [hi]; omega))
  by_cases x1 : rungOf Ieee.single x < 2139095040
  · by_cases y1 : rungOf Ieee.single y < 2139095040
    · have e : FloatKind.f32.format.order x y = _ := order_rung Ieee.single (x := x) (y := y) (by rw [hi]; exact x1) (by rw [hi]; exact y1)
      unfold ordEq keyE
      rw [e, if_pos x1, if_pos y1]
      unfold keyX
      rw [Bool.eq_iff_iff]
      simp [cmp_eq]
    · obtain ⟨s, m, i, hx⟩ := num x x1
      by_cases y2 : rungOf Ieee.single y = 2139095040
      · have hy := inf y y2
        unfold ordEq keyE
        rw [if_pos x1, if_neg y1, if_pos y2]
        show (Ieee.single.order x y == _) = _
        unfold Ieee.Format.order
        rw [hx, hy]
        cases negOf Ieee.single y <;> simp [Ieee.Datum.order]
      · obtain ⟨t, f, hy⟩ := nan y y1 y2
        unfold ordEq keyE
        rw [if_pos x1, if_neg y1, if_neg y2]
        show (Ieee.single.order x y == _) = _
        unfold Ieee.Format.order
        rw [hx, hy]
        simp [Ieee.Datum.order]
  · by_cases x2 : rungOf Ieee.single x = 2139095040
    · have hx := inf x x2
      by_cases y1 : rungOf Ieee.single y < 2139095040
      · obtain ⟨s, m, i, hy⟩ := num y y1
        unfold ordEq keyE
        rw [if_neg x1, if_pos x2, if_pos y1]
        show (Ieee.single.order x y == _) = _
        unfold Ieee.Format.order
        rw [hx, hy]
        cases negOf Ieee.single x <;> simp [Ieee.Datum.order]
      · by_cases y2 : rungOf Ieee.single y = 2139095040
        · have hy := inf y y2
          unfold ordEq keyE
          rw [if_neg x1, if_pos x2, if_neg y1, if_pos y2]
          show (Ieee.single.order x y == _) = _
          unfold Ieee.Format.order
          rw [hx, hy]
          cases negOf Ieee.single x <;> cases negOf Ieee.single y <;> decide
        · obtain ⟨t, f, hy⟩ := nan y y1 y2
          unfold ordEq keyE
          rw [if_neg x1, if_pos x2, if_neg y1, if_neg y2]
          show (Ieee.single.order x y == _) = _
          unfold Ieee.Format.order
          rw [hx, hy]
          simp [Ieee.Datum.order]
    · obtain ⟨t, f, hx⟩ := nan x x1 x2
      unfold ordEq keyE
      rw [if_neg x1, if_neg x2]
      show (Ieee.single.order x y == _) = _
      unfold Ieee.Format.order
      rw [hx]
      simp [Ieee.Datum.order]
end

theorem ordEq_sym (x y : Nat) : ordEq x y = ordEq y x := by
  rw [ordEq_key, ordEq_key]
  cases keyE x with
  | none => cases keyE y <;> rfl
  | some a => cases keyE y with
    | none => rfl
    | some b => simp only [eq_comm]
theorem ordEq_trans {x y z : Nat} (h1 : ordEq x y = true) (h2 : ordEq y z = true) : ordEq x z = true := by
  rw [ordEq_key] at h1 h2 ⊢
  cases hx : keyE x with
  | none => rw [hx] at h1; cases h1
  | some a => cases hy : keyE y with
    | none => rw [hx, hy] at h1; cases h1
    | some b => cases hz : keyE z with
      | none => rw [hy, hz] at h2; cases h2
      | some c =>
        rw [hx, hy] at h1
        rw [hy, hz] at h2
        have e1 := of_decide_eq_true h1
        have e2 := of_decide_eq_true h2
        exact decide_eq_true (e1.trans e2)
theorem eqC_symm (p q : Cx) : eqC p q = eqC q p := by unfold eqC; rw [ordEq_sym p.1, ordEq_sym p.2]
theorem eqC_trans {p q r : Cx} (h1 : eqC p q = true) (h2 : eqC q r = true) : eqC p r = true := by
  unfold eqC at *
  rw [Bool.and_eq_true] at *
  exact ⟨ordEq_trans h1.1 h2.1, ordEq_trans h1.2 h2.2⟩

/-- Equal frames. -/
def eqF (F G : Fr) : Bool := (eqC F.a G.a && (eqC F.b G.b && (eqC F.c G.c && (eqC F.d G.d && (eqC F.e G.e && (eqC F.f G.f && (eqC F.g G.g && eqC F.h G.h)))))))
theorem eqF_symm (F G : Fr) : eqF F G = eqF G F := by unfold eqF; rw [eqC_symm F.a, eqC_symm F.b, eqC_symm F.c, eqC_symm F.d, eqC_symm F.e, eqC_symm F.f, eqC_symm F.g, eqC_symm F.h]
theorem eqF_trans {F G H : Fr} (h1 : eqF F G = true) (h2 : eqF G H = true) : eqF F H = true := by
  unfold eqF at *
  simp only [Bool.and_eq_true] at *
  obtain ⟨a0, a1, a2, a3, a4, a5, a6, a7⟩ := h1
  obtain ⟨b0, b1, b2, b3, b4, b5, b6, b7⟩ := h2
  exact ⟨eqC_trans a0 b0, eqC_trans a1 b1, eqC_trans a2 b2, eqC_trans a3 b3, eqC_trans a4 b4, eqC_trans a5 b5, eqC_trans a6 b6, eqC_trans a7 b7⟩
theorem eqF_self {F G : Fr} (h : eqF F G = true) : eqF F F = true := eqF_trans h (by rw [eqF_symm]; exact h)

@[go_sem] theorem run_equalIn_fr (x0 x1 x2 x3 x4 x5 x6 x7 x8 x9 x10 x11 x12 x13 x14 x15 y0 y1 y2 y3 y4 y5 y6 y7 y8 y9 y10 y11 y12 y13 y14 y15 : Nat) (w : World) : (Op.equalIn 10000 37 (.agg #[.complex .f32 x0 x1, .complex .f32 x2 x3, .complex .f32 x4 x5, .complex .f32 x6 x7, .complex .f32 x8 x9, .complex .f32 x10 x11, .complex .f32 x12 x13, .complex .f32 x14 x15]) (.agg #[.complex .f32 y0 y1, .complex .f32 y2 y3, .complex .f32 y4 y5, .complex .f32 y6 y7, .complex .f32 y8 y9, .complex .f32 y10 y11, .complex .f32 y12 y13, .complex .f32 y14 y15])).run Try.prog w = .ok (eqF ⟨(x0, x1), (x2, x3), (x4, x5), (x6, x7), (x8, x9), (x10, x11), (x12, x13), (x14, x15)⟩ ⟨(y0, y1), (y2, y3), (y4, y5), (y6, y7), (y8, y9), (y10, y11), (y12, y13), (y14, y15)⟩) w := by
  have a3 := Try.isAgg35
  have z3 := Try.sizeOf35
  have q : ∀ (a b c d : Nat) (w : World), (Op.equalIn 9999 35 (.complex .f32 a b) (.complex .f32 c d)).run Try.prog w = .ok (eqC (a, b) (c, d)) w := fun a b c d w => run_equalIn_cx w 9998 Try.underlying35 (a, b) (c, d)
  rw [show (10000 : Nat) = 9999 + 1 from rfl, Op.equalIn]
  simp only [Sem.run_bind, run_underlying Try.underlying37, Result.andThen_ok]
  simp only [Std.Legacy.Range.forIn_eq_forIn_range', Std.Legacy.Range.size, Nat.sub_zero, Nat.add_sub_cancel, Nat.div_one, List.range'_succ, List.range'_zero, List.forIn_cons, List.forIn_nil]
  unfold eqF
  have q0 := fun w => q x0 x1 y0 y1 w
  have q1 := fun w => q x2 x3 y2 y3 w
  have q2 := fun w => q x4 x5 y4 y5 w
  have q3 := fun w => q x6 x7 y6 y7 w
  have q4 := fun w => q x8 x9 y8 y9 w
  have q5 := fun w => q x10 x11 y10 y11 w
  have q6 := fun w => q x12 x13 y12 y13 w
  have q7 := fun w => q x14 x15 y14 y15 w
  generalize eqC (x0, x1) (y0, y1) = b0 at *
  generalize eqC (x2, x3) (y2, y3) = b1 at *
  generalize eqC (x4, x5) (y4, y5) = b2 at *
  generalize eqC (x6, x7) (y6, y7) = b3 at *
  generalize eqC (x8, x9) (y8, y9) = b4 at *
  generalize eqC (x10, x11) (y10, y11) = b5 at *
  generalize eqC (x12, x13) (y12, y13) = b6 at *
  generalize eqC (x14, x15) (y14, y15) = b7 at *
  clear q
  go_simp
  cases b0 <;> cases b1 <;> cases b2 <;> cases b3 <;> cases b4 <;> cases b5 <;> cases b6 <;> cases b7 <;> simp [q0, q1, q2, q3, q4, q5, q6, q7, Result.andThen]
end Go.Proofs.Ytfafkdpefdpnkaa
