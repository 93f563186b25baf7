/- The program's PutPoint, of finite points. An element is taken out of a slice that the call owns. The program's DropPoint. What the nearest point is. -/
import Derived.Test.YthcccliiokckjaaU9
import Derived.Deep.AppendLies
import Derived.Test.YthcccliiokckjaaSh3
namespace Go.Proofs.Ythcccliiokckjaa
section
open Go.RowKit

set_option maxRecDepth 100000 in
set_option maxHeartbeats 4000000 in
theorem impl_putPoint (t : Tab) (z : Cx) (n : Int) (o : Bool) (lo hi : Nat) (v : Value) (w : World) (hx : HasTab o lo hi w v t) (ht : Valid t) (hl : t.1.length < 64) (hz : finC z) :
    Calls Try.prog 14 #[v, .complex .f32 z.1 z.2, .int .i64 n] w (GivesTab (putT t z n) w) := by
  obtain ⟨ip, hip, hzp, hsp, hbp⟩ := info_parts info_c64
  obtain ⟨il, hil, hzl, hsl, hbl⟩ := info_parts info_int
  obtain ⟨z1, z2⟩ := z
  simp only
  obtain ⟨AP, cP, AL, cL, rfl⟩ := hx.form
  obtain ⟨lp, hlp⟩ : ∃ n, n = t.1.length := ⟨_, rfl⟩
  have hll : lp = t.2.length := by rw [ht.len]; exact hlp
  rw [← hll, ← hlp] at hx
  rw [← hll, ← hlp]
  rw [← hlp] at hl
  have HX := Lib.hid hx
  have HT := Lib.hid ht
  have HZ := Lib.hid hz
  have HLP := Lib.hid hlp
  have HLL := Lib.hid hll
  have HM : Hid (t.1.length ≤ 4194304 ∧ t.2.length ≤ 4194304) := ⟨by omega, by omega⟩
  clear hx ht hz hlp hll
  have X0 := Lib.hid ((Box.new w (.slice AP lp cP) (.slice AL lp cL) 26).alloc (.cells #[.slice none 0 0, .slice none 0 0] 26))
  have X1 := Lib.hid (Box.new (w.alloc (.cells #[.slice AP lp cP, .slice AL lp cL] 26)) (.slice none 0 0) (.slice none 0 0) 26)
  rw [show (w.alloc (.cells #[.slice AP lp cP, .slice AL lp cL] 26)).heap.size = w.heap.size + 1 by simp] at X1
  have HS := Lib.hid ((((Span.refl 0 0 w).alloc (.cells #[.slice AP lp cP, .slice AL lp cL] 26))).alloc (.cells #[.slice none 0 0, .slice none 0 0] 26))
  go_enter Try.func14, Try.ntmps14
  go_wp2_with fail
  refine (impl_isTable_true t o lo hi _ _ (HX.out.span HS.out (.inl (Nat.le_refl _))) HT.out).mono ?_
  rintro _ w1 ⟨rfl, s1⟩
  have Y0 := X0.out.span s1 (.inl (Nat.le_refl _))
  have Y1 := Lib.hid (X1.out.span s1 (.inl (Nat.le_refl _)))
  have S1 := Lib.hid (s1.after HS.out)
  obtain ⟨_, x0, x1, _, _⟩ := id Y0
  have Y0' := Lib.hid Y0
  clear s1 Y0
  go_wp2_with fail
  refine (copyTable_own t o lo hi _ _ (HX.out.span S1.out (.inl (Nat.le_refl _))) HT.out.len HM.out.1).mono ?_
  rintro _ w2 ⟨A1, q1, A2, q2, rfl, hp, hl2, s2⟩
  rw [← HLP.out] at hp ⊢
  rw [← HLL.out] at hl2 ⊢
  have hz1 : w.heap.size + 1 < w1.heap.size := Y1.out.1
  have TP : Hid (Putting (w.heap.size + 1) w2.heap.size w1.heap.size w t.1 t.2 (.slice A1 lp q1) (.slice A2 lp q2) (w2.alloc (.cells #[.slice A1 lp q1, .slice A2 lp q2] 26))) := by
    refine ⟨heap_alloc_new _ _, (Y1.out.span s2 (.inl (Nat.le_refl _))).alloc _, ?_, ?_, (s2.after S1.out).alloc _, fun h => ?_, fun h => ?_, Nat.le_trans s2.size (by simp)⟩
    · rw [← HLP.out]; exact hp.alloc _
    · rw [← HLL.out]; exact hl2.alloc _
    · have := (hp.lt _ h).2; omega
    · have := (hl2.lt _ h).2; omega
  have Y02 := Lib.hid ((Y0'.out.span s2 (.inl (Nat.le_refl _))).alloc (.cells #[.slice A1 lp q1, .slice A2 lp q2] 26))
  obtain ⟨_, y0, y1, _, _⟩ := Y02.out
  have S2 := Lib.hid (s2.after S1.out)
  have hz2 : w1.heap.size ≤ w2.heap.size := s2.size
  clear s2 hp hl2
  go_wp2_with fail
  obtain ⟨b3, g3, -, -⟩ := ownsRow_hasS TP.out.p
  refine (placeIn_any t.1 (z1, z2) (fun p hp => eqC_sym (HT.out.fin p hp) HZ.out) true b3 _ _ _ _ g3 HM.out.1).mono ?_
  rintro _ w3 ⟨rfl, rfl⟩
  have TP3 := TP
  generalize w2.alloc (.cells #[.slice A1 lp q1, .slice A2 lp q2] 26) = w3 at *
  clear TP g3 b3
  cases ha : atC t.1 (z1, z2) with
  | some i =>
    have hi : i < lp := by rw [HLP.out]; exact atC_lt ha
    have e : putT t (z1, z2) n = some (t.1, t.2.set i n) := by unfold putT; rw [ha]
    simp only [placeZ]
    have HE := Lib.hid e
    clear ha e
    obtain ⟨g2, cap2, hv, hgb, hgl⟩ := TP3.out.l.form (by rw [← HLL.out]; omega)
    injection hv with e1 e2 e3
    subst e1 e3
    have TPi := TP3.out
    rw [e2] at TPi
    have HTR := TPi.relabel (i := i) (by omega) (by omega) n
    have dl : w3.cell? ⟨g2, i, none⟩ = some (intV ((t.2[i]?).getD 0)) := by
      rw [TPi.l.cellAt i (by rw [← HLL.out]; omega), List.getElem?_map]
      obtain ⟨x, hx⟩ := getElem?_some (xs := t.2) (j := i) (by rw [← HLL.out]; exact hi)
      rw [hx]; rfl
    have df := TPi.l.frozenAt i
    rw [← HLL.out] at HTR TPi
    obtain ⟨c0, c1, c2, c3, c4, c5⟩ := HTR.cells
    obtain ⟨_, d1, _⟩ := TPi.cells
    have HTR := Lib.hid HTR
    have HR := Lib.hid (HTR.out.result (by omega) (by omega))
    have HB := Lib.hid (box_stored (u' := .slice A1 lp q1) (v' := .slice (some ⟨g2, 0, none⟩) lp q2) HTR.out.r)
    have i0 : (0 : Int) ≤ (i : Int) := by omega
    have i1 : (i : Int) < (lp : Int) := by omega
    clear TPi TP3 e2
    unfold intV at *
    go_wp2_with fail
    refine bodyPost_ret (v := .tuple #[.agg #[.slice A1 lp q1, .slice (some ⟨g2, 0, none⟩) lp q2], .bool true]) (by simp [results, Try.results14, go_sem, HB.out.1, HB.out.2]) rfl ?_
    rw [HE.out]
    exact ⟨⟨_, rfl, HR.out.1⟩, HR.out.2⟩
  | none =>
    simp only [placeZ]
    obtain ⟨c0, c1, _⟩ := TP3.out.cells
    go_wp2_with (first
      | (at_builtin; refine wpList_append_own_at _ rfl _ _ 23 rfl w1.heap.size 28 ip (.complex .f32 0 0) 1 8 Try.underlying23 hip hzp hsp hbp rfl (by decide) _ _ _ rfl (TP3.out.p.alloc _) ⟨w3.heap.size, 0, none⟩ 1 1 [cxV (z1, z2)] rfl rfl ?c1 ?c2 ?c3 ?c4 ?c5 ?_; (case c1 => exact one_new _ _ _); (case c2 => exact one_cell (by rfl)); (case c3 => rw [← HLP.out]; unfold maxLen; omega); (case c4 => rw [← HLP.out]; omega); (case c5 => have := TP3.out.hB; simp; omega); intro v1 w4 ho hgr _ hat; obtain ⟨A3, q3, rfl⟩ := ownsRow_slice ho; obtain ⟨d0, d1, d2, D⟩ := TP3.out.points (by omega) (by omega) (by omega) (by omega) ho hgr hat; have HG1 := Lib.hid D; clear D ho hgr hat)
      | (at_builtin; ((refine wpList_append_own_at _ rfl _ _ 24 rfl w1.heap.size 3 il (.int .i64 0) 1 8 Try.underlying24 hil hzl hsl hbl rfl (by decide) _ _ _ rfl (HG1.out.l.alloc _) ⟨w4.heap.size, 0, none⟩ 1 1 [intV n] rfl rfl ?e1 ?e2 ?e3 ?e4 ?e5 ?_); (case e1 => exact one_new' _ _ _ _ _); (case e2 => exact one_cell (by rfl)); (case e3 => rw [← HLL.out]; unfold maxLen; omega); (case e4 => rw [← HLL.out]; omega); (case e5 => have := HG1.out.hB; simp at this ⊢; omega); intro v2 w5 ho hgr _ hat; obtain ⟨A4, q4, rfl⟩ := ownsRow_slice ho; obtain ⟨d3, d4, d5, D⟩ := HG1.out.labels (by omega) (by omega) (by omega) (by omega) ho hgr hat; have HG2 := Lib.hid D; clear D ho hgr hat)))
    clear c0 c1 d0 d1 d2 d3 d4 d5
    have hf := finB_of HZ.out
    have e : putT t (z1, z2) n = some (t.1 ++ [(z1, z2)], t.2 ++ [n]) := by unfold putT; rw [ha]; simp only []; rw [if_pos hf]
    have HE := Lib.hid e
    have HV := Lib.hid (HT.out.put ⟨HZ.out.1.1, HZ.out.2.1⟩ (by rw [← HLP.out]; exact hl) e).1
    clear ha hf e
    refine (onlyValid_true _ true _ _ _ _ HG2.out.hasTab HV.out).mono ?_
    rintro _ w6 ⟨rfl, s6⟩
    have HG3 := Lib.hid (HG2.out.span s6)
    clear s6 HV
    obtain ⟨c0, c1, c2, c3, c4, c5⟩ := HG3.out.cells
    have HR := Lib.hid (HG3.out.result (by omega) (by omega))
    have HB := Lib.hid (box_stored (u' := .slice A3 (t.1.length + 1) q3) (v' := .slice A4 (t.2.length + 1) q4) HG3.out.r)
    go_wp2_with fail
    refine bodyPost_ret (v := .tuple #[.agg #[.slice A3 (t.1.length + 1) q3, .slice A4 (t.2.length + 1) q4], .bool true]) (by simp [results, Try.results14, go_sem, HB.out.1, HB.out.2]) rfl ?_
    rw [HE.out]
    exact ⟨⟨_, rfl, HR.out.1⟩, HR.out.2⟩
end
section
open Go.RowKit Go.Sort

theorem ownsRow_holds {α : Type} [Inhabited α] {val : α → Value} {w : World} {B g cap : Nat} {e : TypeId} {xs : List α} (h : w.ownsRow B e 1 (.slice (some ⟨g, 0, none⟩) xs.length cap) xs.length (xs.map val)) : Holds val w g 0 xs.toArray := by
  intro j hj
  have hj' : j < xs.length := by simpa using hj
  refine ⟨?_, h.frozenAt _⟩
  rw [Nat.zero_add, h.cellAt j (by omega), List.getElem?_map, List.getElem?_eq_getElem hj']
  simp [hj']

/-- The row without its element i, and a zero behind it. -/
def cutRow {α : Type} (xs : List α) (i : Nat) (zr : α) : Array α := (xs.take i ++ xs.drop (i + 1) ++ List.replicate 1 zr).toArray

theorem cutRow_size {α : Type} {xs : List α} {i : Nat} (zr : α) (hi : i < xs.length) : (cutRow xs i zr).size = xs.length := by
  simp [cutRow]; omega

theorem span_putRow {α : Type} [Inhabited α] {val : α → Value} (w : World) (g off q : Nat) (D : Array α) : Span g (g + 1) w (putRow val (Sort.ahead w q) g off D) := by
  refine ⟨rfl, rfl, rfl, by simp, fun k _ hk => ?_⟩
  unfold putRow mapBlock
  simp only [heap_ahead, Array.getElem?_modify]
  rw [if_neg (by omega)]

theorem del_row {α : Type} [Inhabited α] {val : α → Value} {w : World} {B g cap : Nat} {e : TypeId} {xs : List α} (h : w.ownsRow B e 1 (.slice (some ⟨g, 0, none⟩) xs.length cap) xs.length (xs.map val)) {i : Nat} (hi : i < xs.length) (q : Nat) (zr : α) :
    HasS val true g g (g + 1) (putRow val (Sort.ahead w q) g 0 (cutRow xs i zr)) (.slice (some ⟨g, 0, none⟩) (xs.length - 1) cap) (xs.eraseIdx i) := by
  have hl : (xs.eraseIdx i).length = xs.length - 1 := List.length_eraseIdx_of_lt hi
  have hg := (h.lt g rfl).2
  have hcap : xs.length ≤ cap := by
    rcases h.2 with ⟨e, _⟩ | ⟨g', cap', cur, e, _, _, hc, _⟩
    · cases e
    · injection e with _ _ e3; omega
  have hH := holds_putRow val (Sort.ahead w q) g 0 xs.toArray (cutRow xs i zr) (holds_ahead val w q g 0 _ (ownsRow_holds h)) (by rw [cutRow_size zr hi]; simp)
  refine ⟨_, cap, by rw [hl], by omega, fun _ => ⟨0, rfl, Nat.le_refl _, Nat.lt_succ_self _, by simpa using hg, fun j x hj => ?_, fun _ j hj => ?_⟩⟩
  · have hjl := (List.getElem?_eq_some_iff.1 hj).1
    rw [hl] at hjl
    have hjs : j < (cutRow xs i zr).size := by rw [cutRow_size zr hi]; omega
    rw [(hH j hjs).1, getElem!_pos (cutRow xs i zr) j hjs]
    congr 2
    have : (cutRow xs i zr)[j]? = some x := by
      unfold cutRow
      rw [List.getElem?_toArray, ← List.eraseIdx_eq_take_drop_succ, List.getElem?_append_left (by rw [hl]; exact hjl)]
      exact hj
    rw [Array.getElem?_eq_getElem hjs] at this
    injection this
  · rw [hl] at hj
    exact (hH j (by rw [cutRow_size zr hi]; omega)).2

theorem deleteC_own (xs : List Cx) (i B g cap : Nat) (w : World) (h : w.ownsRow B 28 1 (.slice (some ⟨g, 0, none⟩) xs.length cap) xs.length (xs.map cxV)) (hi : i < xs.length) :
    Calls Try.prog 58 #[.slice (some ⟨g, 0, none⟩) xs.length cap, .int .i64 (i : Int), .int .i64 ((i : Int) + 1)] w fun e w' =>
      e = .returned (.slice (some ⟨g, 0, none⟩) (xs.length - 1) cap) ∧ HasS cxV true g g (g + 1) w' (.slice (some ⟨g, 0, none⟩) (xs.length - 1) cap) (xs.eraseIdx i) ∧ Span g (g + 1) w w' := by
  obtain ⟨ip, hip, _, hsp, _⟩ := info_parts info_c64
  have hcap : xs.length ≤ cap ∧ cap ≤ maxLen := by
    rcases h.2 with ⟨e, _⟩ | ⟨g', cap', cur, e, _, _, hc, hc2, _⟩
    · cases e
    · injection e with _ _ e3; omega
  have C := Try.slices_DeleteC cxV (fun _ => rfl) (0, 0) Try.zeroValue28 ip hip hsp g 0 cap i (i + 1) xs.toArray w (ownsRow_holds h) (by simpa using hcap.1) (by have := hcap.2; unfold maxLen at this; omega) (by omega) (by rw [List.size_toArray]; exact hi)
  have e1 : i + 1 - i = 1 := by omega
  simp only [e1, List.size_toArray] at C
  have e2 : ((i + 1 : Nat) : Int) = (i : Int) + 1 := by omega
  rw [e2] at C
  refine C.mono ?_
  rintro e w' ⟨rfl, q, rfl⟩
  exact ⟨rfl, del_row h hi q (0, 0), span_putRow w g 0 q _⟩

theorem deleteI_own (xs : List Int) (i B g cap : Nat) (w : World) (h : w.ownsRow B 3 1 (.slice (some ⟨g, 0, none⟩) xs.length cap) xs.length (xs.map intV)) (hi : i < xs.length) :
    Calls Try.prog 59 #[.slice (some ⟨g, 0, none⟩) xs.length cap, .int .i64 (i : Int), .int .i64 ((i : Int) + 1)] w fun e w' =>
      e = .returned (.slice (some ⟨g, 0, none⟩) (xs.length - 1) cap) ∧ HasS intV true g g (g + 1) w' (.slice (some ⟨g, 0, none⟩) (xs.length - 1) cap) (xs.eraseIdx i) ∧ Span g (g + 1) w w' := by
  obtain ⟨ip, hip, _, hsp, _⟩ := info_parts info_int
  have hcap : xs.length ≤ cap ∧ cap ≤ maxLen := by
    rcases h.2 with ⟨e, _⟩ | ⟨g', cap', cur, e, _, _, hc, hc2, _⟩
    · cases e
    · injection e with _ _ e3; omega
  have C := Try.slices_Delete intV (fun _ => rfl) 0 Try.zeroValue3 ip hip hsp g 0 cap i (i + 1) xs.toArray w (ownsRow_holds h) (by simpa using hcap.1) (by have := hcap.2; unfold maxLen at this; omega) (by omega) (by rw [List.size_toArray]; exact hi)
  have e1 : i + 1 - i = 1 := by omega
  simp only [e1, List.size_toArray] at C
  have e2 : ((i + 1 : Nat) : Int) = (i : Int) + 1 := by omega
  rw [e2] at C
  refine C.mono ?_
  rintro e w' ⟨rfl, q, rfl⟩
  exact ⟨rfl, del_row h hi q 0, span_putRow w g 0 q _⟩
end
section
open Go.RowKit

/-- A table without its point i. -/
def dropT (t : Tab) (i : Nat) : Tab := (t.1.eraseIdx i, t.2.eraseIdx i)

theorem Valid.drop {t : Tab} (h : Valid t) (i : Nat) : Valid (dropT t i) := by
  refine ⟨?_, ?_, fun z hz => h.fin z (List.mem_of_mem_eraseIdx hz), List.Pairwise.sublist (List.eraseIdx_sublist _ _) h.apart⟩
  · show (t.2.eraseIdx i).length = (t.1.eraseIdx i).length
    rw [List.length_eraseIdx, List.length_eraseIdx, h.len]
  · show (t.1.eraseIdx i).length ≤ 64
    have := h.most
    rw [List.length_eraseIdx]
    split <;> omega

theorem drop_gone {t : Tab} (h : Valid t) {z : Cx} (hz : finC z) {i : Nat} (hi : atC t.1 z = some i) : labelT (dropT t i) z = none := by
  have : atC (dropT t i).1 z = none := by
    rw [atC_none]
    intro p hp
    have hp' : p ∈ t.1 := List.mem_of_mem_eraseIdx hp
    rw [eqC_fin (h.fin p hp') hz, decide_eq_false_iff_not]
    intro hk
    obtain ⟨j, hj⟩ := List.mem_iff_getElem?.1 hp
    obtain ⟨p0, hp0, _⟩ := atC_some hi
    have hj2 : (t.1.eraseIdx i)[j]? = some p := hj
    rw [List.getElem?_eraseIdx] at hj2
    by_cases hji : j < i
    · rw [if_pos hji] at hj2
      have := (atC_key h.fin h.apart hz hj2).2 hk
      rw [hi] at this; injection this with this; omega
    · rw [if_neg hji] at hj2
      have := (atC_key h.fin h.apart hz hj2).2 hk
      rw [hi] at this; injection this with this; omega
  unfold labelT; rw [this]; rfl

set_option maxRecDepth 100000 in
set_option maxHeartbeats 4000000 in
theorem impl_dropPoint (t : Tab) (z : Cx) (i : Nat) (hi : atC t.1 z = some i) (o : Bool) (lo hh : Nat) (v : Value) (w : World) (hx : HasTab o lo hh w v t) (ht : Valid t) (hz : finC z) :
    Calls Try.prog 17 #[v, .complex .f32 z.1 z.2] w (GivesTab (some (dropT t i)) w) := by
  have HX := Lib.hid hx
  have HT := Lib.hid ht
  have HZ := Lib.hid hz
  have HI := Lib.hid hi
  obtain ⟨b1, b2, vP, vL, rfl, hne, g1, g2⟩ := hx
  have G1 := Lib.hid g1
  obtain ⟨AP, cP, rfl, _, _⟩ := g1
  obtain ⟨AL, cL, rfl, _, _⟩ := g2
  have hm : t.1.length ≤ 64 := ht.most
  obtain ⟨lp, hlp⟩ : ∃ n, n = t.1.length := ⟨_, rfl⟩
  have hll : lp = t.2.length := by rw [ht.len]; exact hlp
  have HLP := Lib.hid hlp
  have HLL := Lib.hid hll
  have hil : i < lp := by rw [hlp]; exact atC_lt hi
  have HM : Hid (t.1.length ≤ 4194304) := by unfold Hid; omega
  rw [← hlp] at HX G1 hm
  rw [← hll] at HX
  rw [← hlp, ← hll]
  clear hlp hll ht hi hz
  obtain ⟨z1, z2⟩ := z
  simp only
  have X0 := Lib.hid ((Box.new w (.slice AP lp cP) (.slice AL lp cL) 26).alloc (.cells #[.slice none 0 0, .slice none 0 0] 26))
  have X1 := Lib.hid (Box.new (w.alloc (.cells #[.slice AP lp cP, .slice AL lp cL] 26)) (.slice none 0 0) (.slice none 0 0) 26)
  rw [show (w.alloc (.cells #[.slice AP lp cP, .slice AL lp cL] 26)).heap.size = w.heap.size + 1 by simp] at X1
  have HS := Lib.hid ((((Span.refl 0 0 w).alloc (.cells #[.slice AP lp cP, .slice AL lp cL] 26))).alloc (.cells #[.slice none 0 0, .slice none 0 0] 26))
  go_enter Try.func17, Try.ntmps17
  go_wp2_with fail
  refine (impl_isTable_true t o lo hh _ _ (HX.out.span HS.out (.inl (Nat.le_refl _))) HT.out).mono ?_
  rintro _ w1 ⟨rfl, s1⟩
  have Y0 := X0.out.span s1 (.inl (Nat.le_refl _))
  have Y1 := Lib.hid (X1.out.span s1 (.inl (Nat.le_refl _)))
  have S1 := Lib.hid (s1.after HS.out)
  obtain ⟨_, x0, x1, _, _⟩ := Y0
  clear s1
  go_wp2_with fail
  refine (placeIn_any t.1 (z1, z2) (fun p hp => eqC_sym (HT.out.fin p hp) HZ.out) o b1 lo hh _ _ (G1.out.span S1.out (.inl (Nat.le_refl _))) HM.out).mono ?_
  rintro _ _ ⟨rfl, rfl⟩
  rw [HI.out]
  simp only [placeZ]
  have i0 : (0 : Int) ≤ (i : Int) := by omega
  have i1 : (i : Int) < (lp : Int) := by omega
  have i2 : (lp : Int) ≤ 64 := by omega
  go_wp2_with fail
  refine (copyTable_own t o lo hh _ _ (HX.out.span S1.out (.inl (Nat.le_refl _))) HT.out.len HM.out).mono ?_
  rintro _ w2 ⟨A1, q1, A2, q2, rfl, hp, hl2, s2⟩
  obtain ⟨g1, cap1, hv1, hgb1, hgl1⟩ := hp.form (by rw [← HLP.out]; omega)
  obtain ⟨g2, cap2, hv2, hgb2, hgl2⟩ := hl2.form (by rw [← HLL.out]; omega)
  injection hv1 with e1 _ e2
  injection hv2 with e3 _ e4
  subst e1 e2 e3 e4
  have hg12 : g1 ≠ g2 := by
    rcases owns_apart hp hl2 (by decide) with h | h
    · cases h
    · intro e; exact h (by rw [e]; rfl)
  rw [← HLP.out, ← HLL.out]
  have hz1 : w.heap.size + 1 < w1.heap.size := Y1.out.1
  have S2 := Lib.hid ((s2.after S1.out).alloc (.cells #[.slice (some ⟨g1, 0, none⟩) lp q1, .slice (some ⟨g2, 0, none⟩) lp q2] 26))
  have Y2 := Lib.hid ((Y1.out.span s2 (.inl (Nat.le_refl _))).alloc (.cells #[.slice (some ⟨g1, 0, none⟩) lp q1, .slice (some ⟨g2, 0, none⟩) lp q2] 26))
  have HP := Lib.hid (hp.alloc (.cells #[.slice (some ⟨g1, 0, none⟩) lp q1, .slice (some ⟨g2, 0, none⟩) lp q2] 26))
  have HL := Lib.hid (hl2.alloc (.cells #[.slice (some ⟨g1, 0, none⟩) lp q1, .slice (some ⟨g2, 0, none⟩) lp q2] 26))
  have G2 := Lib.hid (Box.new w2 (.slice (some ⟨g1, 0, none⟩) lp q1) (.slice (some ⟨g2, 0, none⟩) lp q2) 26)
  have HG12 := Lib.hid hg12
  have HB1 := Lib.hid hgb1
  have HB2 := Lib.hid hgb2
  have HL1 := Lib.hid hgl1
  have HL2 := Lib.hid hgl2
  clear s2 hp hl2 x0 x1 hg12 hgb1 hgb2 hgl1 hgl2
  go_wp2_with fail
  obtain ⟨G, hG⟩ : ∃ G, G = w2.heap.size := ⟨_, rfl⟩
  rw [← hG] at G2 HL1 HL2 ⊢
  have HGW : Hid (w1.heap.size ≤ G) := by unfold Hid; have := HB1.out; have := HL1.out; omega
  generalize w2.alloc (.cells #[.slice (some ⟨g1, 0, none⟩) lp q1, .slice (some ⟨g2, 0, none⟩) lp q2] 26) = w3 at *
  have C1 : Hid (∀ w', w'.ownsRow w1.heap.size 28 1 (.slice (some ⟨g1, 0, none⟩) lp q1) lp (t.1.map cxV) → Calls Try.prog 58 #[.slice (some ⟨g1, 0, none⟩) lp q1, .int .i64 (i : Int), .int .i64 ((i : Int) + 1)] w' fun e w'' =>
      e = .returned (.slice (some ⟨g1, 0, none⟩) (lp - 1) q1) ∧ HasS cxV true g1 g1 (g1 + 1) w'' (.slice (some ⟨g1, 0, none⟩) (lp - 1) q1) (t.1.eraseIdx i) ∧ Span g1 (g1 + 1) w' w'') := by
    unfold Hid; rw [HLP.out]; exact fun w' h => deleteC_own t.1 i _ g1 q1 w' h (by rw [← HLP.out]; exact hil)
  have C2 : Hid (∀ w', w'.ownsRow w1.heap.size 3 1 (.slice (some ⟨g2, 0, none⟩) lp q2) lp (t.2.map intV) → Calls Try.prog 59 #[.slice (some ⟨g2, 0, none⟩) lp q2, .int .i64 (i : Int), .int .i64 ((i : Int) + 1)] w' fun e w'' =>
      e = .returned (.slice (some ⟨g2, 0, none⟩) (lp - 1) q2) ∧ HasS intV true g2 g2 (g2 + 1) w'' (.slice (some ⟨g2, 0, none⟩) (lp - 1) q2) (t.2.eraseIdx i) ∧ Span g2 (g2 + 1) w' w'') := by
    unfold Hid; rw [HLL.out]; exact fun w' h => deleteI_own t.2 i _ g2 q2 w' h (by rw [← HLL.out]; exact hil)
  rw [← HLP.out] at HP
  rw [← HLL.out] at HL
  have HL' : Hid (∀ w', Span g1 (g1 + 1) w3.drew w' → w'.ownsRow w1.heap.size 3 1 (.slice (some ⟨g2, 0, none⟩) lp q2) lp (t.2.map intV)) := fun w' sp =>
    HL.out.kept (row := some g1) ⟨sp.os, sp.tape, sp.output, sp.size, fun k hk hne => sp.block k hk (fun h => hne (by congr 1; omega))⟩ (.inr (by intro h; injection h with h; exact HG12.out h.symm))
  clear HS X0 X1 S1 hG
  have hYR := Y2.out.1
  have HYR := Lib.hid hYR
  have HGR : Hid (w.heap.size + 1 < G) := Nat.lt_of_lt_of_le hz1 HGW.out
  clear hYR
  obtain ⟨_, y0, y1, _, _⟩ := G2.out
  have hwr : IntKind.i64.wrap ((i : Int) + 1) = (i : Int) + 1 := IntWalk.i64_in _ (by omega)
  go_region_held3 (fun w' => w'.cell? ⟨G, 0, none⟩ = some (.slice (some ⟨g1, 0, none⟩) lp q1) ∧ w'.cell? ⟨G, 1, none⟩ = some (.slice (some ⟨g2, 0, none⟩) lp q2))
    (first
      | exact ⟨y0, y1⟩
      | exact ⟨k0, k1⟩
      | exact ⟨j0, j1⟩
      | exact ⟨m0, m1⟩)
    ((first
      | (go_at_call 58; (with_reducible refine (C1.out _ HP.out.drew).mono ?_); rintro _ w4 ⟨rfl, h4, s4⟩; obtain ⟨_, k0, k1, _, _⟩ := (G2.out.drewN 1).span s4 (.inr (.inr HL1.out)); have H4 := Lib.hid h4; have S4 := Lib.hid s4; clear h4 s4)
      | (go_at_call 59; (with_reducible refine (C2.out _ (HL'.out _ S4.out)).mono ?_); rintro _ w5 ⟨rfl, h5, s5⟩; obtain ⟨_, j0, j1, _, _⟩ := ((G2.out.drewN 1).span S4.out (.inr (.inr HL1.out))).span s5 (.inr (.inr HL2.out))
         have R5 := ((Y2.out.drewN 1).span S4.out (.inr (.inl (by have := HB1.out; omega)))).span s5 (.inr (.inl (by have := HB2.out; omega)))
         obtain ⟨_, r0, r1, r2, r3⟩ := id R5
         have HBX := Lib.hid (box_stored (u' := .slice (some ⟨g1, 0, none⟩) (lp - 1) q1) (v' := .slice (some ⟨g2, 0, none⟩) (lp - 1) q2) R5)
         have sp5 : Span (w.heap.size + 1) (w.heap.size + 1 + 1) w5 ((w5.setCell ⟨w.heap.size + 1, 0, none⟩ (.slice (some ⟨g1, 0, none⟩) (lp - 1) q1)).setCell ⟨w.heap.size + 1, 1, none⟩ (.slice (some ⟨g2, 0, none⟩) (lp - 1) q2)) :=
           ((Span.refl _ _ w5).setCell (p := ⟨w.heap.size + 1, 0, none⟩) (.inl ⟨Nat.le_refl _, Nat.lt_succ_self _⟩) _).setCell (p := ⟨w.heap.size + 1, 1, none⟩) (.inl ⟨Nat.le_refl _, Nat.lt_succ_self _⟩) _
         obtain ⟨_, m0, m1, _, _⟩ := (((G2.out.drewN 1).span S4.out (.inr (.inr HL1.out))).span s5 (.inr (.inr HL2.out))).span sp5 (.inr (.inr HGR.out))
         have H4' := Lib.hid (((H4.out.span s5 (.inr (.inr (.inr (by have := HG12.out; omega))))).span sp5 (.inr (.inr (.inl (by have := HB1.out; omega))))).weak (lo' := w.heap.size) (hi' := w5.heap.size) (by have := HB1.out; omega) (.inr (by simp [World.setCell])))
         have H5' := Lib.hid ((h5.span sp5 (.inr (.inr (.inl (by have := HB2.out; omega))))).weak (lo' := w.heap.size) (hi' := w5.heap.size) (by have := HB2.out; omega) (.inr (by simp [World.setCell])))
         have SS : Hid (Span 0 0 w ((w5.setCell ⟨w.heap.size + 1, 0, none⟩ (.slice (some ⟨g1, 0, none⟩) (lp - 1) q1)).setCell ⟨w.heap.size + 1, 1, none⟩ (.slice (some ⟨g2, 0, none⟩) (lp - 1) q2))) :=
           ⟨(sp5.os.trans (s5.os.trans (S4.out.os.trans S2.out.os))), (sp5.tape.trans (s5.tape.trans (S4.out.tape.trans S2.out.tape))), (sp5.output.trans (s5.output.trans (S4.out.output.trans S2.out.output))),
             Nat.le_trans S2.out.size (Nat.le_trans S4.out.size (Nat.le_trans s5.size sp5.size)), fun k hk hn => by
               have h1 := S2.out.size
               have h2 : w3.heap.size ≤ w4.heap.size := S4.out.size
               have h3 := s5.size
               have hb1 := HB1.out
               have hb2 := HB2.out
               have hk3 : k < w3.drew.heap.size := by show k < w3.heap.size; omega
               rw [sp5.block k (by omega) (by omega), s5.block k (by omega) (by omega), S4.out.block k hk3 (by omega)]
               exact S2.out.block k hk hn⟩
         clear sp5
         clear h5 s5 R5)))
  have HLE1 : Hid ((t.1.eraseIdx i).length = lp - 1) := by unfold Hid; rw [List.length_eraseIdx_of_lt (by rw [← HLP.out]; exact hil), ← HLP.out]
  have HLE2 : Hid ((t.2.eraseIdx i).length = lp - 1) := by unfold Hid; rw [List.length_eraseIdx_of_lt (by rw [← HLL.out]; exact hil), ← HLL.out]
  go_wp2_with fail
  refine bodyPost_ret (v := .tuple #[.agg #[.slice (some ⟨g1, 0, none⟩) (lp - 1) q1, .slice (some ⟨g2, 0, none⟩) (lp - 1) q2], .bool true]) (by simp [results, Try.results17, go_sem, HBX.out.1, HBX.out.2]) rfl ⟨⟨_, rfl, ?_⟩, SS.out⟩
  have hsz : ((w5.setCell ⟨w.heap.size + 1, 0, none⟩ (.slice (some ⟨g1, 0, none⟩) (lp - 1) q1)).setCell ⟨w.heap.size + 1, 1, none⟩ (.slice (some ⟨g2, 0, none⟩) (lp - 1) q2)).heap.size = w5.heap.size := by simp [World.setCell]
  rw [hsz]
  exact ⟨g1, g2, _, _, rfl, HG12.out, H4'.out, H5'.out⟩
end
section
open Go.RowKit Ieee

theorem key_bound : ∃ K : Int, 0 < K ∧ ∀ x, rungOf Ieee.single x < 2139095040 → -K < keyX x ∧ keyX x < K := by
  obtain ⟨P, hP⟩ : ∃ P, P = 2 ^ 253 := ⟨_, rfl⟩
  have hP1 : 0 < P := by rw [hP]; exact Nat.two_pow_pos _
  refine ⟨((16777216 * P : Nat) : Int) + 1, by omega, fun x hx => ?_⟩
  obtain ⟨kept, E, hu, _, hk, _, hE⟩ := split_rung hx
  have h1 : 2 ^ E ≤ P := by rw [hP]; exact Nat.pow_le_pow_right (by decide) hE
  have h2 : kept * 2 ^ E ≤ 16777216 * P := Nat.mul_le_mul (by omega) h1
  unfold keyX
  rw [hu]
  generalize kept * 2 ^ E = U at *
  generalize 16777216 * P = V at *
  unfold sgn
  split <;> omega

theorem order_key : ∃ k : Nat → Int, ∀ x y, nanB .f32 x = false → nanB .f32 y = false → FloatKind.f32.format.order x y = some (compare (k x) (k y)) := by
  obtain ⟨K, hK, hb⟩ := key_bound
  refine ⟨fun x => if rungOf Ieee.single x = 2139095040 then (if negOf Ieee.single x then -K else K) else keyX x, fun x y hx hy => ?_⟩
  have hnx : rungOf Ieee.single x ≤ 2139095040 := by
    rcases Nat.lt_or_ge 2139095040 (rungOf Ieee.single x) with h | h
    · rw [nan_of_rung h] at hx; cases hx
    · exact h
  have hny : rungOf Ieee.single y ≤ 2139095040 := by
    rcases Nat.lt_or_ge 2139095040 (rungOf Ieee.single y) with h | h
    · rw [nan_of_rung h] at hy; cases hy
    · exact h
  simp only
  by_cases ex : rungOf Ieee.single x = 2139095040
  · have rx := read_inf Ieee.single (b := x) s_eb (by rw [s_inf]; exact ex)
    rw [if_pos ex]
    by_cases ey : rungOf Ieee.single y = 2139095040
    · have ry := read_inf Ieee.single (b := y) s_eb (by rw [s_inf]; exact ey)
      rw [if_pos ey]
      show (Ieee.single.read x).order (Ieee.single.read y) = _
      rw [rx, ry]
      cases negOf Ieee.single x <;> cases negOf Ieee.single y
      · show some (compare 0 0) = some (compare K K)
        rw [(cmp_eq (a := K) (b := K)).2 rfl]; rfl
      · show some (compare 1 0) = some (compare K (-K))
        rw [cmp_gt.2 (by omega : -K < K)]; rfl
      · show some (compare 0 1) = some (compare (-K) K)
        rw [cmp_lt.2 (by omega : -K < K)]; rfl
      · show some (compare 1 1) = some (compare (-K) (-K))
        rw [(cmp_eq (a := -K) (b := -K)).2 rfl]; rfl
    · rw [if_neg ey]
      obtain ⟨n, g, ry, _⟩ := read_fin Ieee.single (b := y) (by rw [s_inf]; omega)
      have h := order_inf_left (f := Ieee.single) (x := x) (y := y) rx ⟨_, _, _, ry⟩
      have h' : FloatKind.f32.format.order x y = _ := h
      obtain ⟨b1, b2⟩ := hb y (by omega)
      rw [h']
      cases negOf Ieee.single x
      · show some Ordering.gt = some (compare K (keyX y))
        rw [cmp_gt.2 b2]
      · show some Ordering.lt = some (compare (-K) (keyX y))
        rw [cmp_lt.2 b1]
  · rw [if_neg ex]
    obtain ⟨b1, b2⟩ := hb x (by omega)
    by_cases ey : rungOf Ieee.single y = 2139095040
    · have ry := read_inf Ieee.single (b := y) s_eb (by rw [s_inf]; exact ey)
      rw [if_pos ey]
      obtain ⟨n, g, rx, _⟩ := read_fin Ieee.single (b := x) (by rw [s_inf]; omega)
      have h := order_inf_right (f := Ieee.single) (x := x) (y := y) ⟨_, _, _, rx⟩ ry
      have h' : FloatKind.f32.format.order x y = _ := h
      rw [h']
      cases negOf Ieee.single y
      · show some Ordering.lt = some (compare (keyX x) K)
        rw [cmp_lt.2 b2]
      · show some Ordering.gt = some (compare (keyX x) (-K))
        rw [cmp_gt.2 b1]
    · rw [if_neg ey]
      exact order_rung Ieee.single (by rw [s_inf]; omega) (by rw [s_inf]; omega)

theorem order_turn {a b m : Nat} (ha : nanB .f32 a = false) (hb : nanB .f32 b = false) (hm : nanB .f32 m = false) (h1 : FloatKind.f32.format.order a m ≠ some .lt) (h2 : FloatKind.f32.format.order b m = some .lt) :
    FloatKind.f32.format.order a b ≠ some .lt ∧ FloatKind.f32.format.order a b ≠ some .eq := by
  obtain ⟨k, hk⟩ := order_key
  rw [hk a m ha hm] at h1
  rw [hk b m hb hm, Option.some.injEq, cmp_lt] at h2
  rw [hk a b ha hb]
  simp only [ne_eq, Option.some.injEq, cmp_lt, cmp_eq] at h1 ⊢
  omega

/-- What is known of the nearest among the first n points. -/
def NearTo (Q : List Cx) (z : Cx) (n : Nat) (s : Option (Nat × Nat)) : Prop :=
  match s with
  | none => ∀ j q, j < n → Q[j]? = some q → nanB .f32 (distC q z) = true
  | some (i, m) => i < n ∧ (∃ p, Q[i]? = some p ∧ distC p z = m) ∧ nanB .f32 m = false ∧
      ∀ j q, j < n → Q[j]? = some q → nanB .f32 (distC q z) = false → FloatKind.f32.format.order (distC q z) m ≠ some .lt ∧ (j < i → FloatKind.f32.format.order (distC q z) m ≠ some .eq)

theorem nearTo_take (Q : List Cx) (z : Cx) : ∀ n, n ≤ Q.length → NearTo Q z n (nearC (Q.take n) z)
  | 0, _ => by
    show NearTo Q z 0 (nearC (Q.take 0) z)
    rw [List.take_zero]
    intro j q hj
    omega
  | n + 1, hn => by
    have ih := nearTo_take Q z n (by omega)
    obtain ⟨p, hp⟩ := getElem?_some (xs := Q) (j := n) (by omega)
    rw [take_snoc_of hp, nearC_snoc, List.length_take, Nat.min_eq_left (by omega)]
    generalize nearC (Q.take n) z = s at *
    unfold nearStep
    cases hnan : nanB .f32 (distC p z) with
    | true =>
      rw [if_pos rfl]
      cases s with
      | none =>
        intro j q hj hq
        by_cases e : j = n
        · subst e; rw [hp] at hq; cases hq; exact hnan
        · exact ih j q (by omega) hq
      | some im =>
        obtain ⟨i, m⟩ := im
        obtain ⟨h1, h2, h3, h4⟩ := ih
        refine ⟨by omega, h2, h3, fun j q hj hq hqn => ?_⟩
        by_cases e : j = n
        · subst e; rw [hp] at hq; cases hq; rw [hnan] at hqn; cases hqn
        · exact h4 j q (by omega) hq hqn
    | false =>
      rw [if_neg (by simp)]
      cases s with
      | none =>
        refine ⟨by omega, ⟨p, hp, rfl⟩, hnan, fun j q hj hq hqn => ?_⟩
        by_cases e : j = n
        · subst e
          rw [hp] at hq; cases hq
          refine ⟨?_, fun h => absurd h (by omega)⟩
          rw [order_self, hnan]; simp
        · have := ih j q (by omega) hq
          rw [this] at hqn; cases hqn
      | some im =>
        obtain ⟨i, m⟩ := im
        obtain ⟨h1, h2, h3, h4⟩ := ih
        simp only
        by_cases ho : FloatKind.f32.format.order (distC p z) m = some .lt
        · rw [if_pos (by rw [ho]; rfl)]
          refine ⟨by omega, ⟨p, hp, rfl⟩, hnan, fun j q hj hq hqn => ?_⟩
          by_cases e : j = n
          · subst e
            rw [hp] at hq; cases hq
            refine ⟨?_, fun h => absurd h (by omega)⟩
            rw [order_self, hnan]; simp
          · obtain ⟨g1, _⟩ := h4 j q (by omega) hq hqn
            obtain ⟨t1, t2⟩ := order_turn hqn hnan h3 g1 ho
            exact ⟨t1, fun _ => t2⟩
        · rw [if_neg (by simpa using ho)]
          refine ⟨by omega, h2, h3, fun j q hj hq hqn => ?_⟩
          by_cases e : j = n
          · subst e; rw [hp] at hq; cases hq
            exact ⟨ho, fun h => absurd h (by omega)⟩
          · exact h4 j q (by omega) hq hqn

theorem nearC_to (Q : List Cx) (z : Cx) : NearTo Q z Q.length (nearC Q z) := by
  have := nearTo_take Q z Q.length (Nat.le_refl _)
  rw [List.take_length] at this
  exact this

set_option maxHeartbeats 400000 in
theorem spec_distanceOf (a b : Cx) (w : World) : Calls Try.prog 20 #[.complex .f32 a.1 a.2, .complex .f32 b.1 b.2] w (GivesF w .f32 (distC a b)) := by
  obtain ⟨a1, a2⟩ := a
  obtain ⟨b1, b2⟩ := b
  simp only
  go_enter Try.func20, Try.ntmps20
  go_wp2
  go_ret
  refine ⟨_, _, rfl, rfl, ?_⟩
  unfold distC
  repeat' first | exact FE.refl _ _ | refine FE.arC _ ?_ ?_

/-- A nearest point is told. -/
def TellsN (s : Option (Nat × Nat)) (w : World) (e : Ending) (w' : World) : Prop := e = .returned (.tuple #[.int .i64 (((s.map (·.1)).getD 0 : Nat) : Int), .bool s.isSome]) ∧ Span 0 0 w w'

set_option maxRecDepth 100000 in
set_option maxHeartbeats 1000000 in
theorem impl_nearestPoint (t : Tab) (z : Cx) (o : Bool) (lo hi : Nat) (v : Value) (w : World) (hx : HasTab o lo hi w v t) (ht : Valid t) :
    Calls Try.prog 19 #[v, .complex .f32 z.1 z.2] w (TellsN (nearC t.1 z) w) := by
  have HX := Lib.hid hx
  have HT := Lib.hid ht
  obtain ⟨b1, b2, vP, vL, rfl, hne, g1, g2⟩ := hx
  have G1 := Lib.hid g1
  obtain ⟨AP, cP, rfl, _, _⟩ := g1
  obtain ⟨AL, cL, rfl, _, _⟩ := g2
  have HM : Hid (t.1.length ≤ 4194304) := Nat.le_trans ht.most (by omega)
  obtain ⟨lp, hlp⟩ : ∃ n, n = t.1.length := ⟨_, rfl⟩
  have hll : lp = t.2.length := by rw [ht.len]; exact hlp
  rw [← hlp] at HX G1
  rw [← hll] at HX
  rw [← hlp, ← hll]
  clear hlp hll ht
  have X0 := Lib.hid (Box.new w (.slice AP lp cP) (.slice AL lp cL) 26)
  have HS := Lib.hid ((Span.refl 0 0 w).alloc (.cells #[.slice AP lp cP, .slice AL lp cL] 26))
  obtain ⟨z1, z2⟩ := z
  simp only
  go_enter Try.func19, Try.ntmps19
  go_wp2_with fail
  refine (impl_isTable_true t o lo hi _ _ (HX.out.span HS.out (.inl (Nat.le_refl _))) HT.out).mono ?_
  rintro _ w1 ⟨rfl, s1⟩
  obtain ⟨_, x0, x1, _, _⟩ := X0.out.span s1 (.inl (Nat.le_refl _))
  have S1 := Lib.hid (s1.after HS.out)
  clear s1
  go_wp2_with fail
  refine (nearestIn_any t.1 (z1, z2) o b1 lo hi _ _ (G1.out.span S1.out (.inl (Nat.le_refl _))) HM.out).mono ?_
  rintro _ _ ⟨n, rfl, rfl⟩
  go_wp2_with fail
  go_ret2
  exact ⟨rfl, S1.out.drewN _⟩
end
end Go.Proofs.Ythcccliiokckjaa
