/- Racks' literals: rows and boxes, world by world. The law FnHeld. -/
import Derived.Test.YtkjlodoppmipfaaGreatJh42
import Derived.Test.YtkjlodoppmipfaaGreatJh44
import Derived.Outline
import Derived.Test.YtkjlodoppmipfaaGreatJh51
import Derived.Test.YtkjlodoppmipfaaGreatJh2
import Derived.Deep.DeepCutAuto
import Derived.Deep.MidRow
import Derived.BigQuiet
namespace Go.Proofs.YtkjlodoppmipfaaGreat
section
open Go.RowKit

theorem HasC.made {α : Type} {fl : α → List Value} {s : Nat} (hf : ∀ x, (fl x).length = s) (L : List α) (w : World) (t : TypeId) (b : Nat) (hb : b = w.heap.size) : HasC s fl b 0 (w.heap.size + 1) (w.alloc (.cells (flatG fl L).toArray t)) (.slice (some ⟨b, 0, none⟩) L.length L.length) L := by
  subst hb
  refine ⟨_, L.length, rfl, Nat.le_refl _, fun hp => ⟨0, rfl, Nat.zero_le _, Nat.lt_succ_self _, by simp, fun j x i u hj hi => ?_⟩⟩
  have hi' : i < s := by have := (List.getElem?_eq_some_iff.1 hi).1; rw [hf] at this; exact this
  rw [World.cell?_alloc_new, Nat.zero_add, List.getElem?_toArray, flatG_get hf L j x i hj hi']
  exact hi
theorem Bx.made (w : World) (us : Array Value) (t : TypeId) (b : Nat) (hb : b = w.heap.size) : Bx b us (w.alloc (.cells us t)) := by subst hb; exact Bx.new ..
theorem Bx.d {b : Nat} {us : Array Value} {w : World} (h : Bx b us w) : Bx b us w.drew := h
theorem HasC.d {α : Type} {s : Nat} {fl : α → List Value} {b : Nat} {w : World} {v : Value} {L : List α} (h : HasC s fl b 0 w.heap.size w v L) : HasC s fl b 0 w.drew.heap.size w.drew v L := h
theorem HasC.a {α : Type} {s : Nat} {fl : α → List Value} {b : Nat} {w : World} {v : Value} {L : List α} (h : HasC s fl b 0 w.heap.size w v L) (o : Obj) : HasC s fl b 0 (w.alloc o).heap.size (w.alloc o) v L := (h.keep ((Span.refl 0 0 w).alloc o)).weak (Nat.le_refl _) (.inl (by simp))
theorem HasC.k {α : Type} {s : Nat} {fl : α → List Value} {b : Nat} {w w' : World} {v : Value} {L : List α} (h : HasC s fl b 0 w.heap.size w v L) (k : Span 0 0 w w') : HasC s fl b 0 w'.heap.size w' v L := (h.keep k).weak (Nat.le_refl _) (.inl k.size)
theorem HasC.st {α : Type} {s : Nat} {fl : α → List Value} {b B i : Nat} {w : World} {v : Value} {L : List α} (h : HasC s fl b 0 w.heap.size w v L) (u : Value) (hne : B ≠ b) : HasC s fl b 0 (w.setCell ⟨B, i, none⟩ u).heap.size (w.setCell ⟨B, i, none⟩ u) v L := (h.span (setSpan B i u w) (by omega)).weak (Nat.le_refl _) (.inl (setSpan B i u w).size)
theorem HasC.m {α : Type} {fl : α → List Value} {s : Nat} (hf : ∀ x, (fl x).length = s) (L : List α) (w : World) (t : TypeId) (b : Nat) (hb : b = w.heap.size) : HasC s fl b 0 (w.alloc (.cells (flatG fl L).toArray t)).heap.size (w.alloc (.cells (flatG fl L).toArray t)) (.slice (some ⟨b, 0, none⟩) L.length L.length) L := (HasC.made hf L w t b hb).weak (Nat.le_refl _) (.inl (by simp))
/-- A new row of structs, at the beginning of a block. -/
def RowAt {α : Type} (s : Nat) (fl : α → List Value) (Ls : List α) (n : Nat) (w : World) (v : Value) : Prop := ∃ b, v = .slice (some ⟨b, 0, none⟩) n n ∧ HasC s fl b 0 w.heap.size w v Ls
theorem RowAt.k {α : Type} {s : Nat} {fl : α → List Value} {Ls : List α} {n : Nat} {w w' : World} {v : Value} (h : RowAt s fl Ls n w v) (k : Span 0 0 w w') : RowAt s fl Ls n w' v := by
  obtain ⟨b, rfl, h⟩ := h
  exact ⟨b, rfl, h.k k⟩
end
section
open Go.RowKit

theorem Below.of_spanH {w w' : World} (h : Span 0 0 w w') : Below w.heap.size w w' := ⟨h.os, h.tape, h.output, h.size, fun k hk => h.block k hk (by omega)⟩
theorem newDelayH (n : Nat) (h1 : 1 ≤ n) (h2 : n ≤ 16) (w : World) : Calls Tryz.prog 16 #[.int .i64 (n : Int)] w fun e w' => ∃ Ad pd bd, e = .returned (.tuple #[.agg #[.int .i64 4, .complex .f32 0 0, .complex .f32 0 0, .float .f32 0, .slice Ad n pd, .int .i64 0, .int .i64 (n : Int), .slice none 0 0, .slice none 0 0, .int .i64 0, .int .i64 0], .bool true]) ∧ HasS cxV true bd w.heap.size w'.heap.size w' (.slice Ad n pd) (List.replicate n (0, 0)) ∧ Span 0 0 w w' := by
  have hd : delayO (n : Int) = some ⟨4, (0, 0), (0, 0), 0, ⟨List.replicate n (0, 0), 0, n⟩, 0, 0⟩ := by
    unfold delayO
    rw [if_pos (by omega), Int.toNat_natCast]
  have h := impl_newDelay (n : Int) w
  rw [hd] at h
  refine h.mono ?_
  rintro _ w' ⟨v, rfl, ⟨b, vS, rfl, hs⟩, s⟩
  have hs' : HasS cxV true b w.heap.size w'.heap.size w' vS (List.replicate n (0, 0)) := hs
  obtain ⟨A, p, rfl, -, -⟩ := id hs'
  rw [List.length_replicate] at hs' ⊢
  exact ⟨A, p, b, rfl, hs', s⟩
theorem own_readsH {w : World} {base : Nat} {v : Value} {n : Nat} {xs : List Cx} (h : w.ownsRow base 23 1 v n (xs.map cxV)) (h0 : 0 < w.heap.size) : ∃ b, HasS cxV true b 0 w.heap.size w v xs ∧ b < w.heap.size := by
  obtain ⟨b, h1, _⟩ := ownsRow_hasS h
  by_cases hp : 0 < xs.length
  · obtain ⟨_, _, _, _, hc⟩ := id h1
    obtain ⟨_, _, _, _, h3, _⟩ := hc hp
    exact ⟨b, h1.weak (Nat.zero_le _) (.inl (Nat.le_refl _)), h3⟩
  · have : xs = [] := List.eq_nil_of_length_eq_zero (by omega)
    subst this
    obtain ⟨A, c, rfl, _, _⟩ := h1
    exact ⟨0, HasS.empty .., h0⟩
theorem Bx.range {b : Nat} {cs : List Value} {w : World} (h : Bx b cs.toArray w) : w.rangeAt b 0 cs := fun j v hv => by
  rw [Nat.zero_add, h.cells j, List.getElem?_toArray]; exact hv

set_option maxRecDepth 100000 in
set_option maxHeartbeats 8000000 in
theorem law_held (A : Option Addr) (n c : Nat) (w : World) (h : HasBy w.heap.size w A n) : Calls Tryz.prog 4 #[.slice A n c] w (Says w) := by
  by_cases hn : n ≤ 1048576
  · have HN := Lib.hid hn
    have HBy := Lib.hid h
    have hn' : (n : Int) ≤ 1048576 := by omega
    clear h hn
    go_enter Tryz.func4, Tryz.ntmps4
    go_wp2_with fail
    refine (makeSamples_any 40 (by decide) (by decide) A n c w HN.out HBy.out).mono ?_
    rintro _ w1 ⟨v, xs, rfl, hl, hx, ho, hb⟩
    obtain ⟨AX, cX, rfl⟩ := ownsRow_slice ho
    have S1 : Hid (Span 0 0 w w1) := Span.of_below hb
    have HO := Lib.hid ho
    have HX := Lib.hid hx
    have HL := Lib.hid hl
    have il : (xs.length : Int) ≤ 40 := by omega
    clear ho hx hl hb
    go_wp2_with fail
    refine (at_any w.heap.size A n c 1 w1 (by omega) (by omega) HN.out (HBy.out.below (Below.of_spanH S1.out))).mono ?_
    rintro _ _ ⟨⟨v1, rfl, v10, v11⟩, rfl⟩
    obtain ⟨nn, hnn, n1, n9⟩ : ∃ nn : Nat, 1 + v1 % 9 = (nn : Int) ∧ 1 ≤ nn ∧ nn ≤ 9 := ⟨(1 + v1 % 9).toNat, by omega, by omega, by omega⟩
    have HNN := Lib.hid (And.intro n1 n9)
    have in1 : (1 : Int) ≤ (nn : Int) := by omega
    have in9 : (nn : Int) ≤ 9 := by omega
    clear n1 n9
    go_wp2_with fail
    try rw [hnn]
    clear hnn
    refine (at_any w.heap.size A n c 2 w1 (by omega) (by omega) HN.out (HBy.out.below (Below.of_spanH S1.out))).mono ?_
    rintro _ _ ⟨⟨v2, rfl, v20, v21⟩, rfl⟩
    obtain ⟨kk, hkk, k1, k9⟩ : ∃ kk : Nat, 1 + v2 % 9 = (kk : Int) ∧ 1 ≤ kk ∧ kk ≤ 9 := ⟨(1 + v2 % 9).toNat, by omega, by omega, by omega⟩
    have HKK := Lib.hid (And.intro k1 k9)
    have ik1 : (1 : Int) ≤ (kk : Int) := by omega
    have ik9 : (kk : Int) ≤ 9 := by omega
    clear k1 k9
    go_wp2_with fail
    try rw [hkk]
    clear hkk v10 v11 v20 v21
    refine (newHoldH (nn : Int) ⟨by omega, by omega⟩ _).mono ?_
    rintro _ w2 ⟨rfl, s2⟩
    have S2 := Lib.hid (S1.out.trans s2)
    have S12 := Lib.hid s2
    clear s2
    go_wp2_with fail
    have B1 : Hid (Bx w2.heap.size (Mw.l (mHold nn)).toArray (w2.alloc (.cells (Mw.l (mHold nn)).toArray 32))) := Bx.new ..
    have S3 : Hid (Span 0 0 w1 (w2.alloc (.cells (Mw.l (mHold nn)).toArray 32))) := S12.out.alloc _
    refine (newDelayH kk HKK.out.1 (by have := HKK.out.2; omega) _).mono ?_
    rintro _ w4 ⟨Ad, pd, bd, rfl, hring, s4⟩
    have HRG := Lib.hid hring
    have S4 : Hid (Span 0 0 w1 w4) := S3.out.trans s4
    have B2 : Hid (Bx w2.heap.size (Mw.l (mHold nn)).toArray w4) := B1.out.keep s4
    have Z4 : Hid (w2.heap.size < w4.heap.size) := B2.out.1
    clear hring s4 B1 S3
    obtain ⟨D1, hD1⟩ : ∃ t, t = w2.heap.size := ⟨_, rfl⟩
    rw [← hD1] at B2 Z4
    rw [← hD1]
    clear hD1
    go_upto_region 8 with fail
    have B3 : Hid (Bx w4.heap.size (Mw.l (mDl kk Ad pd)).toArray (w4.alloc (.cells (Mw.l (mDl kk Ad pd)).toArray 32))) := Bx.new ..
    have B4 : Hid (Bx D1 (Mw.l (mHold nn)).toArray (w4.alloc (.cells (Mw.l (mDl kk Ad pd)).toArray 32))) := B2.out.alloc _
    have S5 : Hid (Span 0 0 w1 (w4.alloc (.cells (Mw.l (mDl kk Ad pd)).toArray 32))) := S4.out.alloc _
    have HR5 : Hid (HasS cxV true bd 0 (w4.alloc (.cells (Mw.l (mDl kk Ad pd)).toArray 32)).heap.size (w4.alloc (.cells (Mw.l (mDl kk Ad pd)).toArray 32)) (.slice Ad kk pd) (List.replicate kk (0, 0))) := (HRG.out.alloc _).weak (Nat.zero_le _) (.inl (by simp))
    obtain ⟨D2, hD2⟩ : ∃ t, t = w4.heap.size := ⟨_, rfl⟩
    rw [← hD2] at B3
    rw [← hD2]
    change Code.wp _ _ _ _ (w4.alloc (.cells (Mw.l (mDl kk Ad pd)).toArray 32))
    have Z5 : Hid (D1 < D2 ∧ D2 < (w4.alloc (.cells (Mw.l (mDl kk Ad pd)).toArray 32)).heap.size) := ⟨by have := Z4.out; omega, by simp; omega⟩
    clear hD2 B2 HRG Z4 S12
    generalize w4.alloc (.cells (Mw.l (mDl kk Ad pd)).toArray 32) = wA at *
    clear S4
    go_wp2_with (first
      | (refine wpList_load_mid rfl 32 (.tmp 6) rfl D1 0 rfl (Mw.l (mHold nn)) _ B4.out.range Tryz.underlying32 rfl (by kernel_rfl) ?_)
      | (refine wpList_load_mid rfl 32 (.tmp 8) rfl D2 0 rfl (Mw.l (mDl kk Ad pd)) _ B3.out.range Tryz.underlying32 rfl (by kernel_rfl) ?_)
      | (refine wpList_plain rfl (fun K hK => wp_buildSlice2 (x := .tmp 42) (y := .tmp 43) rfl (.agg (Mw.l (mHold nn)).toArray) (.agg (Mw.l (mDl kk Ad pd)).toArray) rfl rfl (flatG Mw.l [mHold nn, mDl kk Ad pd]) Tryz.underlying34 info_mod (by decide) (by decide) rfl rfl rfl (hK _ _ ?_))))
    have HM := ((HasC.m (fl := Mw.l) (s := 11) (fun _ => rfl) [mHold nn, mDl kk Ad pd] wA 32 _ rfl).a (.cells #[.int .i64 0, .int .i64 1] 42)).a (.cells #[.slice (some ⟨wA.heap.size, 0, none⟩) 2 2, .slice (some ⟨wA.heap.size + 1, 0, none⟩) 1 1] 37)
    have HCB : HasC 2 cabC (wA.heap.size + 1) 0 ((wA.alloc (.cells (flatG Mw.l [mHold nn, mDl kk Ad pd]).toArray 32)).alloc (.cells #[.int .i64 0, .int .i64 1] 42)).heap.size ((wA.alloc (.cells (flatG Mw.l [mHold nn, mDl kk Ad pd]).toArray 32)).alloc (.cells #[.int .i64 0, .int .i64 1] 42)) (.slice (some ⟨wA.heap.size + 1, 0, none⟩) 1 1) [(0, 1)] := HasC.m (fl := cabC) (s := 2) (fun _ => rfl) [(0, 1)] (wA.alloc (.cells (flatG Mw.l [mHold nn, mDl kk Ad pd]).toArray 32)) 42 (wA.heap.size + 1) (by simp)
    have HCB := HCB.a (.cells #[.slice (some ⟨wA.heap.size, 0, none⟩) 2 2, .slice (some ⟨wA.heap.size + 1, 0, none⟩) 1 1] 37)
    have BR := Bx.new ((wA.alloc (.cells (flatG Mw.l [mHold nn, mDl kk Ad pd]).toArray 32)).alloc (.cells #[.int .i64 0, .int .i64 1] 42)) #[.slice (some ⟨wA.heap.size, 0, none⟩) 2 2, .slice (some ⟨wA.heap.size + 1, 0, none⟩) 1 1] 37
    rw [show ((wA.alloc (.cells (flatG Mw.l [mHold nn, mDl kk Ad pd]).toArray 32)).alloc (.cells #[.int .i64 0, .int .i64 1] 42)).heap.size = wA.heap.size + 2 by simp] at BR
    have S6 := (((Span.refl 0 0 wA).alloc (.cells (flatG Mw.l [mHold nn, mDl kk Ad pd]).toArray 32)).alloc (.cells #[.int .i64 0, .int .i64 1] 42)).alloc (.cells #[.slice (some ⟨wA.heap.size, 0, none⟩) 2 2, .slice (some ⟨wA.heap.size + 1, 0, none⟩) 1 1] 37)
    have HM := Lib.hid HM
    have HCB := Lib.hid HCB
    have BR := Lib.hid BR
    have S6 := Lib.hid S6
    generalize ((wA.alloc (.cells (flatG Mw.l [mHold nn, mDl kk Ad pd]).toArray 32)).alloc (.cells #[.int .i64 0, .int .i64 1] 42)).alloc (.cells #[.slice (some ⟨wA.heap.size, 0, none⟩) 2 2, .slice (some ⟨wA.heap.size + 1, 0, none⟩) 1 1] 37) = wB at *
    have S1B := Lib.hid (S5.out.trans S6.out)
    obtain ⟨bM, hbM⟩ : ∃ t, t = wA.heap.size := ⟨_, rfl⟩
    rw [← hbM] at HM HCB BR
    rw [← hbM]
    clear hbM
    have HRB := Lib.hid ((HR5.out.span S6.out (.inl (Nat.le_refl _))).weak (Nat.le_refl _) (.inl S6.out.size))
    have RK := Lib.hid (show RkAt wB bM (bM + 1) 0 wB.heap.size (some ⟨bM, 0, none⟩) 2 2 (some ⟨bM + 1, 0, none⟩) 1 1 [mHold nn, mDl kk Ad pd] [(0, 1)] from ⟨HM.out, HCB.out, by decide, fun x hx => by
      simp only [List.mem_cons, List.not_mem_nil, or_false] at hx
      rcases hx with rfl | rfl
      · exact okM_hold HNN.out.1 (by have := HNN.out.2; omega) _
      · exact fun w' s => isModule_delay (List.replicate kk (0, 0)) 0 kk pd Ad (by simp) (rgS_ok (fun _ => (0, 0)) HKK.out.1 (by have := HKK.out.2; omega) 0) true bd _ _ w' (HRB.out.span s (.inl (Nat.le_refl _))), fun x hx => by
      simp only [List.mem_cons, List.not_mem_nil, or_false] at hx
      subst hx; decide⟩)
    obtain ⟨bX, hsX, hbX⟩ := own_readsH (ownsRow_keep HO.out S1B.out) (Nat.lt_of_le_of_lt (Nat.zero_le _) BR.out.1)
    have HSX := Lib.hid hsX
    have HBX := Lib.hid hbX
    obtain ⟨V, hVd⟩ : ∃ V : Nat → Cx, V = fun r => xs.getD r (0, 0) := ⟨_, rfl⟩
    have HV := Lib.hid hVd
    have R1 : Hid (∀ w', Span 0 0 wB w' → Calls Tryz.prog 11 #[.agg #[.slice (some ⟨bM, 0, none⟩) 2 2, .slice (some ⟨bM + 1, 0, none⟩) 1 1], .agg #[.int .i64 0, .int .i64 0], .slice AX xs.length cX, .int .i64 (xs.length : Int)] w' (RanRel 2 1 xs.length [(0, 1)] (fun i y => Like (hV nn V i) y) (fun _ _ => True) w')) := fun w' s => by
      have h := run_held (w := w') HNN.out.1 (by have := HNN.out.2; omega) HKK.out.1 (by have := HKK.out.2; omega) (RK.out.keep s) (HRB.out.span s (.inl (Nat.le_refl _))) xs (by have := HL.out; omega) HX.out 0 (by decide) true bX 0 _ _ (Nat.lt_of_lt_of_le HBX.out s.size) (HSX.out.span s (.inl (Nat.le_refl _))) xs.length (by have := HL.out; omega)
      rw [← HV.out] at h
      exact h
    obtain ⟨M, hM⟩ : ∃ M, M = xs.length + kk := ⟨_, rfl⟩
    have HMM := Lib.hid hM
    have iM : (xs.length : Int) + (kk : Int) = (M : Int) := by omega
    have R2 : Hid (∀ w', Span 0 0 wB w' → Calls Tryz.prog 11 #[.agg #[.slice (some ⟨bM, 0, none⟩) 2 2, .slice (some ⟨bM + 1, 0, none⟩) 1 1], .agg #[.int .i64 0, .int .i64 1], .slice AX xs.length cX, .int .i64 (M : Int)] w' (RanRel 2 1 M [(0, 1)] (fun i y => Like (dV nn kk V i) y) (fun _ _ => True) w')) := fun w' s => by
      have h := run_held (w := w') HNN.out.1 (by have := HNN.out.2; omega) HKK.out.1 (by have := HKK.out.2; omega) (RK.out.keep s) (HRB.out.span s (.inl (Nat.le_refl _))) xs (by have := HL.out; omega) HX.out 1 (by decide) true bX 0 _ _ (Nat.lt_of_lt_of_le HBX.out s.size) (HSX.out.span s (.inl (Nat.le_refl _))) M (by have := HL.out; have := HMM.out; have := HKK.out.2; omega)
      rw [← HV.out] at h
      exact h
    clear hsX hbX hVd hM HM HCB HRB RK HO B3 B4 HR5 S5 Z5
    refine (R1.out _ (Span.refl ..)).mono ?_
    rintro _ w6 ⟨b1, g1, bC1, Ns1, A1, q1, ys, rfl, hyl, hyY, -, -, -, -, -, -, hy1, s1⟩
    have HYL := Lib.hid (And.intro hyl hyY)
    have br := BR.out.keep s1
    have r1 := br.cells
    have r2 := br.cellsA
    have HY1 := Lib.hid hy1
    have T1 := Lib.hid s1
    clear hyl hyY hy1 s1 br
    go_wp2_with fail
    refine (R2.out _ (T1.out.alloc _)).mono ?_
    rintro _ w7 ⟨b2, g2, bC2, Ns2, A2, q2, zs, rfl, hzl, hzY, -, -, -, -, -, -, hz1, s2⟩
    have HZL := Lib.hid (And.intro hzl hzY)
    have SF := Lib.hid ((T1.out.alloc (.cells #[.slice (some ⟨b1, 0, none⟩) 2 2, .slice A1 1 q1] 37)).trans s2)
    have HYF := Lib.hid ((HY1.out.alloc (.cells #[.slice (some ⟨b1, 0, none⟩) 2 2, .slice A1 1 q1] 37)).span s2 (.inl (Nat.le_refl _)))
    have HZF := Lib.hid hz1
    clear hzl hzY hz1 s2 r1 r2
    go_wp2_with fail
    have SG := Lib.hid (SF.out.alloc (.cells #[.slice (some ⟨b2, 0, none⟩) 2 2, .slice A2 1 q2] 37))
    have HYG := Lib.hid (HYF.out.alloc (.cells #[.slice (some ⟨b2, 0, none⟩) 2 2, .slice A2 1 q2] 37))
    have HZG := Lib.hid (HZF.out.alloc (.cells #[.slice (some ⟨b2, 0, none⟩) 2 2, .slice A2 1 q2] 37))
    generalize w7.alloc (.cells #[.slice (some ⟨b2, 0, none⟩) 2 2, .slice A2 1 q2] 37) = w8 at *
    clear HYF HZF SF R1 R2 T1 HY1
    go_loopw [102] (fun q wr => ∃ i : Nat, i ≤ xs.length ∧ q = .int .i64 i ∧ Span 0 0 w8 wr) (fun q _ => xs.length - (intOf q).toNat)
    case atStart => exact ⟨0, Nat.zero_le _, rfl, Span.refl ..⟩
    case round =>
      obtain ⟨i, hi, rfl, hs⟩ := hrel
      have HS := Lib.hid hs
      by_cases hlt : i < xs.length
      · have hnp : 0 < nn := HNN.out.1
        obtain ⟨t, ht⟩ : ∃ t, t = i % nn := ⟨_, rfl⟩
        obtain ⟨j, hj⟩ : ∃ j, j = i - t := ⟨_, rfl⟩
        have htn : t < nn := by rw [ht]; exact Nat.mod_lt _ hnp
        have hti : t ≤ i := by rw [ht]; exact Nat.mod_le _ _
        have m1 : (i : Int) % (nn : Int) = (t : Int) := by rw [ht]; rfl
        have m2 : (i : Int).tmod (nn : Int) = (t : Int) := by rw [Int.tmod_eq_emod_of_nonneg (by omega)]; exact m1
        have m3 : (i : Int) - (t : Int) = (j : Int) := by omega
        obtain ⟨q, hq⟩ : ∃ q, q = i + kk := ⟨_, rfl⟩
        have m4 : (i : Int) + (kk : Int) = (q : Int) := by omega
        have m5 : IntKind.i64.wrap (q : Int) = (q : Int) := by rw [IntKind.wrap_i64]; omega
        have m6 : IntKind.i64.wrap ((i : Int) + (kk : Int)) = (q : Int) := by rw [m4]; exact m5
        have hnz : ¬ (nn : Int) = 0 := by omega
        obtain ⟨⟨x1, x2⟩, hx⟩ := getElem?_some (xs := xs) (j := j) (by omega)
        obtain ⟨⟨y1, y2⟩, hy⟩ := getElem?_some (xs := ys) (j := i) (by rw [HYL.out.1]; exact hlt)
        obtain ⟨⟨z1, z2⟩, hz⟩ := getElem?_some (xs := zs) (j := q) (by rw [HZL.out.1]; have := HMM.out; omega)
        obtain ⟨off, hoff, -, -, -⟩ := HSX.out.addrT (by omega)
        subst hoff
        have d0 : wr.cell? ⟨bX, off + j, none⟩ = some (.complex .f32 x1 x2) := (HSX.out.span (SG.out.trans hs) (.inl (Nat.le_refl _))).atJ hx
        have d1 : wr.cell? ⟨g1, i, none⟩ = some (.complex .f32 y1 y2) := by have := (HYG.out.span hs (.inl (Nat.le_refl _))).atJ hy; rwa [Nat.zero_add] at this
        have d2 : wr.cell? ⟨g2, q, none⟩ = some (.complex .f32 z1 z2) := by have := (HZG.out.span hs (.inl (Nat.le_refl _))).atJ hz; rwa [Nat.zero_add] at this
        have ehV : hV nn V i = (x1, x2) := by
          unfold hV
          rw [← ht, ← hj, HV.out]
          show xs.getD j (0, 0) = _
          rw [List.getD_eq_getElem?_getD, hx]; rfl
        have LY : Like (x1, x2) (y1, y2) := by have := HYL.out.2 i _ hy; rwa [ehV] at this
        have LZ : Like (x1, x2) (z1, z2) := by
          have h := HZL.out.2 q _ hz
          unfold dV at h
          rw [if_neg (by omega), hq, Nat.add_sub_cancel, ehV] at h
          exact h
        have HLT := Lib.hid hlt
        have i0 : (0 : Int) ≤ (i : Int) := by omega
        have i1 : (i : Int) < (xs.length : Int) := by omega
        have i2 : (0 : Int) ≤ (j : Int) := by omega
        have i3 : (j : Int) < (xs.length : Int) := by omega
        have i5 : (q : Int) < (M : Int) := by omega
        have i6 : (0 : Int) ≤ (q : Int) := by omega
        clear hx hy hz hq ht hj htn hti hnp ehV hs hi hlt
        cases hn1 : nanB .f32 x1 with
        | true =>
          have o1 := fun a => order_nan_right (k := .f32) (x := a) hn1
          clear hn1 LY LZ
          go_wp2_with fail
          go_roundw
          case rel => exact ⟨i + 1, HLT.out, by go_num, HS.out⟩
          case measure => have := HLT.out; simp [intOf]; omega
        | false =>
          cases hn2 : nanB .f32 x2 with
          | true =>
            have o1 := fun a => order_nan_right (k := .f32) (x := a) hn2
            clear hn1 hn2 LY LZ
            go_wp2_with fail
            go_roundw
            case rel => exact ⟨i + 1, HLT.out, by go_num, HS.out⟩
            case measure => have := HLT.out; simp [intOf]; omega
          | false =>
            obtain ⟨-, o1, o2⟩ := LY hn1 hn2
            obtain ⟨-, o3, o4⟩ := LZ hn1 hn2
            simp only at o1 o2 o3 o4
            clear hn1 hn2 LY LZ
            go_wp2_with fail
            go_roundw
            case rel => exact ⟨i + 1, HLT.out, by go_num, HS.out⟩
            case measure => have := HLT.out; simp [intOf]; omega
      · have hil : i = xs.length := by omega
        subst hil
        clear hi hlt
        go_wp2_with fail
        go_ret
        exact ⟨rfl, Below.of_spanH (S1.out.trans ((S1B.out.trans SG.out).trans hs))⟩
  · have hn' : (1048576 : Int) < (n : Int) := by omega
    go_enter Tryz.func4, Tryz.ntmps4
    go_wp2_with fail
    go_ret
    exact ⟨rfl, Below.refl _ _⟩
end
end Go.Proofs.YtkjlodoppmipfaaGreat
