/- The law FnAdded. -/
import Derived.Test.YtpiiflhdllpoiaaJq43
import Derived.Test.YtpiiflhdllpoiaaJq46
import Derived.Test.YtpiiflhdllpoiaaJq47
import Derived.Test.YtpiiflhdllpoiaaJq10
import Derived.Test.YtpiiflhdllpoiaaJq3
import Derived.Deep.RegionHeld3
import Derived.Deep.DeepCutAuto
import Derived.Outline
namespace Go.Proofs.Ytpiiflhdllpoiaa
open Go.RowKit

theorem newDelayK_one (w : World) : Calls Try.prog 7 #[.int .i64 1] w fun e w' => ∃ Ad pd bd, e = .returned (.tuple #[.agg #[.int .i64 4, .complex .f32 0 0, .complex .f32 0 0, .float .f32 0, .slice Ad 1 pd, .int .i64 0, .int .i64 1, .slice none 0 0, .slice none 0 0, .int .i64 0, .int .i64 0], .bool true]) ∧ HasS cxV true bd w.heap.size w'.heap.size w' (.slice Ad 1 pd) [(0, 0)] ∧ Span 0 0 w w' := by
  refine (impl_newDelay 1 w).mono ?_
  rintro _ w' ⟨v, rfl, ⟨b, vS, rfl, h⟩, s⟩
  obtain ⟨A, p, rfl, -, -⟩ := id h
  exact ⟨A, p, b, rfl, h, s⟩

/-- The rack of a sum and a delay, in a box. -/
def LoopBox (A : Option Addr) (p : Nat) (w : World) (v : Value) (w' : World) : Prop :=
  ∃ B bM bC, v = .pointer (some ⟨B, 0, none⟩) ∧ Bx B #[.slice (some ⟨bM, 0, none⟩) 2 2, .slice (some ⟨bC, 0, none⟩) 2 2] w' ∧ HasC 11 Mw.l bM 0 w'.heap.size w' (.slice (some ⟨bM, 0, none⟩) 2 2) (loopMs A p) ∧ HasC 2 cabC bC 0 w'.heap.size w' (.slice (some ⟨bC, 0, none⟩) 2 2) loopCs ∧ Span 0 0 w w'
def sumV : Value := .agg #[.int .i64 5, .complex .f32 0 0, .complex .f32 0 0, .float .f32 0, .slice none 0 0, .int .i64 0, .int .i64 0, .slice none 0 0, .slice none 0 0, .int .i64 0, .int .i64 0]
def del1V (Ad : Option Addr) (pd : Nat) : Value := .agg #[.int .i64 4, .complex .f32 0 0, .complex .f32 0 0, .float .f32 0, .slice Ad 1 pd, .int .i64 0, .int .i64 1, .slice none 0 0, .slice none 0 0, .int .i64 0, .int .i64 0]
def AddI (wA : World) (Ad : Option Addr) (pd : Nat) (L : Nat → Bool) (u : Nat → Value) (w : World) : Prop :=
  Span 0 0 wA w ∧ (L 0 = true → u 26 = sumV) ∧ (L 1 = true → u 27 = del1V Ad pd) ∧ (L 2 = true → L 8 = false → RowAt 11 Mw.l (loopMs Ad pd) 2 w (u 28)) ∧ (L 3 = true → u 29 = .agg #[.int .i64 0, .int .i64 1]) ∧ (L 4 = true → u 30 = .agg #[.int .i64 1, .int .i64 0]) ∧
  (L 5 = true → L 8 = false → RowAt 2 cabC loopCs 2 w (u 31)) ∧ (L 6 = true → L 8 = false → ∃ m c, u 32 = .agg #[m, c] ∧ RowAt 11 Mw.l (loopMs Ad pd) 2 w m ∧ RowAt 2 cabC loopCs 2 w c) ∧
  (L 7 = true → L 8 = false → ∃ B, u 6 = .pointer (some ⟨B, 0, none⟩) ∧ wA.heap.size ≤ B ∧ Bx B #[.slice none 0 0, .slice none 0 0] w) ∧ (L 8 = true → LoopBox Ad pd wA (u 6) w)
theorem LoopBox.k {A : Option Addr} {p : Nat} {wA w w' : World} {v : Value} (h : LoopBox A p wA v w) (s : Span 0 0 w w') : LoopBox A p wA v w' := by
  obtain ⟨B, bM, bC, e, h1, h2, h3, h4⟩ := h
  exact ⟨B, bM, bC, e, h1.keep s, h2.k s, h3.k s, h4.trans s⟩
section
variable {wA w w' : World} {Ad : Option Addr} {pd : Nat} {L : Nat → Bool} {u : Nat → Value}
theorem AddI.s0 (h : AddI wA Ad pd L u w) (s : Span 0 0 w w') : AddI wA Ad pd (fun j => L j || j == 0) (updO u (some 26) sumV) w' := by
  obtain ⟨sp, k0, k1, k2, k3, k4, k5, k6, k7, k8⟩ := h
  refine ⟨sp.trans s, fun _ => rfl, fun h => k1 (by simpa using h), fun h h8 => (k2 (by simpa using h) (by simpa using h8)).k s, fun h => k3 (by simpa using h), fun h => k4 (by simpa using h), fun h h8 => (k5 (by simpa using h) (by simpa using h8)).k s, fun h h8 => ?_, fun h h8 => ?_, fun h => (k8 (by simpa using h)).k s⟩
  · obtain ⟨m, c, e, g1, g2⟩ := k6 (by simpa using h) (by simpa using h8)
    exact ⟨m, c, e, g1.k s, g2.k s⟩
  · obtain ⟨B, e, g1, g2⟩ := k7 (by simpa using h) (by simpa using h8)
    exact ⟨B, e, g1, g2.keep s⟩
theorem AddI.s1 (h : AddI wA Ad pd L u w) : AddI wA Ad pd (fun j => L j || j == 1) (updO u (some 27) (del1V Ad pd)) w := by
  obtain ⟨sp, k0, k1, k2, k3, k4, k5, k6, k7, k8⟩ := h
  exact ⟨sp, fun h => k0 (by simpa using h), fun _ => rfl, fun h h8 => k2 (by simpa using h) (by simpa using h8), fun h => k3 (by simpa using h), fun h => k4 (by simpa using h), fun h h8 => k5 (by simpa using h) (by simpa using h8), fun h h8 => k6 (by simpa using h) (by simpa using h8), fun h h8 => k7 (by simpa using h) (by simpa using h8), fun h => k8 (by simpa using h)⟩
theorem AddI.s2 {v : Value} (h : AddI wA Ad pd L u w) (s : Span 0 0 w w') (hv : RowAt 11 Mw.l (loopMs Ad pd) 2 w' v) : AddI wA Ad pd (fun j => L j || j == 2) (updO u (some 28) v) w' := by
  obtain ⟨sp, k0, k1, k2, k3, k4, k5, k6, k7, k8⟩ := h
  refine ⟨sp.trans s, fun h => k0 (by simpa using h), fun h => k1 (by simpa using h), fun _ _ => hv, fun h => k3 (by simpa using h), fun h => k4 (by simpa using h), fun h h8 => (k5 (by simpa using h) (by simpa using h8)).k s, fun h h8 => ?_, fun h h8 => ?_, fun h => (k8 (by simpa using h)).k s⟩
  · obtain ⟨m, c, e, g1, g2⟩ := k6 (by simpa using h) (by simpa using h8)
    exact ⟨m, c, e, g1.k s, g2.k s⟩
  · obtain ⟨B, e, g1, g2⟩ := k7 (by simpa using h) (by simpa using h8)
    exact ⟨B, e, g1, g2.keep s⟩
theorem AddI.s3 (h : AddI wA Ad pd L u w) : AddI wA Ad pd (fun j => L j || j == 3) (updO u (some 29) (.agg #[.int .i64 0, .int .i64 1])) w := by
  obtain ⟨sp, k0, k1, k2, k3, k4, k5, k6, k7, k8⟩ := h
  exact ⟨sp, fun h => k0 (by simpa using h), fun h => k1 (by simpa using h), fun h h8 => k2 (by simpa using h) (by simpa using h8), fun _ => rfl, fun h => k4 (by simpa using h), fun h h8 => k5 (by simpa using h) (by simpa using h8), fun h h8 => k6 (by simpa using h) (by simpa using h8), fun h h8 => k7 (by simpa using h) (by simpa using h8), fun h => k8 (by simpa using h)⟩
theorem AddI.s4 (h : AddI wA Ad pd L u w) : AddI wA Ad pd (fun j => L j || j == 4) (updO u (some 30) (.agg #[.int .i64 1, .int .i64 0])) w := by
  obtain ⟨sp, k0, k1, k2, k3, k4, k5, k6, k7, k8⟩ := h
  exact ⟨sp, fun h => k0 (by simpa using h), fun h => k1 (by simpa using h), fun h h8 => k2 (by simpa using h) (by simpa using h8), fun h => k3 (by simpa using h), fun _ => rfl, fun h h8 => k5 (by simpa using h) (by simpa using h8), fun h h8 => k6 (by simpa using h) (by simpa using h8), fun h h8 => k7 (by simpa using h) (by simpa using h8), fun h => k8 (by simpa using h)⟩
theorem AddI.s5 {v : Value} (h : AddI wA Ad pd L u w) (s : Span 0 0 w w') (hv : RowAt 2 cabC loopCs 2 w' v) : AddI wA Ad pd (fun j => L j || j == 5) (updO u (some 31) v) w' := by
  obtain ⟨sp, k0, k1, k2, k3, k4, k5, k6, k7, k8⟩ := h
  refine ⟨sp.trans s, fun h => k0 (by simpa using h), fun h => k1 (by simpa using h), fun h h8 => (k2 (by simpa using h) (by simpa using h8)).k s, fun h => k3 (by simpa using h), fun h => k4 (by simpa using h), fun _ _ => hv, fun h h8 => ?_, fun h h8 => ?_, fun h => (k8 (by simpa using h)).k s⟩
  · obtain ⟨m, c, e, g1, g2⟩ := k6 (by simpa using h) (by simpa using h8)
    exact ⟨m, c, e, g1.k s, g2.k s⟩
  · obtain ⟨B, e, g1, g2⟩ := k7 (by simpa using h) (by simpa using h8)
    exact ⟨B, e, g1, g2.keep s⟩
theorem AddI.s6 {m c : Value} (h : AddI wA Ad pd L u w) (h1 : RowAt 11 Mw.l (loopMs Ad pd) 2 w m) (h2 : RowAt 2 cabC loopCs 2 w c) : AddI wA Ad pd (fun j => L j || j == 6) (updO u (some 32) (.agg #[m, c])) w := by
  obtain ⟨sp, k0, k1, k2, k3, k4, k5, k6, k7, k8⟩ := h
  exact ⟨sp, fun h => k0 (by simpa using h), fun h => k1 (by simpa using h), fun h h8 => k2 (by simpa using h) (by simpa using h8), fun h => k3 (by simpa using h), fun h => k4 (by simpa using h), fun h h8 => k5 (by simpa using h) (by simpa using h8), fun _ _ => ⟨m, c, rfl, h1, h2⟩, fun h h8 => k7 (by simpa using h) (by simpa using h8), fun h => k8 (by simpa using h)⟩
theorem AddI.s7 {t : TypeId} (h : AddI wA Ad pd L u w) (hL : L 8 = false) : AddI wA Ad pd (fun j => L j || j == 7) (updO u (some 6) (.pointer (some ⟨w.heap.size, 0, none⟩))) (w.alloc (.cells #[.slice none 0 0, .slice none 0 0] t)) := by
  obtain ⟨sp, k0, k1, k2, k3, k4, k5, k6, k7, k8⟩ := h
  have s := (Span.refl 0 0 w).alloc (.cells #[.slice none 0 0, .slice none 0 0] t)
  refine ⟨sp.trans s, fun h => k0 (by simpa using h), fun h => k1 (by simpa using h), fun h h8 => (k2 (by simpa using h) (by simpa using h8)).k s, fun h => k3 (by simpa using h), fun h => k4 (by simpa using h), fun h h8 => (k5 (by simpa using h) (by simpa using h8)).k s, fun h h8 => ?_, fun h h8 => ⟨_, rfl, sp.size, Bx.new ..⟩, fun h => ?_⟩
  · obtain ⟨m, c, e, g1, g2⟩ := k6 (by simpa using h) (by simpa using h8)
    exact ⟨m, c, e, g1.k s, g2.k s⟩
  · simp [hL] at h
theorem AddI.s8 {B : Nat} {m c v : Value} (h : AddI wA Ad pd L u w) (hu : u 6 = .pointer (some ⟨B, 0, none⟩)) (hB : wA.heap.size ≤ B) (hb : Bx B #[.slice none 0 0, .slice none 0 0] w) (h1 : RowAt 11 Mw.l (loopMs Ad pd) 2 w m) (h2 : RowAt 2 cabC loopCs 2 w c) : AddI wA Ad pd (fun j => L j || j == 8) (updO u none v) ((w.setCell ⟨B, 0, none⟩ m).setCell ⟨B, 1, none⟩ c) := by
  obtain ⟨sp, k0, k1, k2, k3, k4, k5, k6, k7, k8⟩ := h
  obtain ⟨bM, rfl, hm⟩ := h1
  obtain ⟨bC, rfl, hc⟩ := h2
  have c0 := hb.cells 0
  have n1 : B ≠ bM := by
    intro e
    have := hm.at_ (j := 0) (i := 0) rfl rfl
    rw [← e] at this
    have h := c0.symm.trans this
    simp at h
  have n2 : B ≠ bC := by
    intro e
    have := hc.at_ (j := 0) (i := 0) rfl rfl
    rw [← e] at this
    have h := c0.symm.trans this
    simp at h
  have sp' : Span 0 0 wA ((w.setCell ⟨B, 0, none⟩ (.slice (some ⟨bM, 0, none⟩) 2 2)).setCell ⟨B, 1, none⟩ (.slice (some ⟨bC, 0, none⟩) 2 2)) := (sp.setCell (p := ⟨B, 0, none⟩) (.inr hB) _).setCell (p := ⟨B, 1, none⟩) (.inr hB) _
  refine ⟨sp', fun h => k0 (by simpa using h), fun h => k1 (by simpa using h), fun h h8 => ?_, fun h => k3 (by simpa using h), fun h => k4 (by simpa using h), fun h h8 => ?_, fun h h8 => ?_, fun h h8 => ?_, fun _ => ⟨B, bM, bC, hu, hb.set2 _ _, (hm.st _ n1).st _ n1, (hc.st _ n2).st _ n2, sp'⟩⟩
  all_goals simp at h8
end
theorem wholes_of (xs : List Cx) (hx : ∀ z ∈ xs, wholeS z) : ∃ zi : Nat → Int × Int, (∀ r, WholeC (xs.getD r (0, 0)) (zi r)) ∧ ∀ r, (zi r).1.natAbs ≤ 3 ∧ (zi r).2.natAbs ≤ 3 := by
  have hall : ∀ r, ∃ q : Int × Int, WholeC (xs.getD r (0, 0)) q ∧ q.1.natAbs ≤ 3 ∧ q.2.natAbs ≤ 3 := fun r => by
    simp only [List.getD_eq_getElem?_getD]
    cases h : xs[r]? with
    | none => exact ⟨(0, 0), wholeC_zero, by decide, by decide⟩
    | some z => exact wholeC_of (hx z (List.mem_of_getElem? h))
  exact ⟨fun r => Classical.choose (hall r), fun r => (Classical.choose_spec (hall r)).1, fun r => (Classical.choose_spec (hall r)).2⟩

set_option maxRecDepth 100000 in
set_option maxHeartbeats 8000000 in
theorem law_added (A : Option Addr) (n c : Nat) (w : World) (h : HasBy w.heap.size w A n) : Calls Try.prog 4 #[.slice A n c] w (Says w) := by
  by_cases hn : n ≤ 1048576
  · have HN := Lib.hid hn
    have HBy := Lib.hid h
    have hn' : (n : Int) ≤ 1048576 := by omega
    clear h hn
    go_enter Try.func4, Try.ntmps4
    go_wp2_with fail
    refine (makeWhole_any 30 (by decide) (by decide) A n c w HN.out HBy.out).mono ?_
    rintro _ w1 ⟨v, xs, rfl, hl, hx, ho, hb⟩
    obtain ⟨A1, q1, rfl⟩ := ownsRow_slice ho
    have S1 := Lib.hid (Span.of_below hb)
    have HL := Lib.hid hl
    have HX := Lib.hid hx
    have HO := Lib.hid ho
    have i1 : (xs.length : Int) ≤ 30 := by omega
    clear hl hx ho hb
    go_wp2_with fail
    refine (newDelayK_one _).mono ?_
    rintro _ w2 ⟨Ad, pd, bd, rfl, hd, s2⟩
    have HD := Lib.hid hd
    have S2 := Lib.hid (S1.out.trans s2)
    have S12 := Lib.hid s2
    clear hd s2
    go_upto_region 5 with fail
    have BD := Lib.hid (Bx.new w2 #[.int .i64 4, .complex .f32 0 0, .complex .f32 0 0, .float .f32 0, .slice Ad 1 pd, .int .i64 0, .int .i64 1, .slice none 0 0, .slice none 0 0, .int .i64 0, .int .i64 0] 33)
    have SD := Lib.hid ((Span.refl 0 0 w2).alloc (.cells #[.int .i64 4, .complex .f32 0 0, .complex .f32 0 0, .float .f32 0, .slice Ad 1 pd, .int .i64 0, .int .i64 1, .slice none 0 0, .slice none 0 0, .int .i64 0, .int .i64 0] 33))
    obtain ⟨D, hD⟩ : ∃ t, t = w2.heap.size := ⟨_, rfl⟩
    rw [← hD] at BD ⊢
    clear hD
    generalize w2.alloc (.cells #[.int .i64 4, .complex .f32 0 0, .complex .f32 0 0, .float .f32 0, .slice Ad 1 pd, .int .i64 0, .int .i64 1, .slice none 0 0, .slice none 0 0, .int .i64 0, .int .i64 0] 33) = wA at *
    have DW : Hid (∀ w', Span 0 0 wA w' → w'.cell? ⟨D, 0, none⟩ = some (.int .i64 4) ∧ w'.cell? ⟨D, 1, none⟩ = some (.complex .f32 0 0) ∧ w'.cell? ⟨D, 2, none⟩ = some (.complex .f32 0 0) ∧ w'.cell? ⟨D, 3, none⟩ = some (.float .f32 0) ∧ w'.cell? ⟨D, 4, none⟩ = some (.slice Ad 1 pd) ∧ w'.cell? ⟨D, 5, none⟩ = some (.int .i64 0) ∧ w'.cell? ⟨D, 6, none⟩ = some (.int .i64 1) ∧ w'.cell? ⟨D, 7, none⟩ = some (.slice none 0 0) ∧ w'.cell? ⟨D, 8, none⟩ = some (.slice none 0 0) ∧ w'.cell? ⟨D, 9, none⟩ = some (.int .i64 0) ∧ w'.cell? ⟨D, 10, none⟩ = some (.int .i64 0)) := fun w' sp => by
      have e := (BD.out.keep sp).cells
      exact ⟨e 0, e 1, e 2, e 3, e 4, e 5, e 6, e 7, e 8, e 9, e 10⟩
    go_cut [6] (fun s6 wx => LoopBox Ad pd wA s6 wx)
    case first => as_aux_lemma =>
      --R5A
      refine wp_region_inv [6, 26, 27, 28, 29, 30, 31, 32] (AddI wA Ad pd) (by kernel_rfl) (by kernel_rfl) (by kernel_rfl) ?h0 ?hstep ?hdone
      case h0 => exact ⟨(Span.refl 0 0 wA).drew, fun h => Bool.noConfusion h, fun h => Bool.noConfusion h, fun h => Bool.noConfusion h, fun h => Bool.noConfusion h, fun h => Bool.noConfusion h, fun h => Bool.noConfusion h, fun h => Bool.noConfusion h, fun h => Bool.noConfusion h, fun h => Bool.noConfusion h⟩
      case hdone =>
        rintro L u w hL ⟨-, -, -, -, -, -, -, -, -, k8⟩
        have hb := Lib.hid (k8 (hL 8 (by decide)))
        clear k8 hL
        refine norm_arg (puts_cons (by (simp only [Act.put, List.setIfInBounds_toArray, List.set_cons_zero, List.set_cons_succ]); rfl) (puts_cons (by (simp only [Act.put, List.setIfInBounds_toArray, List.set_cons_zero, List.set_cons_succ]); rfl) (puts_cons (by (simp only [Act.put, List.setIfInBounds_toArray, List.set_cons_zero, List.set_cons_succ]); rfl) (puts_cons (by (simp only [Act.put, List.setIfInBounds_toArray, List.set_cons_zero, List.set_cons_succ]); rfl) (puts_cons (by (simp only [Act.put, List.setIfInBounds_toArray, List.set_cons_zero, List.set_cons_succ]); rfl) (puts_cons (by (simp only [Act.put, List.setIfInBounds_toArray, List.set_cons_zero, List.set_cons_succ]); rfl) (puts_cons (by (simp only [Act.put, List.setIfInBounds_toArray, List.set_cons_zero, List.set_cons_succ]); rfl) (puts_cons (by (simp only [Act.put, List.setIfInBounds_toArray, List.set_cons_zero, List.set_cons_succ]); rfl) (puts_nil _ _))))))))) ?_
        go_wp2_with fail
        go_meet
        exact hb.out
      case hstep =>
        rintro i o L u w a' hcl ho hLi ha hI hag Q' K hK
        have h8f : i < 8 → L 8 = false := fun hi => by
          cases h : L 8 with
          | false => rfl
          | true =>
            have h1 := fun (e : Edge) he => hcl 8 _ rfl h e he
            have h2 : L i = true := by
              have h3 := h1 ⟨i, .phase⟩ (by rcases (show i = 0 ∨ i = 1 ∨ i = 2 ∨ i = 3 ∨ i = 4 ∨ i = 5 ∨ i = 6 ∨ i = 7 by omega) with rfl | rfl | rfl | rfl | rfl | rfl | rfl | rfl <;> simp)
              simpa [Region.binds] using h3
            rw [hLi] at h2; cases h2
        clear hcl
        have HK := Lib.hid hK
        have HI := Lib.hid hI
        obtain ⟨sp, k0, k1, k2, k3, k4, k5, k6, k7, k8⟩ := hI
        clear hK
        have f4 : a'.tmps[4]?.getD undef = .pointer (some ⟨D, 0, none⟩) := (hag.off (s := 4) (of_decide_eq_true (by kernel_rfl)) (by decide)).trans rfl
        have f6 := hag.at_ (s := 6) (of_decide_eq_true (by kernel_rfl)) (by decide)
        have f26 := hag.at_ (s := 26) (of_decide_eq_true (by kernel_rfl)) (by decide)
        have f27 := hag.at_ (s := 27) (of_decide_eq_true (by kernel_rfl)) (by decide)
        have f28 := hag.at_ (s := 28) (of_decide_eq_true (by kernel_rfl)) (by decide)
        have f29 := hag.at_ (s := 29) (of_decide_eq_true (by kernel_rfl)) (by decide)
        have f30 := hag.at_ (s := 30) (of_decide_eq_true (by kernel_rfl)) (by decide)
        have f31 := hag.at_ (s := 31) (of_decide_eq_true (by kernel_rfl)) (by decide)
        have f32 := hag.at_ (s := 32) (of_decide_eq_true (by kernel_rfl)) (by decide)
        have hi : i < 9 := (Array.getElem?_eq_some_iff.1 ho).1
        clear hag
        rcases (show i = 0 ∨ i = 1 ∨ i = 2 ∨ i = 3 ∨ i = 4 ∨ i = 5 ∨ i = 6 ∨ i = 7 ∨ i = 8 by omega) with rfl | rfl | rfl | rfl | rfl | rfl | rfl | rfl | rfl
        all_goals
          simp only [List.getElem?_toArray, List.getElem?_cons_zero, List.getElem?_cons_succ, Option.some.injEq] at ho
          subst ho
          simp [Region.binds] at ha
        · clear k0 k1 k2 k3 k4 k5 k6 k7 k8 f4 f6 f26 f27 f28 f29 f30 f31 f32 sp ha
          go_simp
          refine (newSumK_is _).mono ?_
          rintro _ w5 ⟨rfl, s5⟩
          have h := HK.out sumV w5 (HI.out.s0 s5)
          clear HK HI
          go_wp2_with fail
          exact h
        · have hc := (BD.out.keep sp).cells
          clear k0 k1 k2 k3 k4 k5 k6 k7 k8 f6 f26 f27 f28 f29 f30 f31 f32 sp ha
          go_simp
          exact HK.out (del1V Ad pd) _ HI.out.s1
        · have e26 : a'.eval (.tmp 26) = sumV := (Array.getD_eq_getD_getElem? ..).trans (f26.trans (k0 ha.1))
          have e27 : a'.eval (.tmp 27) = del1V Ad pd := (Array.getD_eq_getD_getElem? ..).trans (f27.trans (k1 ha.2))
          clear k0 k1 k2 k3 k4 k5 k6 k7 k8 f4 f6 f26 f27 f28 f29 f30 f31 f32 sp ha
          refine if_wanted rfl ?_
          refine wp_buildSlice2 (x := .tmp 26) (y := .tmp 27) rfl _ _ e26 e27 (flatG Mw.l (loopMs Ad pd)) Try.underlying38 info_mod (by decide) (by decide) rfl rfl rfl ?_
          exact HK.out _ _ (HI.out.s2 ((Span.refl 0 0 w).alloc _) ⟨_, rfl, HasC.m (fl := Mw.l) (s := 11) (fun _ => rfl) (loopMs Ad pd) w _ _ rfl⟩)
        · clear k0 k1 k2 k3 k4 k5 k6 k7 k8 f4 f6 f26 f27 f28 f29 f30 f31 f32 sp ha
          go_simp
          exact HK.out _ _ HI.out.s3
        · clear k0 k1 k2 k3 k4 k5 k6 k7 k8 f4 f6 f26 f27 f28 f29 f30 f31 f32 sp ha
          go_simp
          exact HK.out _ _ HI.out.s4
        · have e29 : a'.eval (.tmp 29) = .agg #[.int .i64 0, .int .i64 1] := (Array.getD_eq_getD_getElem? ..).trans (f29.trans (k3 ha.1))
          have e30 : a'.eval (.tmp 30) = .agg #[.int .i64 1, .int .i64 0] := (Array.getD_eq_getD_getElem? ..).trans (f30.trans (k4 ha.2))
          clear k0 k1 k2 k3 k4 k5 k6 k7 k8 f4 f6 f26 f27 f28 f29 f30 f31 f32 sp ha
          refine if_wanted rfl ?_
          refine wp_buildSlice2 (x := .tmp 29) (y := .tmp 30) rfl _ _ e29 e30 (flatG cabC loopCs) Try.underlying41 info_cab (by decide) (by decide) rfl rfl rfl ?_
          exact HK.out _ _ (HI.out.s5 ((Span.refl 0 0 w).alloc _) ⟨_, rfl, HasC.m (fl := cabC) (s := 2) (fun _ => rfl) loopCs w _ _ rfl⟩)
        · have h8 := h8f (by decide)
          obtain ⟨bM, hm, hmc⟩ := k2 ha.1 h8
          obtain ⟨bC, hc, hcc⟩ := k5 ha.2 h8
          rw [hm] at f28
          rw [hc] at f31
          rw [hm] at hmc
          rw [hc] at hcc
          have HM := Lib.hid hmc
          have HC := Lib.hid hcc
          clear k0 k1 k2 k3 k4 k5 k6 k7 k8 f4 f6 f26 f27 f29 f30 f32 sp ha hmc hcc h8f
          go_simp
          exact HK.out _ _ (HI.out.s6 (c := .slice (some ⟨bC, 0, none⟩) 2 2) ⟨_, rfl, HM.out⟩ ⟨_, rfl, HC.out⟩)
        · have h8 := h8f (by decide)
          clear k0 k1 k2 k3 k4 k5 k6 k7 k8 f4 f6 f26 f27 f28 f29 f30 f31 f32 sp ha h8f
          go_simp
          exact HK.out _ _ (HI.out.s7 h8)
        · obtain ⟨m, c, hmc, h1, h2⟩ := k6 (by simp [ha]) hLi
          obtain ⟨B, hB, hle, hb⟩ := k7 (by simp [ha]) hLi
          obtain ⟨bM, rfl, hm⟩ := id h1
          obtain ⟨bC, rfl, hc⟩ := id h2
          rw [hmc] at f32
          rw [hB] at f6
          have y := hb.cells
          have z := hb.thaw
          have H := Lib.hid (And.intro hB (And.intro hle (And.intro hb (And.intro h1 h2))))
          clear k0 k1 k2 k3 k4 k5 k6 k7 k8 f4 f26 f27 f28 f29 f30 f31 sp ha h8f h1 h2 hm hc hb hmc hB hle
          go_simp
          obtain ⟨hB, hle, hb, h1, h2⟩ := H.out
          exact HK.out undef _ (HI.out.s8 hB hle hb h1 h2)
      --R5B
    case rest =>
      obtain ⟨B, bM, bC, rfl, hB, hM, hC, sL⟩ := hcut
      have S3 := Lib.hid ((S2.out.trans SD.out).trans sL)
      have hA : Ad ≠ none := by
        obtain ⟨_, _, e, _, hc⟩ := HD.out
        obtain ⟨off, e2, _⟩ := hc (by simp)
        injection e with e1
        rw [e1, e2]; simp
      have HA := Lib.hid hA
      have HD3 := Lib.hid ((HD.out.span SD.out (.inl (Nat.le_refl _))).span sL (.inl (Nat.le_refl _)))
      have RK := Lib.hid (show RkAt wc bM bC 0 wc.heap.size (some ⟨bM, 0, none⟩) 2 2 (some ⟨bC, 0, none⟩) 2 2 (loopMs Ad pd) loopCs from ⟨hM, hC, by decide, fun x hx => by
        simp only [loopMs, List.mem_cons, List.not_mem_nil, or_false] at hx
        rcases hx with rfl | rfl
        · exact okM_sum _
        · exact okM_delay1 HD3.out, fun x hx => by
        simp only [loopCs, List.mem_cons, List.not_mem_nil, or_false] at hx
        rcases hx with rfl | rfl <;> decide⟩)
      obtain ⟨b0, hx0, hb0⟩ : ∃ b0, HasS cxV true b0 w.heap.size w1.heap.size w1 (.slice A1 xs.length q1) xs ∧ (0 < xs.length → b0 < w1.heap.size) := by
        obtain ⟨b0, h1, _⟩ := ownsRow_hasS HO.out
        refine ⟨b0, h1, fun hp => ?_⟩
        obtain ⟨_, _, _, _, hc⟩ := h1
        obtain ⟨_, _, _, _, h3, _⟩ := hc hp
        exact h3
      obtain ⟨b1, hx1, hb1⟩ : ∃ b1, HasS cxV true b1 0 wc.heap.size wc (.slice A1 xs.length q1) xs ∧ b1 < wc.heap.size := by
        have hw := (S12.out.trans SD.out).trans sL
        by_cases hp : 0 < xs.length
        · exact ⟨b0, (hx0.span hw (.inl (Nat.le_refl _))).weak (Nat.zero_le _) (.inl hw.size), Nat.lt_of_lt_of_le (hb0 hp) hw.size⟩
        · have h0 : xs = [] := List.eq_nil_of_length_eq_zero (by omega)
          subst h0
          exact ⟨B, HasS.empty .., hB.1⟩
      have HX1 := Lib.hid hx1
      have RR := Lib.hid (run_loop RK.out HD3.out xs HX.out HL.out true b1 0 wc.heap.size (.slice A1 xs.length q1) hb1 hx1)
      have HB := Lib.hid hB
      have cB := hB.cells
      clear hB hM hC sL hA hx0 hb0 hx1 hb1
      go_wp2_with fail
      refine RR.out.mono ?_
      rintro _ w3 ⟨b3, g, bC3, Ns, A3, q3, rfl, -, hg, -, -, -, -, hy, s3⟩
      have S4 := Lib.hid (S3.out.trans s3)
      have S34 := Lib.hid s3
      have HG := Lib.hid hg
      have HY := Lib.hid hy
      clear cB s3 hg hy
      go_wp2_with fail
      have S5 := Lib.hid (S34.out.alloc (.cells #[.slice (some ⟨b3, 0, none⟩) 2 2, .slice A3 2 q3] 43))
      have S05 := Lib.hid (S4.out.alloc (.cells #[.slice (some ⟨b3, 0, none⟩) 2 2, .slice A3 2 q3] 43))
      have HY5 := Lib.hid (HY.out.alloc (.cells #[.slice (some ⟨b3, 0, none⟩) 2 2, .slice A3 2 q3] 43))
      generalize w3.alloc (.cells #[.slice (some ⟨b3, 0, none⟩) 2 2, .slice A3 2 q3] 43) = w5 at *
      obtain ⟨zs, hzs⟩ : ∃ zs : Nat → Cx, zs = fun i => xs.getD i (0, 0) := ⟨_, rfl⟩
      obtain ⟨zi, hzi, hzb⟩ := wholes_of xs HX.out
      have HZF := Lib.hid (fun r (hr : r < 30) => sumL_facts zs zi (by rw [hzs]; exact hzi) hzb r hr)
      rw [← hzs] at HY5 HY
      have HZS := Lib.hid hzs
      clear hzs hzi hzb
      obtain ⟨N, hN⟩ : ∃ N, N = xs.length := ⟨_, rfl⟩
      rw [← hN] at HY5 HY ⊢
      have HN := Lib.hid hN
      have i1 : (N : Int) ≤ 30 := by have := HL.out; omega
      have HX5 := Lib.hid (HX1.out.span S5.out (.inl (Nat.le_refl _)))
      rw [← hN] at HX5
      clear hN
      go_loopw [10, 54] (fun sv q wr => ∃ k : Nat, k ≤ N ∧ q = .int .i64 k ∧ sv = .complex .f32 (sumL zs k).1 (sumL zs k).2 ∧ Span 0 0 w5 wr) (fun _ q _ => N - (intOf q).toNat)
      case atStart => exact ⟨0, Nat.zero_le _, rfl, rfl, Span.refl _ _ _⟩
      case round =>
        obtain ⟨k, hk, rfl, rfl, hs⟩ := hrel
        have SR := Lib.hid hs
        by_cases hlt : k < N
        · obtain ⟨x, hx⟩ := getElem?_some (xs := xs) (j := k) (by rw [← HN.out]; exact hlt)
          obtain ⟨off, hoff, -, -, -⟩ := HX5.out.addrT (by rw [← HN.out]; omega)
          subst hoff
          have d0 : wr.cell? ⟨b1, off + k, none⟩ = some (.complex .f32 x.1 x.2) := (HX5.out.span hs (.inl (Nat.le_refl _))).atJ hx
          have hyk : (List.map (fun r => (loopSD zs (r + 1)).1) (List.range N))[k]? = some (loopSD zs (k + 1)).1 := by rw [List.getElem?_map, List.getElem?_range hlt]; rfl
          have d1 : wr.cell? ⟨g, k, none⟩ = some (.complex .f32 (loopSD zs (k + 1)).1.1 (loopSD zs (k + 1)).1.2) := by have := (HY5.out.span hs (.inl (Nat.le_refl _))).atJ hyk; rwa [Nat.zero_add] at this
          obtain ⟨⟨f1, f2⟩, ⟨f3, f4⟩, o1, o2⟩ := HZF.out k (by have := HL.out; have := HN.out; omega)
          have ezk : zs k = x := by rw [HZS.out]; show xs.getD k (0, 0) = x; rw [List.getD_eq_getElem?_getD, hx]; rfl
          rw [ezk] at f1 f2 f3 f4
          have j0 : (0 : Int) ≤ (k : Int) := by omega
          have j1 : (k : Int) < (N : Int) := by omega
          clear hs hx hyk ezk
          go_wp2_with fail
          go_roundw
          case rel => exact ⟨k + 1, hlt, by go_num, rfl, SR.out⟩
          case measure => simp [intOf]; omega
        · have hkn : k = N := by omega
          subst hkn
          have SX := Lib.hid (S5.out.trans hs)
          have cB := (HB.out.keep (S5.out.trans hs)).cells
          have B1 := Lib.hid (HB.out.keep (S5.out.trans hs))
          have AC1 : Calls Try.prog 15 #[.agg #[.slice (some ⟨bM, 0, none⟩) 2 2, .slice (some ⟨bC, 0, none⟩) 2 2], .int .i64 0, .int .i64 0] wr fun e w' => (∃ A1 n1 c1 A2 n2 c2, e = .returned (.tuple #[.agg #[.slice A1 n1 c1, .slice A2 n2 c2], .bool false])) ∧ Span 0 0 wr w' := loop_addCable HA.out (RK.out.keep SX.out) (HD3.out.span SX.out (.inl (Nat.le_refl _))) 0 0 (by decide) (by decide) false (by decide)
          have AC1 := Lib.hid AC1
          clear hs hlt hk
          go_wp2_with fail
          refine AC1.out.mono ?_
          rintro _ w6 ⟨⟨A6, n6, c6, E6, m6, d6, rfl⟩, s6⟩
          have S6 := Lib.hid ((SX.out.trans s6).alloc (.cells #[.slice A6 n6 c6, .slice E6 m6 d6] 43))
          have cB6 := (((B1.out.keep s6).alloc (.cells #[.slice A6 n6 c6, .slice E6 m6 d6] 43))).cells
          have AC2 : Calls Try.prog 15 #[.agg #[.slice (some ⟨bM, 0, none⟩) 2 2, .slice (some ⟨bC, 0, none⟩) 2 2], .int .i64 1, .int .i64 1] (w6.alloc (.cells #[.slice A6 n6 c6, .slice E6 m6 d6] 43)) fun e w' => (∃ A1 n1 c1 A2 n2 c2, e = .returned (.tuple #[.agg #[.slice A1 n1 c1, .slice A2 n2 c2], .bool true])) ∧ Span 0 0 (w6.alloc (.cells #[.slice A6 n6 c6, .slice E6 m6 d6] 43)) w' := loop_addCable HA.out (RK.out.keep S6.out) (HD3.out.span S6.out (.inl (Nat.le_refl _))) 1 1 (by decide) (by decide) true (by decide)
          have AC2 := Lib.hid AC2
          clear s6 cB
          go_wp2_with fail
          refine AC2.out.mono ?_
          rintro _ w7 ⟨⟨A7, n7, c7, E7, m7, d7, rfl⟩, s7⟩
          have S7 := Lib.hid (((S3.out.trans S6.out).trans s7).alloc (.cells #[.slice A7 n7 c7, .slice E7 m7 d7] 43))
          clear s7 cB6
          go_wp2_with fail
          go_ret
          have hs := S7.out
          exact ⟨rfl, hs.os, hs.tape, hs.output, hs.size, fun k hk => hs.block k hk (by omega)⟩
  · have hn' : (1048576 : Int) < (n : Int) := by omega
    go_enter Try.func4, Try.ntmps4
    go_wp2_with fail
    go_ret
    exact ⟨rfl, Below.refl _ _⟩
end Go.Proofs.Ytpiiflhdllpoiaa
