/- The law FnDelayed. -/
import Derived.Test.YtpiiflhdllpoiaaJq54
import Derived.Test.YtpiiflhdllpoiaaJq3
import Derived.Deep.RegionHeld3
import Derived.Deep.DeepCutAuto
import Derived.Outline
namespace Go.Proofs.Ytpiiflhdllpoiaa
open Go.RowKit

theorem Below.of_span0 {w w' : World} (h : Span 0 0 w w') : Below w.heap.size w w' := ⟨h.os, h.tape, h.output, h.size, fun k hk => h.block k hk (by omega)⟩
theorem t4_cell {k : Nat} (hk : k < 4) (w : World) (e : TypeId) : (w.alloc (.cells #[.complex .f32 1065353216 0, .complex .f32 3212836864 0, .complex .f32 0 1065353216, .complex .f32 0 3212836864] e)).cell? ⟨w.heap.size, k, none⟩ = some (.complex .f32 (T4.getD k (0, 0)).1 (T4.getD k (0, 0)).2) := by
  rw [World.cell?_alloc_new]
  rcases (show k = 0 ∨ k = 1 ∨ k = 2 ∨ k = 3 by omega) with rfl | rfl | rfl | rfl <;> rfl
theorem t4_mem {k : Nat} (hk : k < 4) : T4.getD k (0, 0) ∈ T4 := by
  rcases (show k = 0 ∨ k = 1 ∨ k = 2 ∨ k = 3 by omega) with rfl | rfl | rfl | rfl <;> decide

set_option maxRecDepth 100000 in
set_option maxHeartbeats 8000000 in
theorem law_delayed (A : Option Addr) (n c : Nat) (w : World) (h : HasBy w.heap.size w A n) : Calls Try.prog 3 #[.slice A n c] w (Says w) := by
  by_cases hn : n ≤ 1048576
  · have HN := Lib.hid hn
    have HBy := Lib.hid h
    have hn' : (n : Int) ≤ 1048576 := by omega
    clear h hn
    go_enter Try.func3, Try.ntmps3
    go_wp2_with fail
    refine (at_any _ A n c 1 w (by decide) (by decide) HN.out HBy.out).mono ?_
    rintro _ _ ⟨⟨v, rfl, v0, v1⟩, rfl⟩
    obtain ⟨d, hd, d1, d2⟩ : ∃ d : Nat, 1 + v % 16 = (d : Int) ∧ 1 ≤ d ∧ d ≤ 16 := ⟨(1 + v % 16).toNat, by omega, by omega, by omega⟩
    go_wp2_with fail
    try rw [hd]
    have HD1 := Lib.hid (And.intro d1 d2)
    have i1 : (1 : Int) ≤ (d : Int) := by omega
    have i2 : (d : Int) ≤ 16 := by omega
    clear hd v0 v1
    refine (newDelayK_n d d1 d2 _).mono ?_
    rintro _ w2 ⟨Ad, pd, bd, rfl, hd, s2⟩
    have HD := Lib.hid hd
    have S2 := Lib.hid s2
    clear hd s2 d1 d2
    go_wp2_with fail
    have S3 := Lib.hid ((S2.out.alloc (.cells #[.int .i64 4, .complex .f32 0 0, .complex .f32 0 0, .float .f32 0, .slice Ad d pd, .int .i64 0, .int .i64 (d : Int), .slice none 0 0, .slice none 0 0, .int .i64 0, .int .i64 0] 33)).alloc (.cells #[.complex .f32 1065353216 0, .complex .f32 3212836864 0, .complex .f32 0 1065353216, .complex .f32 0 3212836864] 24))
    refine (at_any _ A n c 2 _ (by decide) (by decide) HN.out (HBy.out.below (Below.of_span0 S3.out))).mono ?_
    rintro _ _ ⟨⟨v, rfl, v0, v1⟩, rfl⟩
    obtain ⟨k, hk, hk4⟩ : ∃ k : Nat, v % 4 = (k : Int) ∧ k < 4 := ⟨(v % 4).toNat, by omega, by omega⟩
    have ct := t4_cell hk4 (w2.alloc (.cells #[.int .i64 4, .complex .f32 0 0, .complex .f32 0 0, .float .f32 0, .slice Ad d pd, .int .i64 0, .int .i64 (d : Int), .slice none 0 0, .slice none 0 0, .int .i64 0, .int .i64 0] 33)) 24
    rw [show (w2.alloc (.cells #[.int .i64 4, .complex .f32 0 0, .complex .f32 0 0, .float .f32 0, .slice Ad d pd, .int .i64 0, .int .i64 (d : Int), .slice none 0 0, .slice none 0 0, .int .i64 0, .int .i64 0] 33)).heap.size = w2.heap.size + 1 by simp] at ct
    have HT4 := Lib.hid (t4_mem hk4)
    obtain ⟨t, ht⟩ : ∃ t, t = T4.getD k (0, 0) := ⟨_, rfl⟩
    rw [← ht] at ct HT4
    have k0 : (0 : Int) ≤ (k : Int) := by omega
    have k1 : (k : Int) < 4 := by omega
    clear ht hk4
    go_upto_region 8 with fail
    have S4 := Lib.hid S3.out
    have BD := Lib.hid ((Bx.new w2 #[.int .i64 4, .complex .f32 0 0, .complex .f32 0 0, .float .f32 0, .slice Ad d pd, .int .i64 0, .int .i64 (d : Int), .slice none 0 0, .slice none 0 0, .int .i64 0, .int .i64 0] 33).alloc (.cells #[.complex .f32 1065353216 0, .complex .f32 3212836864 0, .complex .f32 0 1065353216, .complex .f32 0 3212836864] 24))
    have SD := Lib.hid (((Span.refl 0 0 w2).alloc (.cells #[.int .i64 4, .complex .f32 0 0, .complex .f32 0 0, .float .f32 0, .slice Ad d pd, .int .i64 0, .int .i64 (d : Int), .slice none 0 0, .slice none 0 0, .int .i64 0, .int .i64 0] 33)).alloc (.cells #[.complex .f32 1065353216 0, .complex .f32 3212836864 0, .complex .f32 0 1065353216, .complex .f32 0 3212836864] 24))
    obtain ⟨D, hD⟩ : ∃ z, z = w2.heap.size := ⟨_, rfl⟩
    rw [← hD] at BD ct ⊢
    clear hk ct k0 k1 v0 v1
    generalize (w2.alloc (.cells #[.int .i64 4, .complex .f32 0 0, .complex .f32 0 0, .float .f32 0, .slice Ad d pd, .int .i64 0, .int .i64 (d : Int), .slice none 0 0, .slice none 0 0, .int .i64 0, .int .i64 0] 33)).alloc (.cells #[.complex .f32 1065353216 0, .complex .f32 3212836864 0, .complex .f32 0 1065353216, .complex .f32 0 3212836864] 24) = wA at *
    clear hD
    go_cut [7] (fun s7 wx => DelBox t d Ad pd wA s7 wx)
    case first => as_aux_lemma =>
      --DEV1A
      refine wp_region_inv [7, 32, 33, 34, 35, 36, 37, 38, 39, 40, 41, 42] (DelI wA t d Ad pd) (by kernel_rfl) (by kernel_rfl) (by kernel_rfl) ?h0 ?hstep ?hdone
      case h0 => exact ⟨(Span.refl 0 0 wA).drew, fun h => Bool.noConfusion h, fun h => Bool.noConfusion h, fun h => Bool.noConfusion h, fun h => Bool.noConfusion h, fun h => Bool.noConfusion h, fun h => Bool.noConfusion h, fun h => Bool.noConfusion h, fun h => Bool.noConfusion h, fun h => Bool.noConfusion h, fun h => Bool.noConfusion h, fun h => Bool.noConfusion h, fun h => Bool.noConfusion h, fun h => Bool.noConfusion h⟩
      case hdone =>
        rintro L u w hL ⟨-, -, -, -, -, -, -, -, -, -, -, -, -, k12⟩
        have hb := Lib.hid (k12 (hL 12 (by decide)))
        clear k12 hL
        refine norm_arg (puts_cons (by (simp only [Act.put, List.setIfInBounds_toArray, List.set_cons_zero, List.set_cons_succ]); rfl) (puts_cons (by (simp only [Act.put, List.setIfInBounds_toArray, List.set_cons_zero, List.set_cons_succ]); rfl) (puts_cons (by (simp only [Act.put, List.setIfInBounds_toArray, List.set_cons_zero, List.set_cons_succ]); rfl) (puts_cons (by (simp only [Act.put, List.setIfInBounds_toArray, List.set_cons_zero, List.set_cons_succ]); rfl) (puts_cons (by (simp only [Act.put, List.setIfInBounds_toArray, List.set_cons_zero, List.set_cons_succ]); rfl) (puts_cons (by (simp only [Act.put, List.setIfInBounds_toArray, List.set_cons_zero, List.set_cons_succ]); rfl) (puts_cons (by (simp only [Act.put, List.setIfInBounds_toArray, List.set_cons_zero, List.set_cons_succ]); rfl) (puts_cons (by (simp only [Act.put, List.setIfInBounds_toArray, List.set_cons_zero, List.set_cons_succ]); rfl) (puts_cons (by (simp only [Act.put, List.setIfInBounds_toArray, List.set_cons_zero, List.set_cons_succ]); rfl) (puts_cons (by (simp only [Act.put, List.setIfInBounds_toArray, List.set_cons_zero, List.set_cons_succ]); rfl) (puts_cons (by (simp only [Act.put, List.setIfInBounds_toArray, List.set_cons_zero, List.set_cons_succ]); rfl) (puts_cons (by (simp only [Act.put, List.setIfInBounds_toArray, List.set_cons_zero, List.set_cons_succ]); rfl) (puts_nil _ _))))))))))))) ?_
        go_wp2_with fail
        go_meet
        exact hb.out
      case hstep =>
        rintro i o L u w a' hcl ho hLi ha hI hag Q' K hK
        have h8f : i < 12 → L 12 = false := fun hi => by
          cases h : L 12 with
          | false => rfl
          | true =>
            have h1 := fun (e : Edge) he => hcl 12 _ rfl h e he
            have h2 : L i = true := by
              have h3 := h1 ⟨i, .phase⟩ (by rcases (show i = 0 ∨ i = 1 ∨ i = 2 ∨ i = 3 ∨ i = 4 ∨ i = 5 ∨ i = 6 ∨ i = 7 ∨ i = 8 ∨ i = 9 ∨ i = 10 ∨ i = 11 by omega) with rfl | rfl | rfl | rfl | rfl | rfl | rfl | rfl | rfl | rfl | rfl | rfl <;> simp)
              simpa [Region.binds] using h3
            rw [hLi] at h2; cases h2
        clear hcl
        have HK := Lib.hid hK
        have HI := Lib.hid hI
        obtain ⟨sp, k0, k1, k2, k3, k4, k5, k6, k7, k8, k9, k10, k11, k12⟩ := hI
        clear hK
        have f4 : a'.tmps[4]?.getD undef = .pointer (some ⟨D, 0, none⟩) := (hag.off (s := 4) (of_decide_eq_true (by kernel_rfl)) (by decide)).trans rfl
        have f6 : a'.tmps[6]?.getD undef = .complex .f32 t.1 t.2 := (hag.off (s := 6) (of_decide_eq_true (by kernel_rfl)) (by decide)).trans rfl
        have f7 := hag.at_ (s := 7) (of_decide_eq_true (by kernel_rfl)) (by decide)
        have f32 := hag.at_ (s := 32) (of_decide_eq_true (by kernel_rfl)) (by decide)
        have f33 := hag.at_ (s := 33) (of_decide_eq_true (by kernel_rfl)) (by decide)
        have f34 := hag.at_ (s := 34) (of_decide_eq_true (by kernel_rfl)) (by decide)
        have f35 := hag.at_ (s := 35) (of_decide_eq_true (by kernel_rfl)) (by decide)
        have f36 := hag.at_ (s := 36) (of_decide_eq_true (by kernel_rfl)) (by decide)
        have f37 := hag.at_ (s := 37) (of_decide_eq_true (by kernel_rfl)) (by decide)
        have f38 := hag.at_ (s := 38) (of_decide_eq_true (by kernel_rfl)) (by decide)
        have f39 := hag.at_ (s := 39) (of_decide_eq_true (by kernel_rfl)) (by decide)
        have f40 := hag.at_ (s := 40) (of_decide_eq_true (by kernel_rfl)) (by decide)
        have f41 := hag.at_ (s := 41) (of_decide_eq_true (by kernel_rfl)) (by decide)
        have f42 := hag.at_ (s := 42) (of_decide_eq_true (by kernel_rfl)) (by decide)
        have hi : i < 13 := (Array.getElem?_eq_some_iff.1 ho).1
        clear hag
        rcases (show i = 0 ∨ i = 1 ∨ i = 2 ∨ i = 3 ∨ i = 4 ∨ i = 5 ∨ i = 6 ∨ i = 7 ∨ i = 8 ∨ i = 9 ∨ i = 10 ∨ i = 11 ∨ i = 12 by omega) with rfl | rfl | rfl | rfl | rfl | rfl | rfl | rfl | rfl | rfl | rfl | rfl | rfl
        all_goals
          simp only [List.getElem?_toArray, List.getElem?_cons_zero, List.getElem?_cons_succ, Option.some.injEq] at ho
          subst ho
          simp [Region.binds] at ha
        · clear k0 k1 k2 k3 k4 k5 k6 k7 k8 k9 k10 k11 k12 sp ha h8f f4 f7 f32 f33 f34 f35 f36 f37 f38 f39 f40 f41 f42
          go_simp
          exact HK.out _ _ (HI.out.s0 (Span.refl 0 0 w))
        · rw [k0 ha] at f32
          clear k0 k1 k2 k3 k4 k5 k6 k7 k8 k9 k10 k11 k12 sp ha h8f f4 f6 f7 f33 f34 f35 f36 f37 f38 f39 f40 f41 f42
          go_simp
          refine (newSourceK_is _ _ _ _ _).mono ?_
          rintro _ w5 ⟨rfl, s5⟩
          have h := HK.out (srcV t) w5 (HI.out.s1 s5)
          clear HK HI
          go_wp2_with fail
          exact h
        · have hc := (BD.out.keep sp).cells
          clear k0 k1 k2 k3 k4 k5 k6 k7 k8 k9 k10 k11 k12 sp ha h8f f6 f7 f32 f33 f34 f35 f36 f37 f38 f39 f40 f41 f42
          go_simp
          exact HK.out (delV d Ad pd) _ (HI.out.s2 (Span.refl 0 0 w))
        · clear k0 k1 k2 k3 k4 k5 k6 k7 k8 k9 k10 k11 k12 sp ha h8f f4 f6 f7 f32 f33 f34 f35 f36 f37 f38 f39 f40 f41 f42
          go_simp
          refine (newGainK_is _ _).mono ?_
          rintro _ w5 ⟨rfl, s5⟩
          have h := HK.out (gainV 1073741824) w5 (HI.out.s3 s5)
          clear HK HI
          go_wp2_with fail
          exact h
        · clear k0 k1 k2 k3 k4 k5 k6 k7 k8 k9 k10 k11 k12 sp ha h8f f4 f6 f7 f32 f33 f34 f35 f36 f37 f38 f39 f40 f41 f42
          go_simp
          refine (newGainK_is _ _).mono ?_
          rintro _ w5 ⟨rfl, s5⟩
          have h := HK.out (gainV 1056964608) w5 (HI.out.s4 s5)
          clear HK HI
          go_wp2_with fail
          exact h
        · have e33 : a'.eval (.tmp 33) = srcV t := (Array.getD_eq_getD_getElem? ..).trans (f33.trans (k1 ha.1))
          have e34 : a'.eval (.tmp 34) = delV d Ad pd := (Array.getD_eq_getD_getElem? ..).trans (f34.trans (k2 ha.2.1))
          have e35 : a'.eval (.tmp 35) = gainV 1073741824 := (Array.getD_eq_getD_getElem? ..).trans (f35.trans (k3 ha.2.2.1))
          have e36 : a'.eval (.tmp 36) = gainV 1056964608 := (Array.getD_eq_getD_getElem? ..).trans (f36.trans (k4 ha.2.2.2))
          clear k0 k1 k2 k3 k4 k5 k6 k7 k8 k9 k10 k11 k12 sp ha h8f f4 f6 f7 f32 f33 f34 f35 f36 f37 f38 f39 f40 f41 f42
          refine if_wanted rfl ?_
          refine wp_buildRow rfl [srcV t, delV d Ad pd, gainV 1073741824, gainV 1056964608] (by simp [e33, e34, e35, e36]) rfl (by decide) (flatG Mw.l (dlMs t d Ad pd)) Try.underlying38 info_mod (by decide) (by decide) (fun v hv => by
            simp only [List.mem_cons, List.not_mem_nil, or_false] at hv
            rcases hv with rfl | rfl | rfl | rfl <;> rfl) rfl ?_
          exact HK.out _ _ (HI.out.s5 ((Span.refl 0 0 w).alloc _) ⟨_, rfl, HasC.m (fl := Mw.l) (s := 11) (fun _ => rfl) (dlMs t d Ad pd) w _ _ rfl⟩)
        · clear k0 k1 k2 k3 k4 k5 k6 k7 k8 k9 k10 k11 k12 sp ha h8f f4 f6 f7 f32 f33 f34 f35 f36 f37 f38 f39 f40 f41 f42
          go_simp
          exact HK.out _ _ (HI.out.s6 (Span.refl 0 0 w))
        · clear k0 k1 k2 k3 k4 k5 k6 k7 k8 k9 k10 k11 k12 sp ha h8f f4 f6 f7 f32 f33 f34 f35 f36 f37 f38 f39 f40 f41 f42
          go_simp
          exact HK.out _ _ (HI.out.s7 (Span.refl 0 0 w))
        · clear k0 k1 k2 k3 k4 k5 k6 k7 k8 k9 k10 k11 k12 sp ha h8f f4 f6 f7 f32 f33 f34 f35 f36 f37 f38 f39 f40 f41 f42
          go_simp
          exact HK.out _ _ (HI.out.s8 (Span.refl 0 0 w))
        · have e38 : a'.eval (.tmp 38) = .agg #[.int .i64 0, .int .i64 1] := (Array.getD_eq_getD_getElem? ..).trans (f38.trans (k6 ha.1))
          have e39 : a'.eval (.tmp 39) = .agg #[.int .i64 1, .int .i64 2] := (Array.getD_eq_getD_getElem? ..).trans (f39.trans (k7 ha.2.1))
          have e40 : a'.eval (.tmp 40) = .agg #[.int .i64 2, .int .i64 3] := (Array.getD_eq_getD_getElem? ..).trans (f40.trans (k8 ha.2.2))
          clear k0 k1 k2 k3 k4 k5 k6 k7 k8 k9 k10 k11 k12 sp ha h8f f4 f6 f7 f32 f33 f34 f35 f36 f37 f38 f39 f40 f41 f42
          refine if_wanted rfl ?_
          refine wp_buildRow rfl [.agg #[.int .i64 0, .int .i64 1], .agg #[.int .i64 1, .int .i64 2], .agg #[.int .i64 2, .int .i64 3]] (by simp [e38, e39, e40]) rfl (by decide) (flatG cabC dlCs) Try.underlying41 info_cab (by decide) (by decide) (fun v hv => by
            simp only [List.mem_cons, List.not_mem_nil, or_false] at hv
            rcases hv with rfl | rfl | rfl <;> rfl) rfl ?_
          exact HK.out _ _ (HI.out.s9 ((Span.refl 0 0 w).alloc _) ⟨_, rfl, HasC.m (fl := cabC) (s := 2) (fun _ => rfl) dlCs w _ _ rfl⟩)
        · have h8 := h8f (by decide)
          obtain ⟨bM, hm, hmc⟩ := k5 ha.1 h8
          obtain ⟨bC, hc, hcc⟩ := k9 ha.2 h8
          rw [hm] at f37 hmc
          rw [hc] at f41 hcc
          have HM := Lib.hid hmc
          have HC := Lib.hid hcc
          clear hmc hcc
          clear k0 k1 k2 k3 k4 k5 k6 k7 k8 k9 k10 k11 k12 sp ha h8f f4 f6 f7 f32 f33 f34 f35 f36 f38 f39 f40 f42
          go_simp
          exact HK.out _ _ (HI.out.s10 (c := .slice (some ⟨bC, 0, none⟩) 3 3) ⟨_, rfl, HM.out⟩ ⟨_, rfl, HC.out⟩)
        · have h8 := h8f (by decide)
          clear k0 k1 k2 k3 k4 k5 k6 k7 k8 k9 k10 k11 k12 sp ha h8f f4 f6 f7 f32 f33 f34 f35 f36 f37 f38 f39 f40 f41 f42
          go_simp
          exact HK.out _ _ (HI.out.s11 h8)
        · obtain ⟨m, c, hmc, h1, h2⟩ := k10 (by simp [ha]) hLi
          obtain ⟨B, hB, hle, hb⟩ := k11 (by simp [ha]) hLi
          obtain ⟨bM, rfl, hm⟩ := id h1
          obtain ⟨bC, rfl, hc⟩ := id h2
          rw [hmc] at f42
          rw [hB] at f7
          have y := hb.cells
          have z := hb.thaw
          have H := Lib.hid (And.intro hB (And.intro hle (And.intro hb (And.intro h1 h2))))
          clear h1 h2 hm hc hb hmc hB hle
          clear k0 k1 k2 k3 k4 k5 k6 k7 k8 k9 k10 k11 k12 sp ha h8f f4 f6 f32 f33 f34 f35 f36 f37 f38 f39 f40 f41
          go_simp
          obtain ⟨hB, hle, hb, h1, h2⟩ := H.out
          exact HK.out undef _ (HI.out.s12 hB hle hb h1 h2)
      --DEV1B
    case rest =>
      obtain ⟨B, bM, bC, rfl, hB, hM, hC, sL⟩ := hcut
      have S5 := Lib.hid (S4.out.trans sL)
      have hd := HD1.out
      have HD3 := Lib.hid ((HD.out.span SD.out (.inl (Nat.le_refl _))).span sL (.inl (Nat.le_refl _)))
      have RK := Lib.hid (show RkAt wc bM bC 0 wc.heap.size (some ⟨bM, 0, none⟩) 4 4 (some ⟨bC, 0, none⟩) 3 3 (dlMs t d Ad pd) dlCs from ⟨hM, hC, by decide, fun x hx => by
        simp only [dlMs, List.mem_cons, List.not_mem_nil, or_false] at hx
        rcases hx with rfl | rfl | rfl | rfl
        · exact okM_source _ _ _
        · exact okM_delayN hd.1 hd.2 HD3.out
        · exact okM_gain _ _
        · exact okM_gain _ _, fun x hx => by
        simp only [dlCs, List.mem_cons, List.not_mem_nil, or_false] at hx
        rcases hx with rfl | rfl | rfl <;> decide⟩)
      have TR := Lib.hid (trace_delayed HT4.out hd.1 hd.2 RK.out HD3.out)
      have cB := hB.cells
      clear hB hM hC sL hd
      go_wp2_with fail
      refine TR.out.mono ?_
      rintro _ w9 ⟨F, vs, rfl, hF, ht, s9⟩
      have S9 := Lib.hid (S5.out.trans s9)
      obtain ⟨b0, q0, hv0, hs0, hq0, hb0⟩ := ht.row (i := 0) rfl (by simp)
      obtain ⟨b1, q1, hv1, hs1, hq1, hb1⟩ := ht.row (i := 1) rfl (by simp)
      obtain ⟨b2, q2, hv2, hs2, hq2, hb2⟩ := ht.row (i := 2) rfl (by simp)
      obtain ⟨b3, q3, hv3, hs3, hq3, hb3⟩ := ht.row (i := 3) rfl (by simp)
      simp only [List.length_map, List.length_range] at hv0 hs0 hq0 hv1 hs1 hq1 hv2 hs2 hq2 hv3 hs3 hq3
      have c0 : w9.cell? ⟨F, 0, none⟩ = some (.slice (some ⟨b0, 0, none⟩) 40 q0) := by rw [ht.box.cells 0]; simpa using hv0
      have c1 : w9.cell? ⟨F, 1, none⟩ = some (.slice (some ⟨b1, 0, none⟩) 40 q1) := by rw [ht.box.cells 1]; simpa using hv1
      have c2 : w9.cell? ⟨F, 2, none⟩ = some (.slice (some ⟨b2, 0, none⟩) 40 q2) := by rw [ht.box.cells 2]; simpa using hv2
      have c3 : w9.cell? ⟨F, 3, none⟩ = some (.slice (some ⟨b3, 0, none⟩) 40 q3) := by rw [ht.box.cells 3]; simpa using hv3
      have HF : Hid (F < w9.heap.size) := ht.box.1
      have H0 := Lib.hid hs0
      have H1 := Lib.hid hs1
      have H3 := Lib.hid hs3
      have j0 : (40 : Int) ≤ (q0 : Int) := by omega
      have j1 : (40 : Int) ≤ (q1 : Int) := by omega
      have j3 : (40 : Int) ≤ (q3 : Int) := by omega
      clear s9 hF ht hv0 hv1 hv2 hv3 hs0 hs1 hs2 hs3 hq0 hq1 hq2 hq3 hb0 hb1 hb2 hb3 cB
      go_wp2_with fail
      go_loopw [57] (fun q wr => ∃ k : Nat, k ≤ 4 ∧ q = .int .i64 k ∧ wr = w9) (fun q _ => 4 - (intOf q).toNat)
      case atStart => exact ⟨0, by decide, rfl, rfl⟩
      case round =>
        obtain ⟨k, hk, rfl, rfl⟩ := hrel
        by_cases hlt : k < 4
        · have ck : ∃ b q, wr.cell? ⟨F, k, none⟩ = some (.slice (some ⟨b, 0, none⟩) 40 q) := by
            rcases (show k = 0 ∨ k = 1 ∨ k = 2 ∨ k = 3 by omega) with rfl | rfl | rfl | rfl
            · exact ⟨_, _, c0⟩
            · exact ⟨_, _, c1⟩
            · exact ⟨_, _, c2⟩
            · exact ⟨_, _, c3⟩
          obtain ⟨bk, qk, ck⟩ := ck
          have k1 : (0 : Int) ≤ (k : Int) := by omega
          have k2 : (k : Int) < 4 := by omega
          clear c0 c1 c2 c3
          go_wp2_with fail
          go_roundw
          case rel => exact ⟨k + 1, by omega, by go_num, trivial⟩
          case measure => simp [intOf]; omega
        · have hk4 : k = 4 := by omega
          subst hk4
          have hd := HD1.out
          have OV := fun z (hz : z ∈ Vals) => vals_order hz
          have E1 : Hid (∀ w' g q, Span 0 0 wr w' → HasS cxV true g 0 w'.heap.size w' (.slice (some ⟨g, 0, none⟩) d q) (List.replicate d (0, 0)) → Calls Try.prog 11 #[.slice (some ⟨b1, 0, none⟩) d q1, .slice (some ⟨g, 0, none⟩) d q] w' fun e w'' => e = .returned (.bool true) ∧ ∃ m, w'' = w'.drewN m) := fun w' g q sp hz => by
            have h1 := (H1.out.span sp (.inl (Nat.le_refl _))).part 0 d q1 (by simp; omega) (by omega)
            rw [part_zero t hd.2, Nat.add_zero] at h1
            exact equal_true _ (fun x hx => by rw [(List.mem_replicate.1 hx).2]; exact OV _ List.mem_cons_self) w' h1 hz (by simp; omega)
          have E2 : Hid (∀ w' c1 c2, Span 0 0 wr w' → 40 - d ≤ c1 → 40 - d ≤ c2 → Calls Try.prog 11 #[.slice (some ⟨b1, d, none⟩) (40 - d) c1, .slice (some ⟨b0, 0, none⟩) (40 - d) c2] w' fun e w'' => e = .returned (.bool true) ∧ ∃ m, w'' = w'.drewN m) := fun w' c1 c2 sp g1 g2 => by
            have h1 := (H1.out.span sp (.inl (Nat.le_refl _))).part d (40 - d) c1 (by simp; omega) g1
            have h0 := (H0.out.span sp (.inl (Nat.le_refl _))).part 0 (40 - d) c2 (by simp) g2
            rw [part_src t hd.2, Nat.zero_add] at h1
            rw [Nat.zero_add] at h0
            exact equal_true _ (fun x hx => by
              have := List.mem_of_mem_drop (List.mem_of_mem_take hx)
              obtain ⟨j, _, rfl⟩ := List.mem_map.1 this
              exact OV _ (List.mem_cons_of_mem _ (src_mem HT4.out j))) w' h1 h0 (by simp; omega)
          have E3 : Hid (∀ w', Span 0 0 wr w' → Calls Try.prog 11 #[.slice (some ⟨b3, 0, none⟩) 40 q3, .slice (some ⟨b1, 0, none⟩) 40 q1] w' fun e w'' => e = .returned (.bool true) ∧ ∃ m, w'' = w'.drewN m) := fun w' sp => by
            have h1 := H1.out.span sp (.inl (Nat.le_refl _))
            have h3 := H3.out.span sp (.inl (Nat.le_refl _))
            have e := equal_true ((List.range 40).map (dly t d)) (fun x hx => by
              obtain ⟨j, _, rfl⟩ := List.mem_map.1 hx
              exact OV _ (dly_mem HT4.out d j)) w' h3 h1 (by simp)
            simpa using e
          have hmk : ∀ V : World, (Instr.makeSlice 26 (.int .i64 (d : Int)) (.int .i64 (d : Int))).run Try.prog V = .ok (.slice (some ⟨V.heap.size, 0, none⟩) d d) (V.alloc (.cells (zerosV (.complex .f32 0 0) d) 24)) := fun V => run_make_zeros (P := Try.prog) V 26 24 (.complex .f32 0 0) 8 Try.underlying26 info_c64 rfl d (by omega) (by omega)
          have CF : Hid (∀ w', Span 0 0 wr w' → w'.cell? ⟨F, 0, none⟩ = some (.slice (some ⟨b0, 0, none⟩) 40 q0) ∧ w'.cell? ⟨F, 1, none⟩ = some (.slice (some ⟨b1, 0, none⟩) 40 q1) ∧ w'.cell? ⟨F, 3, none⟩ = some (.slice (some ⟨b3, 0, none⟩) 40 q3)) := fun w' sp => by
            have e := sp.block F HF.out (by omega)
            exact ⟨(World.cell?_of_block (w := wr) (a := ⟨F, 0, none⟩) e).trans c0, (World.cell?_of_block (w := wr) (a := ⟨F, 1, none⟩) e).trans c1, (World.cell?_of_block (w := wr) (a := ⟨F, 3, none⟩) e).trans c3⟩
          obtain ⟨E, hE⟩ : ∃ E, E = 40 - d := ⟨_, rfl⟩
          have hw : IntKind.i64.wrap (40 - (d : Int)) = (E : Int) := by rw [show (40 - (d : Int)) = (E : Int) by omega, IntKind.wrap_i64]; omega
          rw [← hE] at E2
          have a0 : (0 : Int) ≤ (d : Int) := by omega
          have a1 : (d : Int) ≤ (q1 : Int) := by omega
          have a2 : (d : Int) ≤ 40 := by omega
          have a3 : (0 : Int) ≤ (E : Int) := by omega
          have a4 : (E : Int) ≤ (q0 : Int) := by omega
          have a5 : ¬ q1 = d := by omega
          have a6 : 40 - d = E := hE.symm
          have GE := Lib.hid (show E ≤ q1 - d ∧ E ≤ q0 by omega)
          clear hlt hk c0 c1 c2 c3 OV hd hE
          go_wp2_with fail
          --R18A
          refine wp_region_inv [2, 65, 66, 67, 68, 69, 70, 71, 72, 73, 74, 75, 76, 77, 78, 79, 80, 81, 82, 83, 84, 85, 86, 87, 88, 89, 90, 91, 92, 93, 94, 95] (ValI [65, 66, 67, 68, 69, 70, 71, 72, 73, 74, 75, 76, 77, 78, 79, 80, 81, 82, 83, 84, 85, 86, 87, 88, 89, 90, 91, 92, 93, 94, 95, 2] [some (.slice (some ⟨F, 0, none⟩) 4 4), some (.pointer (some ⟨F, 1, none⟩)), some (.slice (some ⟨b1, 0, none⟩) 40 q1), some (.int .i64 (d : Int)), some (.slice (some ⟨b1, 0, none⟩) d q1), some (.int .i64 (d : Int)), none, some (.bool true), some (.bool true), some (.slice (some ⟨F, 0, none⟩) 4 4), some (.pointer (some ⟨F, 1, none⟩)), some (.slice (some ⟨b1, 0, none⟩) 40 q1), some (.int .i64 (d : Int)), some (.slice (some ⟨b1, d, none⟩) E (q1 - d)), some (.slice (some ⟨F, 0, none⟩) 4 4), some (.pointer (some ⟨F, 0, none⟩)), some (.slice (some ⟨b0, 0, none⟩) 40 q0), some (.int .i64 (d : Int)), some (.int .i64 (E : Int)), some (.slice (some ⟨b0, 0, none⟩) E q0), some (.bool true), some (.bool true), some (.bool true), some (.slice (some ⟨F, 0, none⟩) 4 4), some (.pointer (some ⟨F, 3, none⟩)), some (.slice (some ⟨b3, 0, none⟩) 40 q3), some (.slice (some ⟨F, 0, none⟩) 4 4), some (.pointer (some ⟨F, 1, none⟩)), some (.slice (some ⟨b1, 0, none⟩) 40 q1), some (.bool true), some (.bool true), some (.bool true)] (fun w' => Span 0 0 wr w') 6 (fun x w' => ∃ g, x = .slice (some ⟨g, 0, none⟩) d d ∧ HasS cxV true g 0 w'.heap.size w' x (List.replicate d (0, 0)))) (by kernel_rfl) (by kernel_rfl) (by kernel_rfl) (ValI.start (Span.refl 0 0 wr).drew) ?hstep ?hdone
          case hdone =>
            rintro L u w' hL ⟨sp, hv, -⟩
            have SPX := Lib.hid sp
            have h2 := hv 31 2 _ rfl rfl (hL 31 (by decide))
            clear hv hL sp
            refine norm_arg (puts_cons (by (simp only [Act.put, List.setIfInBounds_toArray, List.set_cons_zero, List.set_cons_succ]); rfl) (puts_cons (by (simp only [Act.put, List.setIfInBounds_toArray, List.set_cons_zero, List.set_cons_succ]); rfl) (puts_cons (by (simp only [Act.put, List.setIfInBounds_toArray, List.set_cons_zero, List.set_cons_succ]); rfl) (puts_cons (by (simp only [Act.put, List.setIfInBounds_toArray, List.set_cons_zero, List.set_cons_succ]); rfl) (puts_cons (by (simp only [Act.put, List.setIfInBounds_toArray, List.set_cons_zero, List.set_cons_succ]); rfl) (puts_cons (by (simp only [Act.put, List.setIfInBounds_toArray, List.set_cons_zero, List.set_cons_succ]); rfl) (puts_cons (by (simp only [Act.put, List.setIfInBounds_toArray, List.set_cons_zero, List.set_cons_succ]); rfl) (puts_cons (by (simp only [Act.put, List.setIfInBounds_toArray, List.set_cons_zero, List.set_cons_succ]); rfl) (puts_cons (by (simp only [Act.put, List.setIfInBounds_toArray, List.set_cons_zero, List.set_cons_succ]); rfl) (puts_cons (by (simp only [Act.put, List.setIfInBounds_toArray, List.set_cons_zero, List.set_cons_succ]); rfl) (puts_cons (by (simp only [Act.put, List.setIfInBounds_toArray, List.set_cons_zero, List.set_cons_succ]); rfl) (puts_cons (by (simp only [Act.put, List.setIfInBounds_toArray, List.set_cons_zero, List.set_cons_succ]); rfl) (puts_cons (by (simp only [Act.put, List.setIfInBounds_toArray, List.set_cons_zero, List.set_cons_succ]); rfl) (puts_cons (by (simp only [Act.put, List.setIfInBounds_toArray, List.set_cons_zero, List.set_cons_succ]); rfl) (puts_cons (by (simp only [Act.put, List.setIfInBounds_toArray, List.set_cons_zero, List.set_cons_succ]); rfl) (puts_cons (by (simp only [Act.put, List.setIfInBounds_toArray, List.set_cons_zero, List.set_cons_succ]); rfl) (puts_cons (by (simp only [Act.put, List.setIfInBounds_toArray, List.set_cons_zero, List.set_cons_succ]); rfl) (puts_cons (by (simp only [Act.put, List.setIfInBounds_toArray, List.set_cons_zero, List.set_cons_succ]); rfl) (puts_cons (by (simp only [Act.put, List.setIfInBounds_toArray, List.set_cons_zero, List.set_cons_succ]); rfl) (puts_cons (by (simp only [Act.put, List.setIfInBounds_toArray, List.set_cons_zero, List.set_cons_succ]); rfl) (puts_cons (by (simp only [Act.put, List.setIfInBounds_toArray, List.set_cons_zero, List.set_cons_succ]); rfl) (puts_cons (by (simp only [Act.put, List.setIfInBounds_toArray, List.set_cons_zero, List.set_cons_succ]); rfl) (puts_cons (by (simp only [Act.put, List.setIfInBounds_toArray, List.set_cons_zero, List.set_cons_succ]); rfl) (puts_cons (by (simp only [Act.put, List.setIfInBounds_toArray, List.set_cons_zero, List.set_cons_succ]); rfl) (puts_cons (by (simp only [Act.put, List.setIfInBounds_toArray, List.set_cons_zero, List.set_cons_succ]); rfl) (puts_cons (by (simp only [Act.put, List.setIfInBounds_toArray, List.set_cons_zero, List.set_cons_succ]); rfl) (puts_cons (by (simp only [Act.put, List.setIfInBounds_toArray, List.set_cons_zero, List.set_cons_succ]); rfl) (puts_cons (by (simp only [Act.put, List.setIfInBounds_toArray, List.set_cons_zero, List.set_cons_succ]); rfl) (puts_cons (by (simp only [Act.put, List.setIfInBounds_toArray, List.set_cons_zero, List.set_cons_succ]); rfl) (puts_cons (by (simp only [Act.put, List.setIfInBounds_toArray, List.set_cons_zero, List.set_cons_succ]); rfl) (puts_cons (by (simp only [Act.put, List.setIfInBounds_toArray, List.set_cons_zero, List.set_cons_succ]); rfl) (puts_cons (by (simp only [Act.put, List.setIfInBounds_toArray, List.set_cons_zero, List.set_cons_succ]); rfl) (puts_nil _ _))))))))))))))))))))))))))))))))) ?_
            rw [h2]
            clear h2
            go_wp2_with fail
            go_ret
            exact ⟨rfl, Below.of_span0 (S9.out.trans SPX.out)⟩
          case hstep =>
            rintro i o L u w' a' - ho hLi ha hI hag Q' K hK
            have HK := Lib.hid hK
            have HI := Lib.hid hI
            obtain ⟨sp, hv, hz⟩ := hI
            have SPX := Lib.hid sp
            have HV := Lib.hid hv
            have HZZ := Lib.hid hz
            have HAG := Lib.hid hag
            have hi : i < 32 := (Array.getElem?_eq_some_iff.1 ho).1
            have hsn : Hid (List.Nodup [65, 66, 67, 68, 69, 70, 71, 72, 73, 74, 75, 76, 77, 78, 79, 80, 81, 82, 83, 84, 85, 86, 87, 88, 89, 90, 91, 92, 93, 94, 95, 2]) := (by decide : List.Nodup [65, 66, 67, 68, 69, 70, 71, 72, 73, 74, 75, 76, 77, 78, 79, 80, 81, 82, 83, 84, 85, 86, 87, 88, 89, 90, 91, 92, 93, 94, 95, 2])
            have zk : Hid (∀ w2, Span 0 0 w' w2 → ∀ x, (∃ g, x = .slice (some ⟨g, 0, none⟩) d d ∧ HasS cxV true g 0 w'.heap.size w' x (List.replicate d (0, 0))) → ∃ g, x = .slice (some ⟨g, 0, none⟩) d d ∧ HasS cxV true g 0 w2.heap.size w2 x (List.replicate d (0, 0))) := fun w2 s x ⟨g, e, h⟩ => ⟨g, e, (h.span s (.inl (Nat.le_refl _))).weak (Nat.le_refl _) (.inl s.size)⟩
            clear hK sp hv hz
            have t3 : a'.tmps[3]?.getD undef = .int .i64 (d : Int) := (hag.off (s := 3) (of_decide_eq_true (by kernel_rfl)) (by decide)).trans rfl
            have t8 : a'.tmps[8]?.getD undef = .slice (some ⟨F, 0, none⟩) 4 4 := (hag.off (s := 8) (of_decide_eq_true (by kernel_rfl)) (by decide)).trans rfl
            clear hag
            rcases (show i = 0 ∨ i = 1 ∨ i = 2 ∨ i = 3 ∨ i = 4 ∨ i = 5 ∨ i = 6 ∨ i = 7 ∨ i = 8 ∨ i = 9 ∨ i = 10 ∨ i = 11 ∨ i = 12 ∨ i = 13 ∨ i = 14 ∨ i = 15 ∨ i = 16 ∨ i = 17 ∨ i = 18 ∨ i = 19 ∨ i = 20 ∨ i = 21 ∨ i = 22 ∨ i = 23 ∨ i = 24 ∨ i = 25 ∨ i = 26 ∨ i = 27 ∨ i = 28 ∨ i = 29 ∨ i = 30 ∨ i = 31 by omega) with rfl | rfl | rfl | rfl | rfl | rfl | rfl | rfl | rfl | rfl | rfl | rfl | rfl | rfl | rfl | rfl | rfl | rfl | rfl | rfl | rfl | rfl | rfl | rfl | rfl | rfl | rfl | rfl | rfl | rfl | rfl | rfl
            all_goals
              simp only [List.getElem?_toArray, List.getElem?_cons_zero, List.getElem?_cons_succ, Option.some.injEq] at ho
              subst ho
              simp [Region.binds] at ha
            · clear ha
              go_simp
              exact HK.out _ _ (HI.out.val hsn.out 0 65 _ rfl rfl (by decide) SPX.out (zk.out _ (Span.refl 0 0 _)))
            · have f65 := (HAG.out.at_ (s := 65) (of_decide_eq_true (by kernel_rfl)) (by decide)).trans (HV.out 0 65 _ rfl rfl (by simp [ha]))
              clear ha
              go_simp
              exact HK.out _ _ (HI.out.val hsn.out 1 66 _ rfl rfl (by decide) SPX.out (zk.out _ (Span.refl 0 0 _)))
            · have f66 := (HAG.out.at_ (s := 66) (of_decide_eq_true (by kernel_rfl)) (by decide)).trans (HV.out 1 66 _ rfl rfl (by simp [ha]))
              obtain ⟨e0, e1, e3⟩ := CF.out _ SPX.out
              clear ha
              go_simp
              exact HK.out _ _ (HI.out.val hsn.out 2 67 _ rfl rfl (by decide) SPX.out (zk.out _ (Span.refl 0 0 _)))
            · clear ha
              go_simp
              exact HK.out _ _ (HI.out.val hsn.out 3 68 _ rfl rfl (by decide) SPX.out (zk.out _ (Span.refl 0 0 _)))
            · have f67 := (HAG.out.at_ (s := 67) (of_decide_eq_true (by kernel_rfl)) (by decide)).trans (HV.out 2 67 _ rfl rfl (by simp [ha]))
              have f68 := (HAG.out.at_ (s := 68) (of_decide_eq_true (by kernel_rfl)) (by decide)).trans (HV.out 3 68 _ rfl rfl (by simp [ha]))
              clear ha
              go_simp
              exact HK.out _ _ (HI.out.val hsn.out 4 69 _ rfl rfl (by decide) SPX.out (zk.out _ (Span.refl 0 0 _)))
            · clear ha
              go_simp
              exact HK.out _ _ (HI.out.val hsn.out 5 70 _ rfl rfl (by decide) SPX.out (zk.out _ (Span.refl 0 0 _)))
            · have f70 := (HAG.out.at_ (s := 70) (of_decide_eq_true (by kernel_rfl)) (by decide)).trans (HV.out 5 70 _ rfl rfl (by simp [ha]))
              clear ha
              go_simp
              exact HK.out _ _ (HI.out.own hsn.out 71 _ rfl rfl (SPX.out.alloc _) ⟨w'.heap.size, rfl, (hasS_zc w' d).weak (Nat.zero_le _) (.inl (by simp))⟩)
            · have f69 := (HAG.out.at_ (s := 69) (of_decide_eq_true (by kernel_rfl)) (by decide)).trans (HV.out 4 69 _ rfl rfl (by simp [ha]))
              obtain ⟨g, hg1, hg2⟩ := HZZ.out 71 rfl (by simp [ha])
              have f71 := (HAG.out.at_ (s := 71) (of_decide_eq_true (by kernel_rfl)) (by decide)).trans hg1
              rw [hg1] at hg2
              have G2 := Lib.hid hg2
              clear hg1 hg2
              clear ha
              go_simp
              refine (E1.out _ _ _ SPX.out G2.out).mono ?_
              rintro _ _ ⟨rfl, m1, rfl⟩
              have h := HK.out (.bool true) _ (HI.out.val hsn.out 7 72 _ rfl rfl (by decide) (SPX.out.drewN m1) (zk.out _ ((Span.refl 0 0 _).drewN m1)))
              clear HK HI HV HZZ HAG zk
              go_wp2_with fail
              exact h
            · have f72 := (HAG.out.at_ (s := 72) (of_decide_eq_true (by kernel_rfl)) (by decide)).trans (HV.out 7 72 _ rfl rfl (by simp [ha]))
              clear ha
              go_simp
              exact HK.out _ _ (HI.out.val hsn.out 8 73 _ rfl rfl (by decide) SPX.out (zk.out _ (Span.refl 0 0 _)))
            · have g73 := (HAG.out.get (s := 73) (of_decide_eq_true (by kernel_rfl)) (by decide)).trans (congrArg some (HV.out 8 73 _ rfl rfl (by simp [ha])))
              clear ha
              go_simp
              exact HK.out _ _ (HI.out.val hsn.out 9 74 _ rfl rfl (by decide) SPX.out (zk.out _ (Span.refl 0 0 _)))
            · have f74 := (HAG.out.at_ (s := 74) (of_decide_eq_true (by kernel_rfl)) (by decide)).trans (HV.out 9 74 _ rfl rfl (by simp [ha]))
              have g73 := (HAG.out.get (s := 73) (of_decide_eq_true (by kernel_rfl)) (by decide)).trans (congrArg some (HV.out 8 73 _ rfl rfl (by simp [ha])))
              clear ha
              go_simp
              exact HK.out _ _ (HI.out.val hsn.out 10 75 _ rfl rfl (by decide) SPX.out (zk.out _ (Span.refl 0 0 _)))
            · have f75 := (HAG.out.at_ (s := 75) (of_decide_eq_true (by kernel_rfl)) (by decide)).trans (HV.out 10 75 _ rfl rfl (by simp [ha]))
              have g73 := (HAG.out.get (s := 73) (of_decide_eq_true (by kernel_rfl)) (by decide)).trans (congrArg some (HV.out 8 73 _ rfl rfl (by simp [ha])))
              obtain ⟨e0, e1, e3⟩ := CF.out _ SPX.out
              clear ha
              go_simp
              exact HK.out _ _ (HI.out.val hsn.out 11 76 _ rfl rfl (by decide) SPX.out (zk.out _ (Span.refl 0 0 _)))
            · have g73 := (HAG.out.get (s := 73) (of_decide_eq_true (by kernel_rfl)) (by decide)).trans (congrArg some (HV.out 8 73 _ rfl rfl (by simp [ha])))
              clear ha
              go_simp
              exact HK.out _ _ (HI.out.val hsn.out 12 77 _ rfl rfl (by decide) SPX.out (zk.out _ (Span.refl 0 0 _)))
            · have f76 := (HAG.out.at_ (s := 76) (of_decide_eq_true (by kernel_rfl)) (by decide)).trans (HV.out 11 76 _ rfl rfl (by simp [ha]))
              have f77 := (HAG.out.at_ (s := 77) (of_decide_eq_true (by kernel_rfl)) (by decide)).trans (HV.out 12 77 _ rfl rfl (by simp [ha]))
              have g73 := (HAG.out.get (s := 73) (of_decide_eq_true (by kernel_rfl)) (by decide)).trans (congrArg some (HV.out 8 73 _ rfl rfl (by simp [ha])))
              clear ha
              go_simp
              exact HK.out _ _ (HI.out.val hsn.out 13 78 _ rfl rfl (by decide) SPX.out (zk.out _ (Span.refl 0 0 _)))
            · have g73 := (HAG.out.get (s := 73) (of_decide_eq_true (by kernel_rfl)) (by decide)).trans (congrArg some (HV.out 8 73 _ rfl rfl (by simp [ha])))
              clear ha
              go_simp
              exact HK.out _ _ (HI.out.val hsn.out 14 79 _ rfl rfl (by decide) SPX.out (zk.out _ (Span.refl 0 0 _)))
            · have f79 := (HAG.out.at_ (s := 79) (of_decide_eq_true (by kernel_rfl)) (by decide)).trans (HV.out 14 79 _ rfl rfl (by simp [ha]))
              have g73 := (HAG.out.get (s := 73) (of_decide_eq_true (by kernel_rfl)) (by decide)).trans (congrArg some (HV.out 8 73 _ rfl rfl (by simp [ha])))
              clear ha
              go_simp
              exact HK.out _ _ (HI.out.val hsn.out 15 80 _ rfl rfl (by decide) SPX.out (zk.out _ (Span.refl 0 0 _)))
            · have f80 := (HAG.out.at_ (s := 80) (of_decide_eq_true (by kernel_rfl)) (by decide)).trans (HV.out 15 80 _ rfl rfl (by simp [ha]))
              have g73 := (HAG.out.get (s := 73) (of_decide_eq_true (by kernel_rfl)) (by decide)).trans (congrArg some (HV.out 8 73 _ rfl rfl (by simp [ha])))
              obtain ⟨e0, e1, e3⟩ := CF.out _ SPX.out
              clear ha
              go_simp
              exact HK.out _ _ (HI.out.val hsn.out 16 81 _ rfl rfl (by decide) SPX.out (zk.out _ (Span.refl 0 0 _)))
            · have g73 := (HAG.out.get (s := 73) (of_decide_eq_true (by kernel_rfl)) (by decide)).trans (congrArg some (HV.out 8 73 _ rfl rfl (by simp [ha])))
              clear ha
              go_simp
              exact HK.out _ _ (HI.out.val hsn.out 17 82 _ rfl rfl (by decide) SPX.out (zk.out _ (Span.refl 0 0 _)))
            · have f82 := (HAG.out.at_ (s := 82) (of_decide_eq_true (by kernel_rfl)) (by decide)).trans (HV.out 17 82 _ rfl rfl (by simp [ha]))
              have g73 := (HAG.out.get (s := 73) (of_decide_eq_true (by kernel_rfl)) (by decide)).trans (congrArg some (HV.out 8 73 _ rfl rfl (by simp [ha])))
              clear ha
              go_simp
              exact HK.out _ _ (HI.out.val hsn.out 18 83 _ rfl rfl (by decide) SPX.out (zk.out _ (Span.refl 0 0 _)))
            · have f81 := (HAG.out.at_ (s := 81) (of_decide_eq_true (by kernel_rfl)) (by decide)).trans (HV.out 16 81 _ rfl rfl (by simp [ha]))
              have f83 := (HAG.out.at_ (s := 83) (of_decide_eq_true (by kernel_rfl)) (by decide)).trans (HV.out 18 83 _ rfl rfl (by simp [ha]))
              have g73 := (HAG.out.get (s := 73) (of_decide_eq_true (by kernel_rfl)) (by decide)).trans (congrArg some (HV.out 8 73 _ rfl rfl (by simp [ha])))
              clear ha
              go_simp
              exact HK.out _ _ (HI.out.val hsn.out 19 84 _ rfl rfl (by decide) SPX.out (zk.out _ (Span.refl 0 0 _)))
            · have f78 := (HAG.out.at_ (s := 78) (of_decide_eq_true (by kernel_rfl)) (by decide)).trans (HV.out 13 78 _ rfl rfl (by simp [ha]))
              have f84 := (HAG.out.at_ (s := 84) (of_decide_eq_true (by kernel_rfl)) (by decide)).trans (HV.out 19 84 _ rfl rfl (by simp [ha]))
              have g73 := (HAG.out.get (s := 73) (of_decide_eq_true (by kernel_rfl)) (by decide)).trans (congrArg some (HV.out 8 73 _ rfl rfl (by simp [ha])))
              clear ha
              go_simp
              refine (E2.out _ _ _ SPX.out GE.out.1 GE.out.2).mono ?_
              rintro _ _ ⟨rfl, m1, rfl⟩
              have h := HK.out (.bool true) _ (HI.out.val hsn.out 20 85 _ rfl rfl (by decide) (SPX.out.drewN m1) (zk.out _ ((Span.refl 0 0 _).drewN m1)))
              clear HK HI HV HZZ HAG zk
              go_wp2_with fail
              exact h
            · have f73 := (HAG.out.at_ (s := 73) (of_decide_eq_true (by kernel_rfl)) (by decide)).trans (HV.out 8 73 _ rfl rfl (by simp [ha]))
              have f85 := (HAG.out.at_ (s := 85) (of_decide_eq_true (by kernel_rfl)) (by decide)).trans (HV.out 20 85 _ rfl rfl (by simp [ha]))
              have g73 := (HAG.out.get (s := 73) (of_decide_eq_true (by kernel_rfl)) (by decide)).trans (congrArg some (HV.out 8 73 _ rfl rfl (by simp [ha])))
              clear ha
              go_simp
              exact HK.out _ _ (HI.out.val hsn.out 21 86 _ rfl rfl (by decide) SPX.out (zk.out _ (Span.refl 0 0 _)))
            · have f86 := (HAG.out.at_ (s := 86) (of_decide_eq_true (by kernel_rfl)) (by decide)).trans (HV.out 21 86 _ rfl rfl (by simp [ha]))
              clear ha
              go_simp
              exact HK.out _ _ (HI.out.val hsn.out 22 87 _ rfl rfl (by decide) SPX.out (zk.out _ (Span.refl 0 0 _)))
            · have g87 := (HAG.out.get (s := 87) (of_decide_eq_true (by kernel_rfl)) (by decide)).trans (congrArg some (HV.out 22 87 _ rfl rfl (by simp [ha])))
              clear ha
              go_simp
              exact HK.out _ _ (HI.out.val hsn.out 23 88 _ rfl rfl (by decide) SPX.out (zk.out _ (Span.refl 0 0 _)))
            · have f88 := (HAG.out.at_ (s := 88) (of_decide_eq_true (by kernel_rfl)) (by decide)).trans (HV.out 23 88 _ rfl rfl (by simp [ha]))
              have g87 := (HAG.out.get (s := 87) (of_decide_eq_true (by kernel_rfl)) (by decide)).trans (congrArg some (HV.out 22 87 _ rfl rfl (by simp [ha])))
              clear ha
              go_simp
              exact HK.out _ _ (HI.out.val hsn.out 24 89 _ rfl rfl (by decide) SPX.out (zk.out _ (Span.refl 0 0 _)))
            · have f89 := (HAG.out.at_ (s := 89) (of_decide_eq_true (by kernel_rfl)) (by decide)).trans (HV.out 24 89 _ rfl rfl (by simp [ha]))
              have g87 := (HAG.out.get (s := 87) (of_decide_eq_true (by kernel_rfl)) (by decide)).trans (congrArg some (HV.out 22 87 _ rfl rfl (by simp [ha])))
              obtain ⟨e0, e1, e3⟩ := CF.out _ SPX.out
              clear ha
              go_simp
              exact HK.out _ _ (HI.out.val hsn.out 25 90 _ rfl rfl (by decide) SPX.out (zk.out _ (Span.refl 0 0 _)))
            · have g87 := (HAG.out.get (s := 87) (of_decide_eq_true (by kernel_rfl)) (by decide)).trans (congrArg some (HV.out 22 87 _ rfl rfl (by simp [ha])))
              clear ha
              go_simp
              exact HK.out _ _ (HI.out.val hsn.out 26 91 _ rfl rfl (by decide) SPX.out (zk.out _ (Span.refl 0 0 _)))
            · have f91 := (HAG.out.at_ (s := 91) (of_decide_eq_true (by kernel_rfl)) (by decide)).trans (HV.out 26 91 _ rfl rfl (by simp [ha]))
              have g87 := (HAG.out.get (s := 87) (of_decide_eq_true (by kernel_rfl)) (by decide)).trans (congrArg some (HV.out 22 87 _ rfl rfl (by simp [ha])))
              clear ha
              go_simp
              exact HK.out _ _ (HI.out.val hsn.out 27 92 _ rfl rfl (by decide) SPX.out (zk.out _ (Span.refl 0 0 _)))
            · have f92 := (HAG.out.at_ (s := 92) (of_decide_eq_true (by kernel_rfl)) (by decide)).trans (HV.out 27 92 _ rfl rfl (by simp [ha]))
              have g87 := (HAG.out.get (s := 87) (of_decide_eq_true (by kernel_rfl)) (by decide)).trans (congrArg some (HV.out 22 87 _ rfl rfl (by simp [ha])))
              obtain ⟨e0, e1, e3⟩ := CF.out _ SPX.out
              clear ha
              go_simp
              exact HK.out _ _ (HI.out.val hsn.out 28 93 _ rfl rfl (by decide) SPX.out (zk.out _ (Span.refl 0 0 _)))
            · have f90 := (HAG.out.at_ (s := 90) (of_decide_eq_true (by kernel_rfl)) (by decide)).trans (HV.out 25 90 _ rfl rfl (by simp [ha]))
              have f93 := (HAG.out.at_ (s := 93) (of_decide_eq_true (by kernel_rfl)) (by decide)).trans (HV.out 28 93 _ rfl rfl (by simp [ha]))
              have g87 := (HAG.out.get (s := 87) (of_decide_eq_true (by kernel_rfl)) (by decide)).trans (congrArg some (HV.out 22 87 _ rfl rfl (by simp [ha])))
              clear ha
              go_simp
              refine (E3.out _ SPX.out).mono ?_
              rintro _ _ ⟨rfl, m1, rfl⟩
              have h := HK.out (.bool true) _ (HI.out.val hsn.out 29 94 _ rfl rfl (by decide) (SPX.out.drewN m1) (zk.out _ ((Span.refl 0 0 _).drewN m1)))
              clear HK HI HV HZZ HAG zk
              go_wp2_with fail
              exact h
            · have f87 := (HAG.out.at_ (s := 87) (of_decide_eq_true (by kernel_rfl)) (by decide)).trans (HV.out 22 87 _ rfl rfl (by simp [ha]))
              have f94 := (HAG.out.at_ (s := 94) (of_decide_eq_true (by kernel_rfl)) (by decide)).trans (HV.out 29 94 _ rfl rfl (by simp [ha]))
              have g87 := (HAG.out.get (s := 87) (of_decide_eq_true (by kernel_rfl)) (by decide)).trans (congrArg some (HV.out 22 87 _ rfl rfl (by simp [ha])))
              clear ha
              go_simp
              exact HK.out _ _ (HI.out.val hsn.out 30 95 _ rfl rfl (by decide) SPX.out (zk.out _ (Span.refl 0 0 _)))
            · have f95 := (HAG.out.at_ (s := 95) (of_decide_eq_true (by kernel_rfl)) (by decide)).trans (HV.out 30 95 _ rfl rfl (by simp [ha]))
              clear ha
              go_simp
              exact HK.out _ _ (HI.out.val hsn.out 31 2 _ rfl rfl (by decide) SPX.out (zk.out _ (Span.refl 0 0 _)))
          --R18B
  · have hn' : (1048576 : Int) < (n : Int) := by omega
    go_enter Try.func3, Try.ntmps3
    go_wp2_with fail
    go_ret
    exact ⟨rfl, Below.refl _ _⟩
end Go.Proofs.Ytpiiflhdllpoiaa
