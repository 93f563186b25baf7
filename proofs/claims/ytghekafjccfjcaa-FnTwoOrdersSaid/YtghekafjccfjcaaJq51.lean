/- The law FnTwoOrders. -/
import Derived.Test.YtghekafjccfjcaaJq13
import Derived.Test.YtghekafjccfjcaaJq11
import Derived.Test.YtghekafjccfjcaaJq4
import Derived.Test.YtghekafjccfjcaaJq14
import Derived.Test.YtghekafjccfjcaaJq17
import Derived.Test.YtghekafjccfjcaaJq50
import Derived.Test.YtghekafjccfjcaaJq25
import Derived.Deep.DeepCutAuto
import Derived.Outline
namespace Go.Proofs.Ytghekafjccfjcaa
open Go.RowKit

def fV (x : Nat) : Value := .float .f32 x
theorem fe_is {k : FloatKind} {a b : Nat} (h : FE k a b) (hn : nanB k b = false) : a = b := by
  rcases h with h | ⟨_, h⟩
  · exact h
  · rw [hn] at h; cases h

theorem hasF_fV {w : World} {o : Bool} {b lo hi : Nat} {v : Value} {xs : List Nat} (h : HasS fV o b lo hi w v xs) : HasF w v xs := by
  obtain ⟨A, cap, rfl, hcap, hc⟩ := h
  refine ⟨A, cap, rfl, hcap, fun hp => ?_⟩
  obtain ⟨off, rfl, _, _, _, hcell, _⟩ := hc hp
  refine ⟨b, off, rfl, fun j hj => ?_⟩
  obtain ⟨x, hx⟩ := getElem?_some hj
  rw [hcell j x hx, List.getD_eq_getElem?_getD, hx]; rfl
theorem owns_hasF {w : World} {base : Nat} {v : Value} {n : Nat} {xs : List Nat} (h : w.ownsRow base 24 1 v n (xs.map fV)) : HasF w v xs := by
  obtain ⟨b, h1, _⟩ := ownsRow_hasS h
  exact hasF_fV h1
theorem ar_is {op : BinOp} {k : FloatKind} {x y z : Nat} (h : fC op k x y = z) (hn : nanB k z = false) : (∀ w, fAr op k x y w = z) ∧ fDr op k x y = 0 := by
  cases h1 : floatBits op k x y with
  | none => rw [← h, fC_nan h1] at hn; cases hn
  | some r =>
    have h2 := ar_of h1
    have h3 : fC op k x y = r := by unfold fC; rw [h1]
    rw [← h, h3]
    exact h2
theorem nan_ups : ((List.range 101).all fun m => nanB .f32 (1266679808 + m) == false && nanB .f64 (dBig (2 * m)) == false && FloatKind.f32.format.order (1266679808 + m) (1266679808 + m) == some .eq && FloatKind.f64.format.order (dBig (2 * m)) (dBig (2 * m)) == some .eq) = true := by decide +kernel
theorem ups (m : Nat) (hm : m ≤ 100) : nanB .f32 (1266679808 + m) = false ∧ nanB .f64 (dBig (2 * m)) = false ∧ FloatKind.f32.format.order (1266679808 + m) (1266679808 + m) = some .eq ∧ FloatKind.f64.format.order (dBig (2 * m)) (dBig (2 * m)) = some .eq := by
  have := all_lt nan_ups (show m < 101 by omega)
  simp only [Bool.and_eq_true, beq_iff_eq] at this
  exact ⟨this.1.1.1, this.1.1.2, this.1.2, this.2⟩

theorem HasC.new {α : Type} {fl : α → List Value} {s : Nat} (hf : ∀ x, (fl x).length = s) (L : List α) (w : World) (t : TypeId) : HasC s fl w.heap.size w.heap.size (w.heap.size + 1) (w.alloc (.cells (flatG fl L).toArray t)) (.slice (some ⟨w.heap.size, 0, none⟩) L.length L.length) L := by
  refine ⟨_, L.length, rfl, Nat.le_refl _, fun hp => ⟨0, rfl, Nat.le_refl _, Nat.lt_succ_self _, by simp, fun j x i u hj hi => ?_⟩⟩
  have hi' : i < s := by have := (List.getElem?_eq_some_iff.1 hi).1; rw [hf] at this; exact this
  rw [World.cell?_alloc_new, Nat.zero_add, List.getElem?_toArray, flatG_get hf L j x i hj hi']
  exact hi
theorem HasS.first {b lo hi g n c : Nat} {o : Bool} {w : World} {x : Cx} (h : HasS cxV o b lo hi w (.slice (some ⟨g, 0, none⟩) n c) [x]) : w.cell? ⟨g, 0, none⟩ = some (.complex .f32 x.1 x.2) := by
  obtain ⟨A, cap, e, _, hc⟩ := h
  injection e with e1 e2 e3
  obtain ⟨off, e4, _, _, _, h5, _⟩ := hc (by simp)
  rw [← e1] at e4
  injection e4 with e4
  injection e4 with e5 e6
  have := h5 0 x rfl
  rw [← e5, ← e6] at this
  exact this

theorem two_ok {w : World} : ∀ x ∈ twoMs, OkM w x := by
  intro x hx
  simp only [twoMs, List.mem_cons, List.not_mem_nil, or_false] at hx
  rcases hx with rfl | rfl | rfl
  · exact okM_source _ _ _
  · exact okM_source _ _ _
  · exact okM_sum _
theorem rk_first (w : World) : RkAt (((w.alloc (.cells (flatG Mw.l twoMs).toArray 37)).alloc (.cells (flatG cabC Cs1).toArray 42)).alloc (.cells #[.slice (some ⟨w.heap.size, 0, none⟩) 3 3, .slice (some ⟨w.heap.size + 1, 0, none⟩) 3 3] 45)) w.heap.size (w.heap.size + 1) w.heap.size (w.heap.size + 2) (some ⟨w.heap.size, 0, none⟩) 3 3 (some ⟨w.heap.size + 1, 0, none⟩) 3 3 twoMs Cs1 := by
  have hm := HasC.new (fl := Mw.l) (s := 11) (fun _ => rfl) twoMs w 37
  have hc := HasC.new (fl := cabC) (s := 2) (fun _ => rfl) Cs1 (w.alloc (.cells (flatG Mw.l twoMs).toArray 37)) 42
  rw [show (w.alloc (.cells (flatG Mw.l twoMs).toArray 37)).heap.size = w.heap.size + 1 by simp] at hc
  refine ⟨((hm.keep ((Span.refl 0 0 _).alloc _)).keep ((Span.refl 0 0 _).alloc _)).weak (Nat.le_refl _) (.inl (by omega)), (hc.keep ((Span.refl 0 0 _).alloc _)).weak (by omega) (.inl (Nat.le_refl _)), by decide, two_ok, ?_⟩
  intro x hx
  simp only [Cs1, List.mem_cons, List.not_mem_nil, or_false] at hx
  rcases hx with rfl | rfl | rfl <;> decide

theorem rk_second {w : World} {Z : Nat} (h : RkAt w Z (Z + 1) Z (Z + 2) (some ⟨Z, 0, none⟩) 3 3 (some ⟨Z + 1, 0, none⟩) 3 3 twoMs Cs1) (hZ : Z + 2 < w.heap.size) (X : Obj) (v : Value) : RkAt (((w.alloc X).alloc (.cells (flatG cabC Cs2).toArray 42)).setCell ⟨Z + 1 + 1, 1, none⟩ v) Z (w.heap.size + 1) Z (w.heap.size + 2) (some ⟨Z, 0, none⟩) 3 3 (some ⟨w.heap.size + 1, 0, none⟩) 3 3 twoMs Cs2 := by
  have hc := HasC.new (fl := cabC) (s := 2) (fun _ => rfl) Cs2 (w.alloc X) 42
  rw [show (w.alloc X).heap.size = w.heap.size + 1 by simp] at hc
  refine ⟨(((h.mods.keep ((Span.refl 0 0 _).alloc _)).keep ((Span.refl 0 0 _).alloc _)).span (setSpan (Z + 1 + 1) 1 v _) (by omega)).weak (Nat.le_refl _) (.inl (by omega)), (hc.span (setSpan (Z + 1 + 1) 1 v _) (by omega)).weak (by omega) (.inl (Nat.le_refl _)), by decide, two_ok, ?_⟩
  intro x hx
  simp only [Cs2, List.mem_cons, List.not_mem_nil, or_false] at hx
  rcases hx with rfl | rfl | rfl <;> decide

set_option maxRecDepth 100000 in
set_option maxHeartbeats 8000000 in
theorem law_twoOrders (A : Option Addr) (n c : Nat) (w : World) (h : HasBy w.heap.size w A n) : Calls Try.prog 3 #[.slice A n c] w (Says w) := by
  by_cases hn : n ≤ 1048576
  · have HN := Lib.hid hn
    have HBy := Lib.hid h
    have hn' : (n : Int) ≤ 1048576 := by omega
    obtain ⟨ip, hip, hzp, hsp, hbp⟩ := info_parts info_f32
    clear h hn
    go_enter Try.func3, Try.ntmps3
    go_wp2_with fail
    refine (at_any _ A n c 1 w (by decide) (by decide) HN.out HBy.out).mono ?_
    rintro _ _ ⟨⟨v, rfl, v0, v1⟩, rfl⟩
    obtain ⟨m, hm, m1, m2⟩ : ∃ m : Nat, 1 + v % 100 = (m : Int) ∧ 1 ≤ m ∧ m ≤ 100 := ⟨(1 + v % 100).toNat, by omega, by omega, by omega⟩
    go_wp2_with fail
    try rw [hm]
    have HM := Lib.hid (And.intro m1 m2)
    have i1 : (1 : Int) ≤ (m : Int) := by omega
    have i2 : (m : Int) ≤ 100 := by omega
    clear hm v0 v1 m1 m2
    have HO : Hid ((w.alloc (.cells #[.float .f32 1266679808] 24)).ownsRow w.heap.size 24 1 (.slice (some ⟨w.heap.size, 0, none⟩) 1 1) 1 ([1266679808].map fV)) := ⟨by simp, .inr ⟨w.heap.size, 1, #[.float .f32 1266679808], rfl, Nat.le_refl _, heap_alloc_new w _, Nat.le_refl _, by decide, by simp, by simp [fV]⟩⟩
    have HS := Lib.hid ((Span.refl 0 0 w).alloc (.cells #[.float .f32 1266679808] 24))
    generalize w.alloc (.cells #[.float .f32 1266679808] 24) = w1 at *
    go_loopw [4, 5] (fun u q wr => ∃ k : Nat, k ≤ 2 * m ∧ q = .int .i64 k ∧ wr.ownsRow w.heap.size 24 1 u (k + 1) ((1266679808 :: List.replicate k 1065353216).map fV) ∧ Span 0 0 w wr) (fun _ q _ => 2 * m - (intOf q).toNat)
    case atStart => exact ⟨0, Nat.zero_le _, rfl, HO.out, HS.out⟩
    case round =>
      clear HO HS
      obtain ⟨k, hk, rfl, ho, hs⟩ := hrel
      by_cases hlt : k < 2 * m
      · have HO := Lib.hid ho
        have HS := Lib.hid hs
        have HLT := Lib.hid hlt
        have j1 : (k : Int) < 2 * (m : Int) := by omega
        have j0 : (0 : Int) ≤ (k : Int) := by omega
        clear ho hs hlt hk
        go_wp2_with (at_builtin; go_loud ((refine wpList_append_own _ rfl _ _ 25 rfl w.heap.size 24 ip (.float .f32 0) 1 4 Try.underlying25 hip hzp hsp hbp rfl (by decide) _ _ _ rfl (HO.out.alloc _) ⟨wr.heap.size, 0, none⟩ 1 1 [fV 1065353216] rfl rfl ?c1 ?c2 ?c3 ?c4 ?c5 ?_); (case c1 => exact one_new _ _ _); (case c2 => exact one_cell (by rfl)); (case c3 => have := HLT.out; have := HM.out; unfold maxLen; omega); (case c4 => have := HLT.out; have := HM.out; omega); (case c5 => have := HS.out.size; simp; omega); intro v2 w4 ho4 hg4 _; have HS4 := Lib.hid ((HS.out.alloc (.cells #[.float .f32 1065353216] 24)).grown hg4 (fun k hk => .inr (HO.out.lt k hk).1)); have HO4 := Lib.hid ho4; clear ho4 hg4))
        go_roundw
        case rel =>
          refine ⟨k + 1, HLT.out, by go_num, ?_, HS4.out⟩
          have := HO4.out
          rw [← List.map_singleton, ← List.map_append, List.cons_append, ← List.replicate_succ'] at this
          exact this
        case measure => have := HLT.out; simp [intOf]; omega
      · have hkm : k = 2 * m := by omega
        subst hkm
        obtain ⟨g, cap, rfl, hg, hgl⟩ := ho.form (by omega)
        have HO := Lib.hid ho
        have HS := Lib.hid hs
        have j1 : ((2 * m : Nat) : Int) = 2 * (m : Int) := by omega
        have hm := HM.out
        obtain ⟨u1, u2, u3, u4⟩ := ups m hm.2
        have o0 : FloatKind.f32.format.order 1266679808 1266679808 = some .eq := (ups 0 (by decide)).2.2.1
        obtain ⟨f1, f2⟩ := ar_is (orders_right m hm.2).1 u1
        obtain ⟨f3, f4⟩ := ar_is (orders_right m hm.2).2 u2
        rw [show fi ((2 * m : Nat) : Int) = floatOfInt .f32 (2 * (m : Int)) by unfold fi; rw [j1]] at f1 f2
        rw [j1, show dBig 0 = 4715268809856909312 by decide] at f3 f4
        obtain ⟨X, hX⟩ : ∃ X, X = 1266679808 + m := ⟨_, rfl⟩
        obtain ⟨Y, hY⟩ : ∃ Y, Y = dBig (2 * m) := ⟨_, rfl⟩
        rw [← hX] at f1 u1 u3
        rw [← hY] at f3 u2 u4
        have HU := Lib.hid (And.intro u1 u2)
        have SF := Lib.hid (fun d => impl_sumForward (1266679808 :: List.replicate (2 * m) 1065353216) (.slice (some ⟨g, 0, none⟩) (2 * m + 1) cap) (wr.drewN d) ((owns_hasF ho).drewN d) (by simp; omega))
        have SS := Lib.hid (fun d => impl_sumSteady (1266679808 :: List.replicate (2 * m) 1065353216) (.slice (some ⟨g, 0, none⟩) (2 * m + 1) cap) (wr.drewN d) ((owns_hasF ho).drewN d) (by simp; omega))
        have SD := Lib.hid (fun d => impl_sumDouble (1266679808 :: List.replicate (2 * m) 1065353216) (.slice (some ⟨g, 0, none⟩) (2 * m + 1) cap) (wr.drewN d) ((owns_hasF ho).drewN d) (by simp; omega))
        rw [orders_sumF] at SF
        rw [orders_steady m hm.2, ← hX] at SS
        rw [orders_sumD (2 * m) (by omega), ← hY] at SD
        have HX := Lib.hid hX
        clear ho hs hlt hk hm u1 u2 hX hY
        go_wp2_with fail
        refine (SF.out 0).mono ?_
        rintro _ _ ⟨r, d, rfl, rfl, hr⟩
        obtain rfl := fe_is hr (ups 0 (by decide)).1
        clear hr
        go_wp2_with fail
        refine (SS.out _).mono ?_
        rintro _ _ ⟨r, d2, rfl, rfl, hr⟩
        obtain rfl := fe_is hr HU.out.1
        clear hr
        go_wp2_with fail
        refine (SD.out _).mono ?_
        rintro _ _ ⟨r, d3, rfl, rfl, hr⟩
        obtain rfl := fe_is hr HU.out.2
        clear hr
        go_upto_region 11 with fail
        have HOD : Hid ((wr.drewN (d + d2 + d3)).ownsRow w.heap.size 24 1 (.slice (some ⟨g, 0, none⟩) (2 * m + 1) cap) (2 * m + 1) ((1266679808 :: List.replicate (2 * m) 1065353216).map fV)) := HO.out
        have HSD : Hid (Span 0 0 w (wr.drewN (d + d2 + d3))) := HS.out.drewN _
        have EZ : Hid ((wr.drewN (d + d2 + d3)).heap.size = wr.heap.size) := rfl
        generalize wr.drewN (d + d2 + d3) = wd at *
        obtain ⟨Gz, hGz⟩ : ∃ t, t = wr.heap.size := ⟨_, rfl⟩
        rw [← hGz] at EZ
        try rw [← hGz]
        clear hGz HO HS SF SS SD
        have hc1 : 2 * m + 1 ≤ cap := by
          rcases HOD.out.2 with ⟨h, _⟩ | ⟨g', c', cur, h, _, _, h2, _⟩
          · cases h
          · injection h with h3 h4 h5; omega
        have hc2 : (cap = 1) = False := eq_false (by have := HM.out; omega)
        have hc3 : (1 = cap) = False := eq_false (by have := HM.out; omega)
        have HE : Hid ((wd.alloc (.cells #[] 24)).ownsRow w.heap.size 24 1 (.slice (some ⟨wd.heap.size, 0, none⟩) 0 0) 0 []) := World.ownsRow_made wd #[] 0 HSD.out.size (by decide) rfl
        have HNW : Hid (∀ j u, ((List.replicate (2 * m) 1065353216).map fV)[j]? = some u → (wd.alloc (.cells #[] 24)).cell? ((⟨g, 1, none⟩ : Addr).add j) = some u) := fun j u hj => by
          have h1 := (HOD.out.alloc (.cells #[] 24)).cells rfl (j + 1) u (by rw [List.map_cons, List.getElem?_cons_succ]; exact hj)
          rw [Addr.add_lit] at h1 ⊢
          rwa [show 1 + j = 0 + (j + 1) by omega]
        go_wp2_with (first
          | (at_builtin; (refine wpList_append_own _ rfl (.tmp 52) (.tmp 54) 25 rfl w.heap.size 24 ip (.float .f32 0) 1 4 Try.underlying25 hip hzp hsp hbp rfl (by decide) _ _ _ rfl HE.out ⟨g, 1, none⟩ (2 * m) (cap - 1) ((List.replicate (2 * m) 1065353216).map fV) rfl ?c1 ?c2 ?c3 ?c4 ?c5 ?c6 ?_); (case c1 => simp); (case c2 => exact HNW.out); (case c3 => intro u hu; simp at hu; rw [hu.2]; rfl); (case c4 => have := HM.out; unfold maxLen; omega); (case c5 => have := HM.out; omega); (case c6 => have := HSD.out.size; simp; omega); intro v5 w5 ho5 hg5 _; have S5 := Lib.hid ((HSD.out.alloc (.cells #[] 24)).grown hg5 (fun k hk => .inr (HE.out.lt k hk).1)); have HO5 := Lib.hid ho5; clear ho5 hg5)
          | (at_builtin; (refine wpList_append_own _ rfl (.tmp 55) (.tmp 56) 25 rfl w.heap.size 24 ip (.float .f32 0) 1 4 Try.underlying25 hip hzp hsp hbp rfl (by decide) _ _ _ rfl (HO5.out.alloc _) ⟨w5.heap.size, 0, none⟩ 1 1 [fV 1266679808] rfl rfl ?d1 ?d2 ?d3 ?d4 ?d5 ?_); (case d1 => exact one_new _ _ _); (case d2 => exact one_cell (by rfl)); (case d3 => have := HM.out; unfold maxLen; omega); (case d4 => have := HM.out; omega); (case d5 => have := S5.out.size; simp; omega); intro v6 w6 ho6 hg6 _; have S6 := Lib.hid ((S5.out.alloc (.cells #[.float .f32 1266679808] 24)).grown hg6 (fun k hk => .inr (HO5.out.lt k hk).1)); have HO6 := Lib.hid ho6; clear ho6 hg6))
        have HL6 : Hid (w6.ownsRow w.heap.size 24 1 v6 (0 + 2 * m + 1) ((List.replicate (2 * m) 1065353216 ++ [1266679808]).map fV)) := by
          have h1 := HO6.out
          rw [List.nil_append] at h1
          rw [List.map_append]
          exact h1
        have SL := Lib.hid (impl_sumForward (List.replicate (2 * m) 1065353216 ++ [1266679808]) v6 w6 (owns_hasF HL6.out) (by have := HM.out; simp; omega))
        rw [orders_last m HM.out.2, ← HX.out] at SL
        clear HOD HE HNW HO5 HO6 S5 HSD hc1 hc2 hc3
        refine SL.out.mono ?_
        rintro _ _ ⟨r', d4, rfl, rfl, hr⟩
        obtain rfl := fe_is hr HU.out.1
        clear hr
        go_wp2_with fail
        refine (newSourceK_is _ _ _ _ _).mono ?_
        rintro _ w7 ⟨rfl, s7⟩
        have S7 := Lib.hid ((S6.out.drewN d4).trans s7)
        clear s7 S6 HL6 HU HX f1 f2 f3 f4 u3 u4 o0
        go_wp2_with fail
        refine (newSourceK_is _ _ _ _ _).mono ?_
        rintro _ w8 ⟨rfl, s8⟩
        have S8 := Lib.hid (S7.out.trans s8)
        clear s8 S7
        go_wp2_with fail
        refine (newSumK_is _).mono ?_
        rintro _ w9 ⟨rfl, s9⟩
        have S9 := Lib.hid (S8.out.trans s9)
        clear s9 S8
        go_wp2_with fail
        change Calls Try.prog _ _ (((w9.alloc (.cells (flatG Mw.l twoMs).toArray 37)).alloc (.cells (flatG cabC Cs1).toArray 42)).alloc (.cells #[.slice (some ⟨w9.heap.size, 0, none⟩) 3 3, .slice (some ⟨w9.heap.size + 1, 0, none⟩) 3 3] 45)) _
        have RK := Lib.hid (rk_first w9)
        have BK := Bx.new ((w9.alloc (.cells (flatG Mw.l twoMs).toArray 37)).alloc (.cells (flatG cabC Cs1).toArray 42)) #[.slice (some ⟨w9.heap.size, 0, none⟩) 3 3, .slice (some ⟨w9.heap.size + 1, 0, none⟩) 3 3] 45
        rw [show ((w9.alloc (.cells (flatG Mw.l twoMs).toArray 37)).alloc (.cells (flatG cabC Cs1).toArray 42)).heap.size = w9.heap.size + 2 by simp] at BK
        have BK := Lib.hid BK
        have SK := Lib.hid (((S9.out.alloc (.cells (flatG Mw.l twoMs).toArray 37)).alloc (.cells (flatG cabC Cs1).toArray 42)).alloc (.cells #[.slice (some ⟨w9.heap.size, 0, none⟩) 3 3, .slice (some ⟨w9.heap.size + 1, 0, none⟩) 3 3] 45))
        have W9 := Lib.hid S9.out.size
        generalize ((w9.alloc (.cells (flatG Mw.l twoMs).toArray 37)).alloc (.cells (flatG cabC Cs1).toArray 42)).alloc (.cells #[.slice (some ⟨w9.heap.size, 0, none⟩) 3 3, .slice (some ⟨w9.heap.size + 1, 0, none⟩) 3 3] 45) = wk at *
        obtain ⟨Z, hZ⟩ : ∃ t, t = w9.heap.size := ⟨_, rfl⟩
        rw [← hZ] at RK BK W9 ⊢
        clear hZ S9
        refine (run_two1 RK.out (by have := BK.out.1; omega)).mono ?_
        rintro _ w11 ⟨b1, g1, bC1, Ns1, A1, q1, rfl, -, hg1, -, -, -, -, hy1, s11⟩
        have RK2 := Lib.hid (RK.out.keep s11)
        have BK2 := Lib.hid (BK.out.keep s11)
        have S11 := Lib.hid (SK.out.trans s11)
        have HY1 := Lib.hid hy1
        have HG1 := Lib.hid (show Z + 2 < g1 by have := BK.out.1; omega)
        have W11 : Hid (Z + 2 < w11.heap.size) := BK2.out.1
        have k0 := fun o o' => ((BK2.out.alloc o).alloc o').cells
        have kf := fun o o' => ((BK2.out.alloc o).alloc o').thaw
        have G1 := Lib.hid hy1.first
        have G1W : Hid (g1 < w11.heap.size) := by
          obtain ⟨_, _, _, _, hc⟩ := hy1
          obtain ⟨_, _, _, _, h3, _⟩ := hc (by simp)
          exact h3
        clear s11 hy1 hg1 RK BK SK
        go_wp2_with fail
        change Calls Try.prog _ _ (((w11.alloc (.cells #[.slice (some ⟨b1, 0, none⟩) 3 3, .slice A1 3 q1] 45)).alloc (.cells (flatG cabC Cs2).toArray 42)).setCell ⟨Z + 1 + 1, 1, none⟩ (.slice (some ⟨w11.heap.size + 1, 0, none⟩) 3 3)) _
        have RK3 := Lib.hid (rk_second RK2.out W11.out (.cells #[.slice (some ⟨b1, 0, none⟩) 3 3, .slice A1 3 q1] 45) (.slice (some ⟨w11.heap.size + 1, 0, none⟩) 3 3))
        have S12 := Lib.hid (((S11.out.alloc (.cells #[.slice (some ⟨b1, 0, none⟩) 3 3, .slice A1 3 q1] 45)).alloc (.cells (flatG cabC Cs2).toArray 42)).newTo (setSpan (Z + 1 + 1) 1 (.slice (some ⟨w11.heap.size + 1, 0, none⟩) 3 3) _) (by have := W9.out; omega))
        have G2 := Lib.hid (((HY1.out.alloc (.cells #[.slice (some ⟨b1, 0, none⟩) 3 3, .slice A1 3 q1] 45)).alloc (.cells (flatG cabC Cs2).toArray 42)).span (setSpan (Z + 1 + 1) 1 (.slice (some ⟨w11.heap.size + 1, 0, none⟩) 3 3) _) (by have := HG1.out; omega))
        have W12 : Hid (Z < (((w11.alloc (.cells #[.slice (some ⟨b1, 0, none⟩) 3 3, .slice A1 3 q1] 45)).alloc (.cells (flatG cabC Cs2).toArray 42)).setCell ⟨Z + 1 + 1, 1, none⟩ (.slice (some ⟨w11.heap.size + 1, 0, none⟩) 3 3)).heap.size) := by
          have := W11.out
          unfold Hid
          simp [World.setCell]
          omega
        generalize ((w11.alloc (.cells #[.slice (some ⟨b1, 0, none⟩) 3 3, .slice A1 3 q1] 45)).alloc (.cells (flatG cabC Cs2).toArray 42)).setCell ⟨Z + 1 + 1, 1, none⟩ (.slice (some ⟨w11.heap.size + 1, 0, none⟩) 3 3) = wl at *
        clear k0 kf
        refine (run_two2 RK3.out W12.out).mono ?_
        rintro _ w13 ⟨b2, g2, bC2, Ns2, A2, q2, rfl, -, -, -, -, -, -, hy2, s13⟩
        have x1 := fun o => ((G2.out.span s13 (.inl (Nat.le_refl _))).alloc o).first
        have x2 := fun o => (hy2.alloc o).first
        have S13 := Lib.hid (S12.out.trans s13)
        have o1 : FloatKind.f32.format.order 1266679808 1266679808 = some .eq := by decide +kernel
        have o2 : FloatKind.f32.format.order 1266679809 1266679809 = some .eq := by decide +kernel
        have o3 : FloatKind.f32.format.order 0 0 = some .eq := by decide +kernel
        simp only [big2] at x1
        clear s13 hy2 G1 G2 RK2 RK3 BK2 HY1 S11 S12
        go_wp2_with fail
        go_ret
        have hs := S13.out.alloc (.cells #[.slice (some ⟨b2, 0, none⟩) 3 3, .slice A2 3 q2] 45)
        exact ⟨rfl, hs.os, hs.tape, hs.output, hs.size, fun k hk => hs.block k hk (by omega)⟩
  · have hn' : (1048576 : Int) < (n : Int) := by omega
    go_enter Try.func3, Try.ntmps3
    go_wp2_with fail
    go_ret
    exact ⟨rfl, Below.refl _ _⟩
end Go.Proofs.Ytghekafjccfjcaa
