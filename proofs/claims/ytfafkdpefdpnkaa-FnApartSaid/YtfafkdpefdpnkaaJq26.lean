/- Frames: compared, found, sealed, turned back. -/
import Derived.Test.YtfafkdpefdpnkaaJq25
import Derived.Deep.RegionWith
import Derived.BigQuiet
import Derived.Deep.DeepCutAuto
import Derived.Outline
namespace Go.Proofs.Ytfafkdpefdpnkaa
open Go.RowKit

section
variable {P : Program} (w : World)
theorem run_cAr (op : BinOp) (t : TypeId) (k : FloatKind) (a b c d : Nat) (h : op = .add ∨ op = .sub) :
    (binOp op t (.complex k a b) (.complex k c d)).run P w = .ok (.complex k (fAr op k a c w) (fAr op k b d (w.drewN (fDr op k a c)))) (w.drewN (fDr op k a c + fDr op k b d)) := by
  have q : ∀ (x y : Nat) (w : World), (Op.floatArith op k x y).run P w = .ok (.float k (fAr op k x y w)) (w.drewN (fDr op k x y)) := fun x y w => by
    have := run_fAr (P := P) w op t k x y (by rcases h with rfl | rfl <;> simp)
    rcases h with rfl | rfl <;> simpa [binOp] using this
  rcases h with rfl | rfl <;> simp [binOp, Op.complexOp, Op.Complex.arith, q, Result.andThen, World.drewN_drewN]
@[go_sem] theorem run_cAr_add (t : TypeId) (k : FloatKind) (a b c d : Nat) :
    (binOp .add t (.complex k a b) (.complex k c d)).run P w = .ok (.complex k (fAr .add k a c w) (fAr .add k b d (w.drewN (fDr .add k a c)))) (w.drewN (fDr .add k a c + fDr .add k b d)) := run_cAr w .add t k a b c d (.inl rfl)
@[go_sem] theorem run_cAr_sub (t : TypeId) (k : FloatKind) (a b c d : Nat) :
    (binOp .sub t (.complex k a b) (.complex k c d)).run P w = .ok (.complex k (fAr .sub k a c w) (fAr .sub k b d (w.drewN (fDr .sub k a c)))) (w.drewN (fDr .sub k a c + fDr .sub k b d)) := run_cAr w .sub t k a b c d (.inr rfl)
end

@[go_sem] theorem unary_neg_complex (k : FloatKind) (a b : Nat) : Op.unary .neg (.complex k a b) = pure (.complex k (Op.negFloat k a) (Op.negFloat k b)) := rfl
theorem Span.put8 {b lo hi : Nat} {a w : World} (s : Span lo hi a w) (hb : lo ≤ b ∧ b < hi) (u0 u1 u2 u3 u4 u5 u6 u7 : Value) : Span lo hi a ((((((((w.setCell ⟨b, 0, none⟩ u0).setCell ⟨b, 1, none⟩ u1).setCell ⟨b, 2, none⟩ u2).setCell ⟨b, 3, none⟩ u3).setCell ⟨b, 4, none⟩ u4).setCell ⟨b, 5, none⟩ u5).setCell ⟨b, 6, none⟩ u6).setCell ⟨b, 7, none⟩ u7) := ((((((((s.setCell (p := ⟨b, 0, none⟩) (.inl hb) u0).setCell (p := ⟨b, 1, none⟩) (.inl hb) u1).setCell (p := ⟨b, 2, none⟩) (.inl hb) u2).setCell (p := ⟨b, 3, none⟩) (.inl hb) u3).setCell (p := ⟨b, 4, none⟩) (.inl hb) u4).setCell (p := ⟨b, 5, none⟩) (.inl hb) u5).setCell (p := ⟨b, 6, none⟩) (.inl hb) u6).setCell (p := ⟨b, 7, none⟩) (.inl hb) u7)
theorem Span.set8 {b lo hi : Nat} {a w : World} (s : Span lo hi a w) (hb : a.heap.size ≤ b) (u0 u1 u2 u3 u4 u5 u6 u7 : Value) : Span lo hi a ((((((((w.setCell ⟨b, 0, none⟩ u0).setCell ⟨b, 1, none⟩ u1).setCell ⟨b, 2, none⟩ u2).setCell ⟨b, 3, none⟩ u3).setCell ⟨b, 4, none⟩ u4).setCell ⟨b, 5, none⟩ u5).setCell ⟨b, 6, none⟩ u6).setCell ⟨b, 7, none⟩ u7) := ((((((((s.setCell (p := ⟨b, 0, none⟩) (.inr hb) u0).setCell (p := ⟨b, 1, none⟩) (.inr hb) u1).setCell (p := ⟨b, 2, none⟩) (.inr hb) u2).setCell (p := ⟨b, 3, none⟩) (.inr hb) u3).setCell (p := ⟨b, 4, none⟩) (.inr hb) u4).setCell (p := ⟨b, 5, none⟩) (.inr hb) u5).setCell (p := ⟨b, 6, none⟩) (.inr hb) u6).setCell (p := ⟨b, 7, none⟩) (.inr hb) u7)
theorem Bx.set8 {b : Nat} {x0 x1 x2 x3 x4 x5 x6 x7 : Value} {w : World} (h : Bx b #[x0, x1, x2, x3, x4, x5, x6, x7] w) (u0 u1 u2 u3 u4 u5 u6 u7 : Value) : Bx b #[u0, u1, u2, u3, u4, u5, u6, u7] ((((((((w.setCell ⟨b, 0, none⟩ u0).setCell ⟨b, 1, none⟩ u1).setCell ⟨b, 2, none⟩ u2).setCell ⟨b, 3, none⟩ u3).setCell ⟨b, 4, none⟩ u4).setCell ⟨b, 5, none⟩ u5).setCell ⟨b, 6, none⟩ u6).setCell ⟨b, 7, none⟩ u7) := by
  have := ((((((((h.set 0 u0 (by simp)).set 1 u1 (by simp)).set 2 u2 (by simp)).set 3 u3 (by simp)).set 4 u4 (by simp)).set 5 u5 (by simp)).set 6 u6 (by simp)).set 7 u7 (by simp))
  simpa using this

set_option maxRecDepth 100000 in
set_option maxHeartbeats 1000000 in
theorem equalFrames_any (F G : Fr) (w : World) : Calls Try.prog 13 #[frV F, frV G] w fun e w' => e = .returned (.bool (eqF F G)) ∧ Span 0 0 w w' := by
  obtain ⟨⟨x0, x1⟩, ⟨x2, x3⟩, ⟨x4, x5⟩, ⟨x6, x7⟩, ⟨x8, x9⟩, ⟨x10, x11⟩, ⟨x12, x13⟩, ⟨x14, x15⟩⟩ := F
  obtain ⟨⟨y0, y1⟩, ⟨y2, y3⟩, ⟨y4, y5⟩, ⟨y6, y7⟩, ⟨y8, y9⟩, ⟨y10, y11⟩, ⟨y12, y13⟩, ⟨y14, y15⟩⟩ := G
  show Calls Try.prog 13 #[.agg #[.complex .f32 x0 x1, .complex .f32 x2 x3, .complex .f32 x4 x5, .complex .f32 x6 x7, .complex .f32 x8 x9, .complex .f32 x10 x11, .complex .f32 x12 x13, .complex .f32 x14 x15], .agg #[.complex .f32 y0 y1, .complex .f32 y2 y3, .complex .f32 y4 y5, .complex .f32 y6 y7, .complex .f32 y8 y9, .complex .f32 y10 y11, .complex .f32 y12 y13, .complex .f32 y14 y15]] w _
  have X1 := (Bx.new w #[.complex .f32 x0 x1, .complex .f32 x2 x3, .complex .f32 x4 x5, .complex .f32 x6 x7, .complex .f32 x8 x9, .complex .f32 x10 x11, .complex .f32 x12 x13, .complex .f32 x14 x15] 37).alloc (.cells #[.complex .f32 y0 y1, .complex .f32 y2 y3, .complex .f32 y4 y5, .complex .f32 y6 y7, .complex .f32 y8 y9, .complex .f32 y10 y11, .complex .f32 y12 y13, .complex .f32 y14 y15] 37)
  have Y1 := Bx.new (w.alloc (.cells #[.complex .f32 x0 x1, .complex .f32 x2 x3, .complex .f32 x4 x5, .complex .f32 x6 x7, .complex .f32 x8 x9, .complex .f32 x10 x11, .complex .f32 x12 x13, .complex .f32 x14 x15] 37)) #[.complex .f32 y0 y1, .complex .f32 y2 y3, .complex .f32 y4 y5, .complex .f32 y6 y7, .complex .f32 y8 y9, .complex .f32 y10 y11, .complex .f32 y12 y13, .complex .f32 y14 y15] 37
  rw [show (w.alloc (.cells #[.complex .f32 x0 x1, .complex .f32 x2 x3, .complex .f32 x4 x5, .complex .f32 x6 x7, .complex .f32 x8 x9, .complex .f32 x10 x11, .complex .f32 x12 x13, .complex .f32 x14 x15] 37)).heap.size = w.heap.size + 1 by simp] at Y1
  have c1 := X1.cells
  have c2 := Y1.cells
  have hs := Lib.hid (((Span.refl 0 0 w).alloc (.cells #[.complex .f32 x0 x1, .complex .f32 x2 x3, .complex .f32 x4 x5, .complex .f32 x6 x7, .complex .f32 x8 x9, .complex .f32 x10 x11, .complex .f32 x12 x13, .complex .f32 x14 x15] 37)).alloc (.cells #[.complex .f32 y0 y1, .complex .f32 y2 y3, .complex .f32 y4 y5, .complex .f32 y6 y7, .complex .f32 y8 y9, .complex .f32 y10 y11, .complex .f32 y12 y13, .complex .f32 y14 y15] 37))
  clear X1 Y1
  go_enter Try.func13, Try.ntmps13
  go_wp2_with fail
  go_ret
  exact ⟨rfl, hs.out⟩

/-- The first place of a frame that is equal. -/
def atF (L : List Fr) (F : Fr) : Option Nat := L.findIdx? fun G => eqF F G
theorem atF_none {L : List Fr} {F : Fr} : atF L F = none ↔ ∀ G ∈ L, eqF F G = false := by
  unfold atF
  rw [List.findIdx?_eq_none_iff]
theorem atF_some {L : List Fr} {F : Fr} {i : Nat} (h : atF L F = some i) : ∃ G, L[i]? = some G ∧ eqF F G = true ∧ ∀ j H, j < i → L[j]? = some H → eqF F H = false := by
  unfold atF at h
  rw [List.findIdx?_eq_some_iff_getElem] at h
  obtain ⟨h1, h2, h3⟩ := h
  refine ⟨L[i], List.getElem?_eq_getElem h1, h2, fun j q hj hq => ?_⟩
  obtain ⟨hj', rfl⟩ := List.getElem?_eq_some_iff.1 hq
  have := h3 j hj
  simpa using this
theorem atF_take {L : List Fr} {F : Fr} {k : Nat} (h : ∀ j G, j < k → L[j]? = some G → eqF F G = false) {G : Fr} (hp : L[k]? = some G) (he : eqF F G = true) : atF L F = some k := by
  unfold atF
  rw [List.findIdx?_eq_some_iff_getElem]
  obtain ⟨hk, rfl⟩ := List.getElem?_eq_some_iff.1 hp
  refine ⟨hk, he, fun j hj => ?_⟩
  have := h j _ hj (List.getElem?_eq_getElem (by omega))
  simpa using this
def atZ (o : Option Nat) : Int := match o with | some i => (i : Int) | none => -1

set_option maxRecDepth 100000 in
set_option maxHeartbeats 2000000 in
theorem indexF_any (L : List Fr) (F : Fr) (b lo hh : Nat) (v : Value) (w : World) (hx : HasFr b lo hh w v L) (hm : L.length ≤ 4194304) :
    Calls Try.prog 28 #[v, frV F] w fun e w' => e = .returned (.int .i64 (atZ (atF L F))) ∧ Span 0 0 w w' := by
  have HX := Lib.hid hx
  obtain ⟨A, cap, rfl, hcap, -⟩ := hx
  obtain ⟨len, hl⟩ : ∃ len, len = L.length := ⟨_, rfl⟩
  have HL := Lib.hid hl
  rw [← hl] at hcap hm HX ⊢
  clear hl
  obtain ⟨F0, hF⟩ : ∃ F0, F0 = F := ⟨_, rfl⟩
  have HF := Lib.hid hF
  obtain ⟨⟨x0, x1⟩, ⟨x2, x3⟩, ⟨x4, x5⟩, ⟨x6, x7⟩, ⟨x8, x9⟩, ⟨x10, x11⟩, ⟨x12, x13⟩, ⟨x14, x15⟩⟩ := F
  show Calls Try.prog 28 #[.slice A len cap, .agg #[.complex .f32 x0 x1, .complex .f32 x2 x3, .complex .f32 x4 x5, .complex .f32 x6 x7, .complex .f32 x8 x9, .complex .f32 x10 x11, .complex .f32 x12 x13, .complex .f32 x14 x15]] w _
  have i2 : (len : Int) ≤ 4194304 := by omega
  have X1 := Lib.hid (Bx.new w #[.complex .f32 x0 x1, .complex .f32 x2 x3, .complex .f32 x4 x5, .complex .f32 x6 x7, .complex .f32 x8 x9, .complex .f32 x10 x11, .complex .f32 x12 x13, .complex .f32 x14 x15] 37)
  have hs := Lib.hid ((Span.refl 0 0 w).alloc (.cells #[.complex .f32 x0 x1, .complex .f32 x2 x3, .complex .f32 x4 x5, .complex .f32 x6 x7, .complex .f32 x8 x9, .complex .f32 x10 x11, .complex .f32 x12 x13, .complex .f32 x14 x15] 37))
  clear hF hm
  go_enter Try.func28, Try.ntmps28
  go_wp2_with fail
  generalize w.alloc (.cells #[.complex .f32 x0 x1, .complex .f32 x2 x3, .complex .f32 x4 x5, .complex .f32 x6 x7, .complex .f32 x8 x9, .complex .f32 x10 x11, .complex .f32 x12 x13, .complex .f32 x14 x15] 37) = w1 at *
  go_loopw [5, 8] (fun _ c wr => ∃ k : Nat, k ≤ len ∧ c = .int .i64 k ∧ (∀ j q, j < k → L[j]? = some q → eqF F0 q = false) ∧ Span 0 0 w1 wr) (fun _ c _ => len - (intOf c).toNat)
  case atStart => exact ⟨0, Nat.zero_le _, rfl, fun j q hj => absurd hj (by omega), Span.refl _ _ _⟩
  case round =>
    obtain ⟨k, hk, rfl, hno, hsp⟩ := hrel
    have HNO := Lib.hid hno
    have HSP := Lib.hid hsp
    have HX1 := Lib.hid ((HX.out.keep hs.out).keep hsp)
    have c1 := (X1.out.keep hsp).cells
    clear hno hsp
    by_cases hlt : k < len
    · obtain ⟨G, hG⟩ := getElem?_some (xs := L) (j := k) (by rw [← HL.out]; exact hlt)
      obtain ⟨-, -, off, rfl, hat⟩ := HX1.out.at_ hG
      have HG := Lib.hid hG
      obtain ⟨⟨y0, y1⟩, ⟨y2, y3⟩, ⟨y4, y5⟩, ⟨y6, y7⟩, ⟨y8, y9⟩, ⟨y10, y11⟩, ⟨y12, y13⟩, ⟨y14, y15⟩⟩ := G
      obtain ⟨a0, a1, a2, a3, a4, a5, a6, a7⟩ := hat
      unfold cxV at a0 a1 a2 a3 a4 a5 a6 a7
      simp only at a0 a1 a2 a3 a4 a5 a6 a7
      clear hG
      obtain ⟨t, ht⟩ : ∃ t, t = eqF ⟨(x0, x1), (x2, x3), (x4, x5), (x6, x7), (x8, x9), (x10, x11), (x12, x13), (x14, x15)⟩ ⟨(y0, y1), (y2, y3), (y4, y5), (y6, y7), (y8, y9), (y10, y11), (y12, y13), (y14, y15)⟩ := ⟨_, rfl⟩
      have HT := Lib.hid ht
      cases t with
      | true =>
        have HR := Lib.hid (atF_take HNO.out HG.out (show eqF F0 _ = true by rw [HF.out]; exact HT.out.symm))
        have ht' := ht.symm
        clear ht
        go_wp2_with fail
        go_quiet (fail)
        go_wp2_with fail
        go_ret
        rw [← HF.out, HR.out]
        exact ⟨rfl, (hs.out.trans HSP.out).drewN _⟩
      | false =>
        have ht' := ht.symm
        clear ht
        go_wp2_with fail
        go_quiet (fail)
        go_wp2_with fail
        go_roundw
        case rel =>
          refine ⟨k + 1, by omega, by go_num, fun j q hj hq => ?_, HSP.out.drewN _⟩
          by_cases hjk : j = k
          · subst hjk; rw [HG.out] at hq; cases hq; rw [HF.out]; exact HT.out.symm
          · exact HNO.out j q (by omega) hq
        case measure => simp [intOf]; omega
    · have hke : k = len := by omega
      have HK := Lib.hid hke
      have HR : Hid (atF L F0 = none) := by
        unfold Hid
        rw [atF_none]
        intro p hp
        obtain ⟨j, hj, rfl⟩ := List.mem_iff_getElem.1 hp
        exact HNO.out j _ (by rw [HK.out, HL.out]; exact hj) (List.getElem?_eq_getElem hj)
      clear hke
      go_wp2_with fail
      go_ret
      rw [← HF.out, HR.out]
      exact ⟨rfl, hs.out.trans HSP.out⟩

set_option maxRecDepth 100000 in
set_option maxHeartbeats 1000000 in
theorem findFrame_any (L : List Fr) (F : Fr) (b lo hh : Nat) (v : Value) (w : World) (hx : HasFr b lo hh w v L) (hm : L.length ≤ 4194304) :
    Calls Try.prog 12 #[v, frV F] w fun e w' => e = .returned (.int .i64 (atZ (atF L F))) ∧ Span 0 0 w w' := by
  have HX := Lib.hid hx
  have HM := Lib.hid hm
  have HC := Lib.hid (fun W (h : HasFr b lo hh W v L) => indexF_any L F b lo hh v W h hm)
  obtain ⟨A, cap, rfl, -, -⟩ := hx
  obtain ⟨z, hz⟩ : ∃ z, z = atZ (atF L F) := ⟨_, rfl⟩
  rw [← hz] at HC ⊢
  clear hz hm
  obtain ⟨⟨x0, x1⟩, ⟨x2, x3⟩, ⟨x4, x5⟩, ⟨x6, x7⟩, ⟨x8, x9⟩, ⟨x10, x11⟩, ⟨x12, x13⟩, ⟨x14, x15⟩⟩ := F
  have HC' := Lib.hid (show ∀ W, HasFr b lo hh W (.slice A L.length cap) L → Calls Try.prog 28 #[.slice A L.length cap, .agg #[.complex .f32 x0 x1, .complex .f32 x2 x3, .complex .f32 x4 x5, .complex .f32 x6 x7, .complex .f32 x8 x9, .complex .f32 x10 x11, .complex .f32 x12 x13, .complex .f32 x14 x15]] W fun e w' => e = .returned (.int .i64 z) ∧ Span 0 0 W w' from HC.out)
  show Calls Try.prog 12 #[.slice A L.length cap, .agg #[.complex .f32 x0 x1, .complex .f32 x2 x3, .complex .f32 x4 x5, .complex .f32 x6 x7, .complex .f32 x8 x9, .complex .f32 x10 x11, .complex .f32 x12 x13, .complex .f32 x14 x15]] w _
  have c1 := (Bx.new w #[.complex .f32 x0 x1, .complex .f32 x2 x3, .complex .f32 x4 x5, .complex .f32 x6 x7, .complex .f32 x8 x9, .complex .f32 x10 x11, .complex .f32 x12 x13, .complex .f32 x14 x15] 37).cells
  have hs := Lib.hid ((Span.refl 0 0 w).alloc (.cells #[.complex .f32 x0 x1, .complex .f32 x2 x3, .complex .f32 x4 x5, .complex .f32 x6 x7, .complex .f32 x8 x9, .complex .f32 x10 x11, .complex .f32 x12 x13, .complex .f32 x14 x15] 37))
  clear HC
  go_enter Try.func12, Try.ntmps12
  go_wp2_with fail
  refine (HC'.out _ (HX.out.keep hs.out)).mono ?_
  rintro _ w2 ⟨rfl, s2⟩
  go_wp2_with fail
  go_ret
  exact ⟨rfl, hs.out.trans s2⟩

theorem FE.neg {a b : Nat} (h : FE .f32 a b) : FE .f32 (Op.negFloat .f32 a) (Op.negFloat .f32 b) := by
  rcases h with rfl | ⟨h1, h2⟩
  · exact .inl rfl
  · exact .inr ⟨nan_of_rung (by rw [(neg_rung a).1]; exact nan_rung h1), nan_of_rung (by rw [(neg_rung b).1]; exact nan_rung h2)⟩
/-- The sum over samples, in order. -/
def sumP (L : List Cx) : Cx := L.foldl (fun s z => (fC .add .f32 s.1 z.1, fC .add .f32 s.2 z.2)) (0, 0)
theorem sumP_snoc (L : List Cx) (z : Cx) : sumP (L ++ [z]) = (fC .add .f32 (sumP L).1 z.1, fC .add .f32 (sumP L).2 z.2) := by unfold sumP; rw [List.foldl_append]; rfl
def sealP (F : Fr) : Cx := (Op.negFloat .f32 (sumP (F.l.take 7)).1, Op.negFloat .f32 (sumP (F.l.take 7)).2)
/-- The last sample that seals a frame, but for the bits of NaN. -/
def Seals (F : Fr) (w : World) (e : Ending) (w' : World) : Prop := ∃ x y, e = .returned (.complex .f32 x y) ∧ FE .f32 x (sealP F).1 ∧ FE .f32 y (sealP F).2 ∧ Span 0 0 w w'

set_option maxRecDepth 100000 in
set_option maxHeartbeats 2000000 in
theorem sealOf_any (F : Fr) (w : World) : Calls Try.prog 30 #[frV F] w (Seals F w) := by
  obtain ⟨L, hL⟩ : ∃ L, L = F.l := ⟨_, rfl⟩
  have HL := Lib.hid hL
  have HS : Hid (∀ x y wr, FE .f32 x (sumP (L.take 7)).1 → FE .f32 y (sumP (L.take 7)).2 → Span 0 0 w wr → Seals F w (.returned (.complex .f32 (Op.negFloat .f32 x) (Op.negFloat .f32 y))) wr) := Lib.hid (fun x y wr h1 h2 h3 => ⟨_, _, rfl, by unfold sealP; rw [← HL.out]; exact h1.neg, by unfold sealP; rw [← HL.out]; exact h2.neg, h3⟩)
  have hlen : Hid (L.length = 8) := Lib.hid (by rw [hL]; rfl)
  have HBX : Hid (∀ w', Bx w.heap.size (frA F) w' → ∀ k z, L[k]? = some z → w'.cell? ⟨w.heap.size, k, none⟩ = some (.complex .f32 z.1 z.2)) := Lib.hid (fun w' hb k z hz => by rw [hb.2.1 k, frA_get, ← HL.out, hz]; rfl)
  have HB : Hid (Bx w.heap.size (frA F) (w.alloc (.cells (frA F) 37))) := Lib.hid (Bx.new _ _ _)
  have hs := Lib.hid ((Span.refl 0 0 w).alloc (.cells (frA F) 37))
  clear hL
  obtain ⟨Q, hQ⟩ : ∃ Q, Q = Seals F w := ⟨_, rfl⟩
  rw [← hQ] at HS ⊢
  clear hQ
  obtain ⟨⟨x0, x1⟩, ⟨x2, x3⟩, ⟨x4, x5⟩, ⟨x6, x7⟩, ⟨x8, x9⟩, ⟨x10, x11⟩, ⟨x12, x13⟩, ⟨x14, x15⟩⟩ := F
  show Calls Try.prog 30 #[.agg #[.complex .f32 x0 x1, .complex .f32 x2 x3, .complex .f32 x4 x5, .complex .f32 x6 x7, .complex .f32 x8 x9, .complex .f32 x10 x11, .complex .f32 x12 x13, .complex .f32 x14 x15]] w _
  have hs' : Hid (Span 0 0 w (w.alloc (.cells #[.complex .f32 x0 x1, .complex .f32 x2 x3, .complex .f32 x4 x5, .complex .f32 x6 x7, .complex .f32 x8 x9, .complex .f32 x10 x11, .complex .f32 x12 x13, .complex .f32 x14 x15] 37))) := hs
  have HB' : Hid (Bx w.heap.size (frA ⟨(x0, x1), (x2, x3), (x4, x5), (x6, x7), (x8, x9), (x10, x11), (x12, x13), (x14, x15)⟩) (w.alloc (.cells #[.complex .f32 x0 x1, .complex .f32 x2 x3, .complex .f32 x4 x5, .complex .f32 x6 x7, .complex .f32 x8 x9, .complex .f32 x10 x11, .complex .f32 x12 x13, .complex .f32 x14 x15] 37))) := HB
  clear hs HB
  generalize hUA : frA ⟨(x0, x1), (x2, x3), (x4, x5), (x6, x7), (x8, x9), (x10, x11), (x12, x13), (x14, x15)⟩ = UA at *
  clear hUA HL
  go_enter Try.func30, Try.ntmps30
  go_wp2_with fail
  generalize w.alloc (.cells #[.complex .f32 x0 x1, .complex .f32 x2 x3, .complex .f32 x4 x5, .complex .f32 x6 x7, .complex .f32 x8 x9, .complex .f32 x10 x11, .complex .f32 x12 x13, .complex .f32 x14 x15] 37) = w1 at *
  go_loopw [3, 5, 8] (fun s _ c wr => ∃ (k a b : Nat), k ≤ 7 ∧ c = .int .i64 k ∧ s = .complex .f32 a b ∧ FE .f32 a (sumP (L.take k)).1 ∧ FE .f32 b (sumP (L.take k)).2 ∧ Span 0 0 w wr ∧ Bx w.heap.size UA wr) (fun _ _ c _ => 7 - (intOf c).toNat)
  case atStart => exact ⟨0, 0, 0, Nat.zero_le _, rfl, rfl, FE.refl _ _, FE.refl _ _, hs'.out, HB'.out⟩
  case round =>
    obtain ⟨k, a, b, hk, rfl, rfl, f1, f2, sp, bx⟩ := hrel
    have F1 := Lib.hid f1
    have F2 := Lib.hid f2
    have SP := Lib.hid sp
    have BX := Lib.hid bx
    clear f1 f2 sp bx
    by_cases hlt : k < 7
    · obtain ⟨⟨p, q⟩, hz⟩ := getElem?_some (xs := L) (j := k) (by rw [hlen.out]; omega)
      have hck : wr.cell? ⟨w.heap.size, k, none⟩ = some (.complex .f32 p q) := HBX.out wr BX.out k _ hz
      have HTK : Hid (sumP (L.take (k + 1)) = (fC .add .f32 (sumP (L.take k)).1 p, fC .add .f32 (sumP (L.take k)).2 q)) := Lib.hid (by rw [take_snoc_of hz, sumP_snoc])
      clear hz
      go_wp2_with fail
      go_roundw
      case rel => exact ⟨k + 1, _, _, by omega, by go_num, rfl, by rw [HTK.out]; exact FE.arC _ F1.out (FE.refl _ _), by rw [HTK.out]; exact FE.arC _ F2.out (FE.refl _ _), SP.out.drewN _, BX.out.drewN _⟩
      case measure => simp [intOf]; omega
    · have hke : k = 7 := by omega
      subst hke
      go_wp2_with fail
      exact HS.out _ _ _ F1.out F2.out SP.out

/-- Sealed, but for the bits of NaN. -/
def Sealed (F : Fr) (w : World) (e : Ending) (w' : World) : Prop := ∃ x y, e = .returned (frV { F with h := (x, y) }) ∧ FE .f32 x (sealP F).1 ∧ FE .f32 y (sealP F).2 ∧ Span 0 0 w w'

set_option maxRecDepth 100000 in
set_option maxHeartbeats 2000000 in
theorem sealFrame_any (F : Fr) (w : World) : Calls Try.prog 15 #[frV F] w (Sealed F w) := by
  have HC := Lib.hid (fun W => sealOf_any F W)
  have HS : Hid (∀ x y wr, FE .f32 x (sealP F).1 → FE .f32 y (sealP F).2 → Span 0 0 w wr → Sealed F w (.returned (frV { F with h := (x, y) })) wr) := Lib.hid (fun x y wr h1 h2 h3 => ⟨_, _, rfl, h1, h2, h3⟩)
  obtain ⟨Q, hQ⟩ : ∃ Q, Q = Sealed F w := ⟨_, rfl⟩
  rw [← hQ] at HS ⊢
  clear hQ
  unfold Seals at HC
  obtain ⟨⟨s1, s2⟩, hs⟩ : ∃ s, s = sealP F := ⟨_, rfl⟩
  rw [← hs] at HC HS
  clear hs
  obtain ⟨⟨x0, x1⟩, ⟨x2, x3⟩, ⟨x4, x5⟩, ⟨x6, x7⟩, ⟨x8, x9⟩, ⟨x10, x11⟩, ⟨x12, x13⟩, ⟨x14, x15⟩⟩ := F
  show Calls Try.prog 15 #[.agg #[.complex .f32 x0 x1, .complex .f32 x2 x3, .complex .f32 x4 x5, .complex .f32 x6 x7, .complex .f32 x8 x9, .complex .f32 x10 x11, .complex .f32 x12 x13, .complex .f32 x14 x15]] w _
  have HC' : Hid (∀ W, Calls Try.prog 30 #[.agg #[.complex .f32 x0 x1, .complex .f32 x2 x3, .complex .f32 x4 x5, .complex .f32 x6 x7, .complex .f32 x8 x9, .complex .f32 x10 x11, .complex .f32 x12 x13, .complex .f32 x14 x15]] W fun e w' => ∃ x y, e = .returned (.complex .f32 x y) ∧ FE .f32 x s1 ∧ FE .f32 y s2 ∧ Span 0 0 W w') := HC
  have HS' : Hid (∀ x y wr, FE .f32 x s1 → FE .f32 y s2 → Span 0 0 w wr → Q (.returned (.agg #[.complex .f32 x0 x1, .complex .f32 x2 x3, .complex .f32 x4 x5, .complex .f32 x6 x7, .complex .f32 x8 x9, .complex .f32 x10 x11, .complex .f32 x12 x13, .complex .f32 x y])) wr) := HS
  clear HC HS
  have X1 := Lib.hid ((Bx.new w #[.complex .f32 x0 x1, .complex .f32 x2 x3, .complex .f32 x4 x5, .complex .f32 x6 x7, .complex .f32 x8 x9, .complex .f32 x10 x11, .complex .f32 x12 x13, .complex .f32 x14 x15] 37).alloc (.cells #[.complex .f32 0 0, .complex .f32 0 0, .complex .f32 0 0, .complex .f32 0 0, .complex .f32 0 0, .complex .f32 0 0, .complex .f32 0 0, .complex .f32 0 0] 37))
  have Y1 := Bx.new (w.alloc (.cells #[.complex .f32 x0 x1, .complex .f32 x2 x3, .complex .f32 x4 x5, .complex .f32 x6 x7, .complex .f32 x8 x9, .complex .f32 x10 x11, .complex .f32 x12 x13, .complex .f32 x14 x15] 37)) #[.complex .f32 0 0, .complex .f32 0 0, .complex .f32 0 0, .complex .f32 0 0, .complex .f32 0 0, .complex .f32 0 0, .complex .f32 0 0, .complex .f32 0 0] 37
  rw [show (w.alloc (.cells #[.complex .f32 x0 x1, .complex .f32 x2 x3, .complex .f32 x4 x5, .complex .f32 x6 x7, .complex .f32 x8 x9, .complex .f32 x10 x11, .complex .f32 x12 x13, .complex .f32 x14 x15] 37)).heap.size = w.heap.size + 1 by simp] at Y1
  have Y1 := Lib.hid Y1
  have HSP := Lib.hid (((Span.refl 0 0 w).alloc (.cells #[.complex .f32 x0 x1, .complex .f32 x2 x3, .complex .f32 x4 x5, .complex .f32 x6 x7, .complex .f32 x8 x9, .complex .f32 x10 x11, .complex .f32 x12 x13, .complex .f32 x14 x15] 37)).alloc (.cells #[.complex .f32 0 0, .complex .f32 0 0, .complex .f32 0 0, .complex .f32 0 0, .complex .f32 0 0, .complex .f32 0 0, .complex .f32 0 0, .complex .f32 0 0] 37))
  have c1 := X1.out.cells
  go_enter Try.func15, Try.ntmps15
  go_wp2_with fail
  refine (HC'.out _).mono ?_
  rintro _ w2 ⟨y1, y2, rfl, f1, f2, s2⟩
  have F1 := Lib.hid f1
  have F2 := Lib.hid f2
  have X2 := Lib.hid (X1.out.keep s2)
  have Y2 := Lib.hid (Y1.out.keep s2)
  have S2 := Lib.hid (HSP.out.trans s2)
  have c2 := X2.out.cells
  have g2 := X2.out.thaw
  have X3 := X2.out.set 7 (.complex .f32 y1 y2) (by simp)
  have e3 : (#[.complex .f32 x0 x1, .complex .f32 x2 x3, .complex .f32 x4 x5, .complex .f32 x6 x7, .complex .f32 x8 x9, .complex .f32 x10 x11, .complex .f32 x12 x13, .complex .f32 x14 x15] : Array Value).setIfInBounds 7 (.complex .f32 y1 y2) = #[.complex .f32 x0 x1, .complex .f32 x2 x3, .complex .f32 x4 x5, .complex .f32 x6 x7, .complex .f32 x8 x9, .complex .f32 x10 x11, .complex .f32 x12 x13, .complex .f32 y1 y2] := rfl
  rw [e3] at X3
  have c3 := X3.cells
  have Y3 := (Y2.out.other (a := ⟨w.heap.size, 7, none⟩) (by simp) (.complex .f32 y1 y2))
  have d3 := Y3.cells
  have h3 := Y3.thaw
  have Y4 := Lib.hid (Y3.set8 (.complex .f32 x0 x1) (.complex .f32 x2 x3) (.complex .f32 x4 x5) (.complex .f32 x6 x7) (.complex .f32 x8 x9) (.complex .f32 x10 x11) (.complex .f32 x12 x13) (.complex .f32 y1 y2))
  have S3 := Lib.hid ((S2.out.setCell (p := ⟨w.heap.size, 7, none⟩) (.inr (Nat.le_refl _)) (.complex .f32 y1 y2)).set8 (b := w.heap.size + 1) (by omega) (.complex .f32 x0 x1) (.complex .f32 x2 x3) (.complex .f32 x4 x5) (.complex .f32 x6 x7) (.complex .f32 x8 x9) (.complex .f32 x10 x11) (.complex .f32 x12 x13) (.complex .f32 y1 y2))
  clear f1 f2 s2 c1 X3 Y3 e3
  go_wp2_with fail
  have d1 := Y4.out.cells
  exact bodyPost_ret (v := .agg #[.complex .f32 x0 x1, .complex .f32 x2 x3, .complex .f32 x4 x5, .complex .f32 x6 x7, .complex .f32 x8 x9, .complex .f32 x10 x11, .complex .f32 x12 x13, .complex .f32 y1 y2]) (by simp [results, Try.results15, go_sem, d1]) rfl (HS'.out _ _ _ F1.out F2.out S3.out)

/-- A frame whose last sample is what seals it is told so, if that is no NaN. -/
def ToldSealed (F : Fr) (w : World) (e : Ending) (w' : World) : Prop := ∃ r, e = .returned (.bool r) ∧ (nanB .f32 F.h.1 = false → nanB .f32 F.h.2 = false → FE .f32 F.h.1 (sealP F).1 → FE .f32 F.h.2 (sealP F).2 → r = true) ∧ Span 0 0 w w'

theorem fe_ordEq {a b c : Nat} (hn : nanB .f32 a = false) (h1 : FE .f32 a c) (h2 : FE .f32 b c) : ordEq a b = true := by
  rcases h1.trans h2.symm with rfl | ⟨h, _⟩
  · unfold ordEq; rw [order_self, hn]; rfl
  · rw [hn] at h; cases h

set_option maxRecDepth 100000 in
set_option maxHeartbeats 2000000 in
theorem isSealed_any (F : Fr) (w : World) : Calls Try.prog 16 #[frV F] w (ToldSealed F w) := by
  have HC := Lib.hid (fun W => sealOf_any F W)
  have HS : Hid (∀ x y wr, FE .f32 x (sealP F).1 → FE .f32 y (sealP F).2 → Span 0 0 w wr → ToldSealed F w (.returned (.bool (eqC F.h (x, y)))) wr) := Lib.hid (fun x y wr h1 h2 h3 => ⟨_, rfl, fun n1 n2 g1 g2 => by unfold eqC; rw [fe_ordEq n1 g1 h1, fe_ordEq n2 g2 h2]; rfl, h3⟩)
  obtain ⟨Q, hQ⟩ : ∃ Q, Q = ToldSealed F w := ⟨_, rfl⟩
  rw [← hQ] at HS ⊢
  clear hQ
  unfold Seals at HC
  obtain ⟨⟨s1, s2⟩, hs⟩ : ∃ s, s = sealP F := ⟨_, rfl⟩
  rw [← hs] at HC HS
  clear hs
  obtain ⟨⟨x0, x1⟩, ⟨x2, x3⟩, ⟨x4, x5⟩, ⟨x6, x7⟩, ⟨x8, x9⟩, ⟨x10, x11⟩, ⟨x12, x13⟩, ⟨x14, x15⟩⟩ := F
  show Calls Try.prog 16 #[.agg #[.complex .f32 x0 x1, .complex .f32 x2 x3, .complex .f32 x4 x5, .complex .f32 x6 x7, .complex .f32 x8 x9, .complex .f32 x10 x11, .complex .f32 x12 x13, .complex .f32 x14 x15]] w _
  have HC' : Hid (∀ W, Calls Try.prog 30 #[.agg #[.complex .f32 x0 x1, .complex .f32 x2 x3, .complex .f32 x4 x5, .complex .f32 x6 x7, .complex .f32 x8 x9, .complex .f32 x10 x11, .complex .f32 x12 x13, .complex .f32 x14 x15]] W fun e w' => ∃ x y, e = .returned (.complex .f32 x y) ∧ FE .f32 x s1 ∧ FE .f32 y s2 ∧ Span 0 0 W w') := HC
  have HS' : Hid (∀ x y wr, FE .f32 x s1 → FE .f32 y s2 → Span 0 0 w wr → Q (.returned (.bool (eqC (x14, x15) (x, y)))) wr) := HS
  clear HC HS
  have HE : Hid (∀ x y W, Calls Try.prog 31 #[.complex .f32 x14 x15, .complex .f32 x y] W fun e w' => e = .returned (.bool (eqC (x14, x15) (x, y))) ∧ W = w') := Lib.hid (fun x y W => impl_equalPoints (x14, x15) (x, y) W)
  have X1 := Lib.hid (Bx.new w #[.complex .f32 x0 x1, .complex .f32 x2 x3, .complex .f32 x4 x5, .complex .f32 x6 x7, .complex .f32 x8 x9, .complex .f32 x10 x11, .complex .f32 x12 x13, .complex .f32 x14 x15] 37)
  have HSP := Lib.hid ((Span.refl 0 0 w).alloc (.cells #[.complex .f32 x0 x1, .complex .f32 x2 x3, .complex .f32 x4 x5, .complex .f32 x6 x7, .complex .f32 x8 x9, .complex .f32 x10 x11, .complex .f32 x12 x13, .complex .f32 x14 x15] 37))
  have c1 := X1.out.cells
  go_enter Try.func16, Try.ntmps16
  go_wp2_with fail
  go_region_with (first
    | (go_at_call 30; go_loud ((refine (HC'.out _).mono ?_; rintro _ w2 ⟨y1, y2, rfl, f1, f2, s2⟩; have F1 := Lib.hid f1; have F2 := Lib.hid f2; have S2 := Lib.hid (show Span 0 0 _ w2 from s2.undrawn' (n := 1)); have c2 := (X1.out.keep S2.out).cells; clear f1 f2 s2)))
    | (go_at_call 31; refine (HE.out _ _ _).mono ?_; rintro _ _ ⟨rfl, rfl⟩))
  all_goals
    go_wp2_with fail
    first | go_ret | skip
    exact HS'.out _ _ _ F1.out F2.out (HSP.out.trans S2.out)
end Go.Proofs.Ytfafkdpefdpnkaa
