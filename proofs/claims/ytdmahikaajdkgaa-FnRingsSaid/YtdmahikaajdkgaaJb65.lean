/- The law FnRings. -/
import Derived.Test.YtdmahikaajdkgaaJb64
import Derived.Test.YtdmahikaajdkgaaJb29
import Derived.Deep.DeepCutAuto
import Derived.Deep.RegionWith
import Derived.Outline
namespace Go.Proofs.Ytdmahikaajdkgaa
open Go.RowKit

theorem hbyUpR {B : Nat} {w : World} {A : Option Addr} {n : Nat} (h : HasBy B w A n) (hB : B ≤ w.heap.size) : HasBy w.heap.size w A n := fun hp => by
  obtain ⟨b, off, rfl, hb, hc⟩ := h hp
  exact ⟨b, off, rfl, by omega, hc⟩
theorem oneR_hasS (w : World) (x y : Nat) : HasS cxV false w.heap.size 0 (w.heap.size + 1) (w.alloc (.cells #[.complex .f32 x y] 27)) (.slice (some ⟨w.heap.size, 0, none⟩) 1 1) [(x, y)] := by
  refine ⟨_, 1, rfl, Nat.le_refl _, fun _ => ⟨0, rfl, Nat.zero_le _, Nat.lt_succ_self _, by simp, fun j z hj => ?_, fun h => by cases h⟩⟩
  cases j with
  | zero =>
    simp at hj
    subst hj
    rw [World.cell?_alloc_new]
    rfl
  | succ j => simp at hj
theorem HasS.grownBy {α : Type} {val : α → Value} {own : Bool} {b lo hi : Nat} {w w' : World} {v : Value} {xs : List α} {row : Option Nat} (h : HasS val own b lo hi w v xs) (hg : w.grownBy w' row) (hne : ∀ k, row = some k → b ≠ k) : HasS val own b lo hi w' v xs :=
  h.same (fun hb => ⟨Nat.lt_of_lt_of_le hb hg.size, hg.block b hb (fun e => hne b e.symm rfl)⟩)
theorem Bx.grownBy {b : Nat} {us : Array Value} {w w' : World} {row : Option Nat} (h : Bx b us w) (hg : w.grownBy w' row) (hne : ∀ k, row = some k → b ≠ k) : Bx b us w' := by
  have e := hg.block b h.1 (fun e => hne b e.symm rfl)
  exact ⟨Nat.lt_of_lt_of_le h.1 hg.size, fun i => (World.cell?_of_block (w := w) (a := ⟨b, i, none⟩) e).trans (h.2.1 i), fun i => (World.frozen?_of_block (w := w) (a := ⟨b, i, none⟩) e).trans (h.2.2 i)⟩

theorem HasS.inG {α : Type} {val : α → Value} {own : Bool} {b lo hi rb G : Nat} {w : World} {v : Value} {xs : List α} (h : HasS val own b lo hi w v xs) (hhi : hi ≤ G) (hlo : rb < lo) : (b < G ∨ xs.length = 0) ∧ (b ≠ rb ∨ xs.length = 0) := by
  obtain ⟨A, cap, _, _, hc⟩ := h
  by_cases hp : 0 < xs.length
  · obtain ⟨off, _, g1, g2, _⟩ := hc hp
    exact ⟨.inl (by omega), .inl (by omega)⟩
  · exact ⟨.inr (by omega), .inr (by omega)⟩

/-- The next ring is stored, behind an append. -/
theorem going_app {rb G N : Nat} {all' : List Cx} {r' : Rn} {u u' : Value} {wr wa wb w1 : World} {A' : Option Addr} {p' bs' : Nat} {gs : List Cx} {z : Cx} (us : Array Value) (h3 : us.size = 3)
    (hx : Bx rb us wr) (ho : wr.ownsRow G 27 1 u gs.length (gs.map cxV)) (hG : G ≤ wr.heap.size) (hrb : rb < G)
    (s : Span 0 0 wr wa) (hs : HasS cxV true bs' wr.heap.size wa.heap.size wa (.slice A' N p') r'.1) (hv : VR r') (hN : N = r'.1.length)
    (s2 : Span 0 0 wa wb) (hg : wb.grownBy w1 u.ownBlock) (ho1 : w1.ownsRow G 27 1 u' (gs.length + 1) (gs.map cxV ++ [cxV z])) (hat : u'.ownBlock = u.ownBlock ∨ u'.ownBlock = some wb.heap.size)
    (he : gs ++ [z] ++ itsR r' = all') :
    Going rb G N all' r' u' (((w1.setCell ⟨rb, 0, none⟩ (.slice A' N p')).setCell ⟨rb, 1, none⟩ (.int .i64 (r'.2.1 : Int))).setCell ⟨rb, 2, none⟩ (.int .i64 (r'.2.2 : Int))) := by
  obtain ⟨x0, x1, x2, rfl⟩ : ∃ x0 x1 x2, us = #[x0, x1, x2] := by
    obtain ⟨l⟩ := us
    match l, h3 with
    | [x0, x1, x2], _ => exact ⟨x0, x1, x2, rfl⟩
  have hlt := ho.lt
  have hr := hx.1
  have z1 := s.size
  have z2 := s2.size
  have z3 := hg.size
  obtain ⟨off, e1, g1, g2, g3⟩ := hs.addrT hv.pos
  have T := (Span.refl rb (rb + 1) w1).put3 (b := rb) ⟨Nat.le_refl _, Nat.lt_succ_self _⟩ (.slice A' N p') (.int .i64 (r'.2.1 : Int)) (.int .i64 (r'.2.2 : Int))
  refine ⟨A', p', bs', gs ++ [z], (((hx.keep s).keep s2).grownBy hg (fun k hk => by have := (hlt k hk).1; omega)).set3 _ _ _, hv, hN, ?_, ?_, ?_, he, ?_, hrb⟩
  · exact ((((hs.span s2 (.inl (Nat.le_refl _))).grownBy hg (fun k hk => by have := (hlt k hk).2; omega)).span T (by omega))).weak (Nat.zero_le _) (.inr (Nat.le_refl _))
  · have := ownsRow_setCell_below (ownsRow_setCell_below (ownsRow_setCell_below ho1 (a := ⟨rb, 0, none⟩) hrb (.slice A' N p')) (a := ⟨rb, 1, none⟩) hrb (.int .i64 (r'.2.1 : Int))) (a := ⟨rb, 2, none⟩) hrb (.int .i64 (r'.2.2 : Int))
    simpa using this
  · intro g hgk
    rcases hat with h | h
    · rw [h] at hgk; have := (hlt g hgk).2; omega
    · rw [h] at hgk; injection hgk with hgk; omega
  · have := T.size; omega

/-- The next ring is stored. -/
theorem going_put {rb G N : Nat} {all' : List Cx} {r' : Rn} {u : Value} {wr wa w1 : World} {A' : Option Addr} {p' bs' : Nat} {gs : List Cx} (us : Array Value) (h3 : us.size = 3)
    (hx : Bx rb us wr) (ho : wr.ownsRow G 27 1 u gs.length (gs.map cxV)) (hG : G ≤ wr.heap.size) (hrb : rb < G)
    (s : Span 0 0 wr wa) (hs : HasS cxV true bs' wr.heap.size wa.heap.size wa (.slice A' N p') r'.1) (hv : VR r') (hN : N = r'.1.length)
    (s2 : Span 0 0 wa w1) (he : gs ++ itsR r' = all') :
    Going rb G N all' r' u (((w1.setCell ⟨rb, 0, none⟩ (.slice A' N p')).setCell ⟨rb, 1, none⟩ (.int .i64 (r'.2.1 : Int))).setCell ⟨rb, 2, none⟩ (.int .i64 (r'.2.2 : Int))) := by
  obtain ⟨x0, x1, x2, rfl⟩ : ∃ x0 x1 x2, us = #[x0, x1, x2] := by
    obtain ⟨l⟩ := us
    match l, h3 with
    | [x0, x1, x2], _ => exact ⟨x0, x1, x2, rfl⟩
  have hlt := ho.lt
  have hr := hx.1
  have z1 := s.size
  have z2 := s2.size
  obtain ⟨off, e1, g1, g2, g3⟩ := hs.addrT hv.pos
  have T := (Span.refl rb (rb + 1) w1).put3 (b := rb) ⟨Nat.le_refl _, Nat.lt_succ_self _⟩ (.slice A' N p') (.int .i64 (r'.2.1 : Int)) (.int .i64 (r'.2.2 : Int))
  refine ⟨A', p', bs', gs, ((hx.keep s).keep s2).set3 _ _ _, hv, hN, ?_, ?_, ?_, he, ?_, hrb⟩
  · exact ((hs.span s2 (.inl (Nat.le_refl _))).span T (by omega)).weak (Nat.zero_le _) (.inr (Nat.le_refl _))
  · exact ownsRow_setCell_below (ownsRow_setCell_below (ownsRow_setCell_below (ownsRow_keep (ownsRow_keep ho s) s2) (a := ⟨rb, 0, none⟩) hrb (.slice A' N p')) (a := ⟨rb, 1, none⟩) hrb (.int .i64 (r'.2.1 : Int))) (a := ⟨rb, 2, none⟩) hrb (.int .i64 (r'.2.2 : Int))
  · intro g hgk
    have := (hlt g hgk).2; omega
  · have := T.size; omega

theorem Going.keep {rb G N : Nat} {all : List Cx} {r : Rn} {u : Value} {w w' : World} (h : Going rb G N all r u w) (s : Span 0 0 w w') : Going rb G N all r u w' := by
  obtain ⟨A, p, bs, gs, hx, hv, hN, hs, ho, hne, he, hG, hrb⟩ := h
  exact ⟨A, p, bs, gs, hx.keep s, hv, hN, (hs.span s (.inl (Nat.le_refl _))).weak (Nat.le_refl _) (.inr (Nat.le_refl _)), ownsRow_keep ho s, hne, he, Nat.le_trans hG s.size, hrb⟩

set_option maxRecDepth 100000 in
set_option maxHeartbeats 16000000 in
theorem law_rings (A : Option Addr) (n c : Nat) (w : World) (h : HasBy w.heap.size w A n) : Calls Try.prog 5 #[.slice A n c] w (Says w) := by
  by_cases hn : n ≤ 1048576
  · have Hn := Lib.hid hn
    have Hby := Lib.hid h
    obtain ⟨ip, hip, hzp, hsp, hbp⟩ := info_parts info_c64
    have i0 : decide ((1048576 : Int) < (n : Int)) = false := by rw [decide_eq_false_iff_not]; omega
    clear hn h
    go_enter Try.func5, Try.ntmps5
    go_wp2_with fail
    refine (makeRing_any A n c w Hn.out Hby.out).mono ?_
    rintro _ w1 ⟨A1, N, p1, i1, j1, b1, xs, rfl, hn1, hv1, hs1, hb1⟩
    have X2 := Bx.new w1 #[.slice A1 N p1, .int .i64 (i1 : Int), .int .i64 (j1 : Int)] 30
    have HS2 := Lib.hid (hs1.alloc (.cells #[.slice A1 N p1, .int .i64 (i1 : Int), .int .i64 (j1 : Int)] 30))
    have HN := Lib.hid hn1
    have HV := Lib.hid hv1
    have B2 := Lib.hid (hb1.alloc hb1.size (.cells #[.slice A1 N p1, .int .i64 (i1 : Int), .int .i64 (j1 : Int)] 30))
    obtain ⟨rb, hrb⟩ : ∃ t, t = w1.heap.size := ⟨_, rfl⟩
    rw [← hrb] at X2
    have X2 := Lib.hid X2
    obtain ⟨off1, -, g1, g2, g3⟩ := hs1.addrT hv1.pos
    have HRB := Lib.hid (show w.heap.size ≤ rb ∧ b1 < rb from ⟨by have := hb1.size; omega, by omega⟩)
    clear hn1 hv1 hs1 hb1 g1 g2 g3
    go_wp2_with fail
    rw [← hrb]
    clear hrb
    generalize w1.alloc (.cells #[.slice A1 N p1, .int .i64 (i1 : Int), .int .i64 (j1 : Int)] 30) = w2 at *
    refine (itemsOf_any xs i1 j1 HV.out true b1 _ _ _ w2 HS2.out).mono ?_
    rintro _ w3 ⟨v3, b3, rfl, h3, s3⟩
    obtain ⟨had, hhad⟩ : ∃ t, t = itemsR xs i1 j1 := ⟨_, rfl⟩
    rw [← hhad] at h3
    have HHAD := Lib.hid hhad
    have HHL : Hid (had.length ≤ 16) := Lib.hid (by rw [hhad, itemsR_length]; have h1 := HV.out.cnt; have h2 := HV.out.most; simp only at h1 h2; omega)
    have HD3 := Lib.hid h3
    have X3 := Lib.hid (X2.out.keep s3)
    have HS3 := Lib.hid (HS2.out.span s3 (.inl (Nat.le_refl _)))
    have B3 := Lib.hid (s3.below B2.out (.inl (Nat.le_refl _)) B2.out.size)
    have HY3 := Lib.hid (hbyUpR (Hby.out.below B3.out) B3.out.size)
    clear h3 s3 hhad X2 HS2 B2
    go_wp2_with fail
    refine (fresh_any A n c 3 w3 (by omega) (by omega) Hn.out HY3.out).mono ?_
    rintro _ w4 ⟨A4, n4, c4, rfl, hn4, hy4, hb4⟩
    have X4 := Lib.hid (X3.out.keep (Span.of_below hb4))
    have HS4 := Lib.hid (HS3.out.span (Span.of_below hb4) (.inl (Nat.le_refl _)))
    have HD4 := Lib.hid (HD3.out.span (Span.of_below hb4) (.inl (Nat.le_refl _)))
    have B4 := Lib.hid ((Span.of_below hb4).below B3.out (.inl (Nat.le_refl _)) B3.out.size)
    have H4 := Lib.hid hn4
    have HY4 := Lib.hid hy4
    have HR4 := Lib.hid X4.out.1
    clear hn4 hy4 hb4 X3 HS3 HD3 B3 HY3
    go_wp2_with fail
    refine (makeSamples_any 30 (by omega) (by omega) A4 n4 c4 w4 (by have := H4.out; omega) HY4.out).mono ?_
    rintro _ w5 ⟨v5, ys, rfl, hl5, -, ho5, hb5⟩
    obtain ⟨A5, q5, rfl⟩ := ownsRow_slice ho5
    obtain ⟨b5, hs5, -, -⟩ := ownsRow_hasS ho5
    have X5 := Lib.hid (X4.out.keep (Span.of_below hb5))
    have HS5 := Lib.hid (HS4.out.span (Span.of_below hb5) (.inl (Nat.le_refl _)))
    have HD5 := Lib.hid (HD4.out.span (Span.of_below hb5) (.inl (Nat.le_refl _)))
    have B5 := Lib.hid ((Span.of_below hb5).below B4.out (.inl (Nat.le_refl _)) B4.out.size)
    obtain ⟨m, hm⟩ : ∃ t, t = ys.length := ⟨_, rfl⟩
    rw [← hm] at hl5 hs5 ⊢
    have HM := Lib.hid hm
    have HL5 := Lib.hid hl5
    have YS5 := Lib.hid hs5
    have iM : (m : Int) ≤ 30 := by omega
    have HO6 := Lib.hid (World.ownsRow_made (base := w5.heap.size) (e := 27) (size := 1) w5 #[] 0 (Nat.le_refl _) (Nat.zero_le _) rfl)
    have HD6 := Lib.hid (HD5.out.alloc (.cells #[] 27))
    have YS6 := Lib.hid (YS5.out.alloc (.cells #[] 27))
    clear hm hl5 ho5 hs5 hb5 X4 HS4 HD4 B4 H4 HY4
    obtain ⟨lh, hlh⟩ : ∃ t, t = had.length := ⟨_, rfl⟩
    have HLH := Lib.hid hlh
    obtain ⟨A3, p3, e3, -, -⟩ := id HD6.out
    rw [← hlh] at e3
    have HD6 : Hid (HasS cxV true b3 w2.heap.size w3.heap.size (w5.alloc (.cells #[] 27)) (.slice A3 lh p3) had) := Lib.hid (e3 ▸ HD6.out)
    subst e3
    clear hlh
    go_wp2_with (at_builtin; go_loud (first
      | (refine wpList_append_any cxV_one rfl _ _ 28 rfl w5.heap.size 27 ip (.complex .f32 0 0) 8 Try.underlying28 hip hzp hsp hbp rfl _ _ _ rfl HO6.out HD6.out rfl ?c1 ?c2 ?c3 ?_; (case c1 => have := HHL.out; unfold maxLen; omega); (case c2 => have := HHL.out; omega); (case c3 => simp); intro v6 w6 ho6 hg6 _; have HO7 := Lib.hid ho6; have G6 := Lib.hid hg6; have BL6 := Lib.hid (((Below.refl w5.heap.size w5).alloc (Nat.le_refl _) (.cells #[] 27)).grown hg6 (by simp) (fun k hk => by have hk' : some w5.heap.size = some k := hk; injection hk' with hk'; omega)); have YS7 := Lib.hid (YS5.out.span (Span.of_below BL6.out) (.inl (Nat.le_refl _))); clear ho6 hg6)
      | (refine wpList_append_any cxV_one rfl _ _ 28 rfl w5.heap.size 27 ip (.complex .f32 0 0) 8 Try.underlying28 hip hzp hsp hbp rfl _ _ _ rfl HO7.out YS7.out rfl ?c1 ?c2 ?c3 ?_; (case c1 => have := HHL.out; have := HM.out; have := HL5.out; unfold maxLen; omega); (case c2 => have := HHL.out; have := HM.out; have := HL5.out; omega); (case c3 => have := G6.out.size; simp at this; omega); intro v7 w7 ho7 hg7 _; have HO8 := Lib.hid ho7; have BL7 := Lib.hid (BL6.out.grown hg7 BL6.out.size (fun k hk => (HO7.out.lt k hk).1)); clear ho7 hg7)))
    obtain ⟨G, hG⟩ : ∃ t, t = w7.heap.size := ⟨_, rfl⟩
    have s57 := Span.of_below BL7.out
    have X8 := Lib.hid ((X5.out.keep s57).alloc (.cells #[] 27))
    have HS8 := Lib.hid ((HS5.out.span s57 (.inl (Nat.le_refl _))).alloc (.cells #[] 27))
    have YS8 := Lib.hid ((YS5.out.span s57 (.inl (Nat.le_refl _))).alloc (.cells #[] 27))
    have B8 := Lib.hid ((s57.below B5.out (.inl (Nat.le_refl _)) B5.out.size).alloc (Nat.le_trans B5.out.size s57.size) (.cells #[] 27))
    obtain ⟨all, hall⟩ : ∃ t, t = had ++ ys := ⟨_, rfl⟩
    have hoa : w7.ownsRow w5.heap.size 27 1 v7 all.length (all.map cxV) := by
      rw [hall, List.length_append, List.map_append]
      have := HO8.out
      simpa using this
    obtain ⟨A7, q7, rfl⟩ := ownsRow_slice hoa
    obtain ⟨b7, hs7, -, -⟩ := ownsRow_hasS hoa
    have AL8 := Lib.hid (hs7.alloc (.cells #[] 27))
    have HALL := Lib.hid hall
    have hz57 := s57.size
    have HG := Lib.hid (show rb < G ∧ b1 < G ∧ w.heap.size ≤ rb from ⟨by have := X5.out.1; omega, by have := X5.out.1; have := HRB.out; omega, HRB.out.1⟩)
    have YI := Lib.hid (YS5.out.inG (G := G) (rb := rb) (by omega) HR4.out)
    have AI := Lib.hid (hs7.inG (G := G) (rb := rb) (by omega) X5.out.1)
    have OG := World.ownsRow_made (base := w7.heap.size) (e := 27) (size := 1) w7 #[] 0 (Nat.le_refl _) (Nat.zero_le _) rfl
    have GZ : G ≤ (w7.alloc (.cells #[] 27)).heap.size := by simp <;> omega
    have AML := Lib.hid (show all.length ≤ 46 by rw [hall, List.length_append, ← HLH.out, ← HM.out]; have := HHL.out; have := HLH.out; have := HL5.out; omega)
    rw [← hG] at OG ⊢
    have GO8 : Hid (Going rb G N (had ++ ys.take 0) (xs, i1, j1) (.slice (some ⟨G, 0, none⟩) 0 0) (w7.alloc (.cells #[] 27))) := Lib.hid
      ⟨A1, p1, b1, [], X8.out, HV.out, HN.out, HS8.out.weak (Nat.zero_le _) (.inr (Nat.le_refl _)), OG, fun g hg => by have hg' : some G = some g := hg; injection hg' with hg'; have := HG.out; have := HRB.out; omega, by rw [HHAD.out]; simp [itsR], GZ, HG.out.1⟩
    have KZ := Lib.hid GZ
    clear hG s57 hall hoa hs7 hz57 OG GZ X5 HS5 HD5 YS5 B5 HO6 HO7 HO8 HD6 YS6 YS7 G6 BL6 BL7 HR4 X8 HS8
    generalize w7.alloc (.cells #[] 27) = w8 at *
    go_loopw [7, 9, 10, 11, 12, 13, 39] (fun u _ _ _ _ _ i wr => ∃ (q : Nat) (r : Rn), q ≤ m ∧ i = .int .i64 q ∧ Going rb G N (had ++ ys.take q) r u wr ∧ Kp rb G w8 wr) (fun _ _ _ _ _ _ i _ => m - (intOf i).toNat)
    case atStart => exact ⟨0, (xs, i1, j1), Nat.zero_le _, rfl, GO8.out, Kp.refl _ _ _⟩
    case round =>
      clear GO8
      obtain ⟨q, ⟨xr, ir, jr⟩, hq, rfl, hgo, hkp⟩ := hrel
      obtain ⟨A, p, bs, gs, hx, hv, hN, hs, ho, hne, he, hGz, hrb⟩ := id hgo
      have hjN := hv.cnt
      have hN16 := hv.most
      have hN1 := hv.pos
      simp only at hx hN hs hjN hN16 hN1
      rw [← hN] at hjN hN16 hN1
      have HVr := Lib.hid hv
      have HNr := Lib.hid hN
      have HXr := Lib.hid hx
      have HSr := Lib.hid hs
      have HOr := Lib.hid ho
      have HNEr := Lib.hid hne
      have HEr := Lib.hid he
      have HGr := Lib.hid hGz
      have HK := Lib.hid hkp
      have HGO := Lib.hid hgo
      have HJN := Lib.hid (show jr ≤ N ∧ N ≤ 16 ∧ 1 ≤ N from ⟨hjN, hN16, hN1⟩)
      obtain ⟨gs', hog, hgl⟩ := going_len hgo
      have HGL := Lib.hid (show gs.length ≤ 46 by
        have h1 : (gs ++ itsR (xr, ir, jr)).length = (had ++ ys.take q).length := by rw [he]
        simp only [List.length_append, List.length_take] at h1
        have h2 := HHL.out
        have h3 := HL5.out
        have h4 := HM.out
        omega)
      clear hog hgl hgo
      by_cases hlt : q < m
      · have hqy : q < ys.length := by rw [← HM.out]; exact hlt
        obtain ⟨⟨z1, z2⟩, hz⟩ := getElem?_some hqy
        have hYr := HK.out.hasS YS8.out YI.out.1 YI.out.2
        obtain ⟨A', cap', e, _, hc⟩ := hYr
        injection e with e1 e2 e3
        subst e1
        obtain ⟨off, rfl, _, _, _, hcell, _⟩ := hc (by omega)
        have hck : wr.cell? ⟨b5, off + q, none⟩ = some (.complex .f32 z1 z2) := hcell q _ hz
        have HTK : Hid (ys.take (q + 1) = ys.take q ++ [(z1, z2)]) := Lib.hid (by rw [List.take_add_one, hz]; rfl)
        have HLT := Lib.hid hlt
        have i2' : (0 : Int) ≤ (q : Int) := by omega
        have i3' : (q : Int) < (m : Int) := by omega
        clear hqy hz hc e2 e3 hcell hx hs ho hne he hGz hkp hv hN hjN hN16 hN1 hlt
        obtain ⟨⟨x2, i2, j2⟩, hR⟩ : ∃ t, t = pushR (xr, ir, jr) (z1, z2) := ⟨_, rfl⟩
        obtain ⟨⟨o1, o2⟩, hO⟩ : ∃ t, t = oldR (xr, ir, jr) := ⟨_, rfl⟩
        have PU := fun (wc : World) (hs : HasS cxV true bs 0 wr.heap.size wc (.slice A N p) xr) => pushRing_any (xr, ir, jr) HVr.out (z1, z2) true bs 0 wr.heap.size _ wc hs
        unfold PushedR at PU
        simp only [← hR, ← hO] at PU
        have HPU := Lib.hid PU
        have HV2 : Hid (VR (x2, i2, j2)) := Lib.hid (by rw [hR]; exact HVr.out.push _)
        have HN2 : Hid (N = x2.length) := Lib.hid (by have := pushR_len (xr, ir, jr) (z1, z2); rw [← hR] at this; rw [HNr.out]; exact this.symm)
        have HIT := itsR_push HVr.out (z1, z2)
        rw [← hR, ← hO] at HIT
        by_cases hf : jr = N
        · rw [if_pos (show jr = xr.length from hf.trans HNr.out)] at HIT
          have HIT := Lib.hid HIT
          have hfs : N = jr := hf.symm
          subst hfs
          clear PU hR hO hf
          go_upto_region 11 with fail
          go_cut [10] (fun s wx => s = .bool true ∧ Span 0 0 wr wx)
          case first =>
            have cx := HXr.out.cells
            go_wp2_with fail
            go_region_with (go_at_call 23; go_loud ((refine (itemsOf_any xr ir N HVr.out true bs _ _ _ _ (by first | exact HSr.out | exact HSr.out.drewN _)).mono ?_; rintro _ wi ⟨vi, bi, rfl, hi, si⟩; obtain ⟨Ai, pi, rfl, -, -⟩ := id hi; have SI : Hid (Span 0 0 wr wi) := (by first | exact si | exact si.undrawn | exact Span.undrawn (n := 1) si); have ci := (HXr.out.keep SI.out).cells; rw [itemsR_length]; clear si hi)))
            all_goals
              go_wp2_with fail
              go_meet
              exact ⟨by first | rfl | simp [show True from trivial], by first | exact SI.out | exact SI.out.drewN _ | exact SI.out.drew⟩
          case rest =>
            obtain ⟨rfl, sx⟩ := hcut
            have SX := Lib.hid sx
            have XC := Lib.hid (HXr.out.keep sx)
            have HSC := Lib.hid (HSr.out.span sx (.inl (Nat.le_refl _)))
            have cx := XC.out.cells
            clear sx
            go_wp2_with fail
            refine (HPU.out wc HSC.out).mono ?_
            rintro _ w9 ⟨v9, b9, rfl, h9, s9⟩
            obtain ⟨A9, p9, rfl, -, -⟩ := id h9
            simp only [← HN2.out]
            have h9' : HasS cxV true b9 wc.heap.size w9.heap.size w9 (.slice A9 N p9) x2 := by
              have h := h9
              simp only [← HN2.out] at h
              exact h
            have H9 := Lib.hid h9'
            have S9 := Lib.hid (SX.out.trans s9)
            have X9 := Lib.hid (XC.out.keep s9)
            have N9 := Lib.hid (Bx.new w9 #[.slice A9 N p9, .int .i64 (i2 : Int), .int .i64 (j2 : Int)] 30)
            have ZC9 := Lib.hid SX.out.size
            obtain ⟨nb, hnb⟩ : ∃ t, t = w9.heap.size := ⟨_, rfl⟩
            have hnbr : rb < nb := by have := X9.out.1; omega
            have m1 : ¬ rb = w9.heap.size := by have := X9.out.1; omega
            have m2 : ¬ w9.heap.size = rb := by have := X9.out.1; omega
            clear hnb hnbr nb h9 h9' s9
            have x9c := (X9.out.alloc (.cells #[.slice A9 N p9, .int .i64 (i2 : Int), .int .i64 (j2 : Int)] 30)).cells
            have x9f := (X9.out.alloc (.cells #[.slice A9 N p9, .int .i64 (i2 : Int), .int .i64 (j2 : Int)] 30)).thaw
            have n9c := N9.out.cells
            have HOA := Lib.hid ((ownsRow_keep HOr.out S9.out).alloc (.cells #[.slice A9 N p9, .int .i64 (i2 : Int), .int .i64 (j2 : Int)] 30))
            have G1 := oneR_hasS (w9.alloc (.cells #[.slice A9 N p9, .int .i64 (i2 : Int), .int .i64 (j2 : Int)] 30)) o1 o2
            rw [show (w9.alloc (.cells #[.slice A9 N p9, .int .i64 (i2 : Int), .int .i64 (j2 : Int)] 30)).heap.size = w9.heap.size + 1 by simp] at G1
            have G1 := Lib.hid G1
            go_wp2_with (at_builtin; go_loud ((refine wpList_append_any cxV_one rfl _ _ 28 rfl G 27 ip (.complex .f32 0 0) 8 Try.underlying28 hip hzp hsp hbp rfl _ _ _ rfl (HOA.out.alloc _) G1.out rfl ?c1 ?c2 ?c3 ?_; (case c1 => have := HGL.out; unfold maxLen; simp <;> omega); (case c2 => have := HGL.out; simp <;> omega); (case c3 => have := HGr.out; have := S9.out.size; simp <;> omega); intro va wa hoa hga hata; have HA1 := Lib.hid hoa; have HA2 := Lib.hid hga; have HA3 := Lib.hid hata; have xac := (((X9.out.alloc (.cells #[.slice A9 N p9, .int .i64 (i2 : Int), .int .i64 (j2 : Int)] 30)).alloc (.cells #[.complex .f32 o1 o2] 27)).grownBy hga (fun k hk => by have := (HOr.out.lt k hk).1; have := HG.out; omega)).cells; have xaf := (((X9.out.alloc (.cells #[.slice A9 N p9, .int .i64 (i2 : Int), .int .i64 (j2 : Int)] 30)).alloc (.cells #[.complex .f32 o1 o2] 27)).grownBy hga (fun k hk => by have := (HOr.out.lt k hk).1; have := HG.out; omega)).thaw; have nac := (((N9.out).alloc (.cells #[.complex .f32 o1 o2] 27)).grownBy hga (fun k hk => by have := (HOr.out.lt k hk).2; have := S9.out.size; omega)).cells; clear hoa hga hata)))
            have GN := Lib.hid (going_app (r' := (x2, i2, j2)) (all' := had ++ ys.take (q + 1)) _ rfl HXr.out HOr.out HGr.out HG.out.1 S9.out (H9.out.weak ZC9.out (.inl (Nat.le_refl _))) HV2.out HN2.out (((Span.refl 0 0 w9).alloc (.cells #[.slice A9 N p9, .int .i64 (i2 : Int), .int .i64 (j2 : Int)] 30)).alloc (.cells #[.complex .f32 o1 o2] 27)) HA2.out HA1.out HA3.out (by rw [HTK.out, List.append_assoc, HIT.out, ← List.append_assoc, HEr.out, List.append_assoc]))
            have KN := Lib.hid (((HK.out.trans (Kp.of_span S9.out HGr.out)).trans (Kp.of_span (((Span.refl 0 0 w9).alloc (.cells #[.slice A9 N p9, .int .i64 (i2 : Int), .int .i64 (j2 : Int)] 30)).alloc (.cells #[.complex .f32 o1 o2] 27)) (Nat.le_trans HGr.out S9.out.size))).trans ((Kp.of_grown HA2.out (by have := HGr.out; have := S9.out.size; simp <;> omega) (fun k hk => (HOr.out.lt k hk).1)).trans (Kp.of_put ((Span.refl rb (rb + 1) wa).put3 (b := rb) ⟨Nat.le_refl _, Nat.lt_succ_self _⟩ (.slice A9 N p9) (.int .i64 (i2 : Int)) (.int .i64 (j2 : Int))) (by have := HGr.out; have := S9.out.size; have := HA2.out.size; simp at this; omega))))
            go_roundw
            case rel => exact ⟨q + 1, (x2, i2, j2), HLT.out, by first | rfl | go_num | simp, GN.out, KN.out⟩
            case measure => have := HLT.out; simp [intOf]; omega

        · rw [if_neg (show ¬ jr = xr.length from fun e => hf (e.trans HNr.out.symm))] at HIT
          have HIT := Lib.hid HIT
          have hoz : (o1, o2) = (0, 0) := by rw [hO]; exact if_neg (show ¬ jr = xr.length from fun e => hf (e.trans HNr.out.symm))
          injection hoz with hz1 hz2
          subst hz1 hz2
          have oz : FloatKind.f32.format.order 0 0 = some .eq := by decide +kernel
          have hf' : ¬ (jr : Int) = (N : Int) := by omega
          have hf2 : ¬ jr = N := hf
          clear PU hR hO hf
          go_upto_region 11 with fail
          go_cut [10] (fun s wx => s = .bool false ∧ Span 0 0 wr wx)
          case first =>
            have cx := HXr.out.cells
            go_wp2_with fail
            go_region_with (go_at_call 23; go_loud ((refine (itemsOf_any xr ir jr HVr.out true bs _ _ _ _ (by first | exact HSr.out | exact HSr.out.drewN _)).mono ?_; rintro _ wi ⟨vi, bi, rfl, hi, si⟩; obtain ⟨Ai, pi, rfl, -, -⟩ := id hi; have SI : Hid (Span 0 0 wr wi) := (by first | exact si | exact si.undrawn | exact Span.undrawn (n := 1) si); have ci := (HXr.out.keep SI.out).cells; rw [itemsR_length]; clear si hi)))
            all_goals
              go_wp2_with fail
              go_meet
              exact ⟨by first | rfl | simp [hf'], by first | exact SI.out | exact SI.out.drewN _ | exact SI.out.drew⟩
          case rest =>
            obtain ⟨rfl, sx⟩ := hcut
            have SX := Lib.hid sx
            have XC := Lib.hid (HXr.out.keep sx)
            have HSC := Lib.hid (HSr.out.span sx (.inl (Nat.le_refl _)))
            have cx := XC.out.cells
            clear sx
            go_wp2_with fail
            refine (HPU.out wc HSC.out).mono ?_
            rintro _ w9 ⟨v9, b9, rfl, h9, s9⟩
            obtain ⟨A9, p9, rfl, -, -⟩ := id h9
            simp only [← HN2.out]
            have h9' : HasS cxV true b9 wc.heap.size w9.heap.size w9 (.slice A9 N p9) x2 := by
              have h := h9
              simp only [← HN2.out] at h
              exact h
            have H9 := Lib.hid h9'
            have S9 := Lib.hid (SX.out.trans s9)
            have X9 := Lib.hid (XC.out.keep s9)
            have N9 := Lib.hid (Bx.new w9 #[.slice A9 N p9, .int .i64 (i2 : Int), .int .i64 (j2 : Int)] 30)
            have ZC9 := Lib.hid SX.out.size
            obtain ⟨nb, hnb⟩ : ∃ t, t = w9.heap.size := ⟨_, rfl⟩
            have hnbr : rb < nb := by have := X9.out.1; omega
            have m1 : ¬ rb = w9.heap.size := by have := X9.out.1; omega
            have m2 : ¬ w9.heap.size = rb := by have := X9.out.1; omega
            clear hnb hnbr nb h9 h9' s9
            have x9c := (X9.out.alloc (.cells #[.slice A9 N p9, .int .i64 (i2 : Int), .int .i64 (j2 : Int)] 30)).cells
            have x9f := (X9.out.alloc (.cells #[.slice A9 N p9, .int .i64 (i2 : Int), .int .i64 (j2 : Int)] 30)).thaw
            have n9c := N9.out.cells
            go_wp2_with fail
            have GN := Lib.hid (going_put (r' := (x2, i2, j2)) (all' := had ++ ys.take (q + 1)) _ rfl HXr.out HOr.out HGr.out HG.out.1 S9.out (H9.out.weak ZC9.out (.inl (Nat.le_refl _))) HV2.out HN2.out ((Span.refl 0 0 w9).alloc (.cells #[.slice A9 N p9, .int .i64 (i2 : Int), .int .i64 (j2 : Int)] 30)) (by rw [HTK.out, ← List.append_assoc, ← HEr.out, List.append_assoc]; first | (congr 1; done) | (have := HIT.out; simp only [List.nil_append] at this; rw [this])))
            have KN := Lib.hid (((HK.out.trans (Kp.of_span S9.out HGr.out)).trans (Kp.of_span ((Span.refl 0 0 w9).alloc (.cells #[.slice A9 N p9, .int .i64 (i2 : Int), .int .i64 (j2 : Int)] 30)) (Nat.le_trans HGr.out S9.out.size))).trans (Kp.of_put ((Span.refl rb (rb + 1) (w9.alloc (.cells #[.slice A9 N p9, .int .i64 (i2 : Int), .int .i64 (j2 : Int)] 30))).put3 (b := rb) ⟨Nat.le_refl _, Nat.lt_succ_self _⟩ (.slice A9 N p9) (.int .i64 (i2 : Int)) (.int .i64 (j2 : Int))) (by have := HGr.out; have := S9.out.size; simp <;> omega)))
            go_roundw
            case rel => exact ⟨q + 1, (x2, i2, j2), HLT.out, by first | rfl | go_num | simp, GN.out, KN.out⟩
            case measure => have := HLT.out; simp [intOf]; omega

      · have hqm : q = m := by omega
        have i4 : ¬ ((q : Int) < (m : Int)) := by omega
        have hal : had ++ ys.take q = all := by rw [hqm, HM.out, List.take_length, HALL.out]
        have HGO2 : Hid (Going rb G N all (xr, ir, jr) _ wr) := Lib.hid (hal ▸ HGO.out)
        have c3 := HXr.out.cells
        have i5 : ¬ (q < m) := hlt
        clear hx hs ho hne he hGz hkp hv hN hjN hN16 hN1 hlt hqm hal
        go_wp2_with fail
        refine (itemsOf_any xr ir jr HVr.out true bs _ _ _ wr HSr.out).mono ?_
        rintro _ wi ⟨vi, bi, rfl, hi, si⟩
        obtain ⟨Ai, pi, rfl, -, -⟩ := id hi
        rw [itemsR_length]
        have GO3 := Lib.hid (HGO2.out.keep si)
        have K3 := Lib.hid (HK.out.trans (Kp.of_span si HGr.out))
        clear hi si c3 i4 i5 HXr HSr HOr HNEr HEr HGr HK HGO HJN HGL HGO2 HVr HNr
        go_wp2_with fail
        go_loopw [7, 14, 15, 16, 17] (fun u k _ _ _ wr => ∃ (r : Rn), k = .int .i64 (r.2.2 : Int) ∧ Going rb G N all r u wr ∧ Kp rb G w8 wr) (fun _ k _ _ _ _ => (intOf k).toNat)
        case atStart => exact ⟨(xr, ir, jr), rfl, GO3.out, K3.out⟩
        case round =>
          clear GO3 K3
          obtain ⟨⟨xt, it, jt⟩, rfl, hgo, hkp⟩ := hrel
          obtain ⟨A, p, bs, gs, hx, hv, hN, hs, ho, hne, he, hGz, hrb⟩ := id hgo
          have hjN := hv.cnt
          have hN16 := hv.most
          have hN1 := hv.pos
          simp only at hx hN hs hjN hN16 hN1
          rw [← hN] at hjN hN16 hN1
          have HVr := Lib.hid hv
          have HNr := Lib.hid hN
          have HXr := Lib.hid hx
          have HSr := Lib.hid hs
          have HOr := Lib.hid ho
          have HEr := Lib.hid he
          have HGr := Lib.hid hGz
          have HK := Lib.hid hkp
          have HGL := Lib.hid (show gs.length ≤ 46 by
            have h1 : (gs ++ itsR (xt, it, jt)).length = all.length := by rw [he]
            simp only [List.length_append] at h1
            have h2 := AML.out
            omega)
          have jt16 : (jt : Int) ≤ 16 := by omega
          have cx := hx.cells
          clear hgo
          by_cases hp : 0 < jt
          · have HP := Lib.hid hp
            have jt0 : (0 : Int) < (jt : Int) := by omega
            obtain ⟨⟨x2, i2, j2⟩, hR⟩ : ∃ t, t = takeR (xt, it, jt) := ⟨_, rfl⟩
            obtain ⟨⟨o1, o2⟩, hO⟩ : ∃ t, t = itemR xt it 0 := ⟨_, rfl⟩
            have PU := takeRing_any (xt, it, jt) hv hp true bs 0 wr.heap.size _ wr hs
            unfold TakenR at PU
            simp only [← hR, ← hO] at PU
            have HPU := Lib.hid PU
            have HV2 : Hid (VR (x2, i2, j2)) := Lib.hid (by rw [hR]; exact hv.take hp)
            have HN2 : Hid (N = x2.length) := Lib.hid (by have := takeR_len (xt, it, jt); rw [← hR] at this; rw [hN]; exact this.symm)
            have HJ2 : Hid ((j2 : Int) = (jt : Int) - 1) := Lib.hid (by have := takeR_cnt (xt, it, jt); rw [← hR] at this; simp only at this; omega)
            have HIT := itsR_take hv hp
            rw [← hR, ← hO] at HIT
            have HIT := Lib.hid HIT
            clear PU hR hO hp hx hs ho hne he hGz hkp hv hN hjN hN16 hN1
            go_wp2_with fail
            refine HPU.out.mono ?_
            rintro _ w9 ⟨v9, b9, rfl, h9, s9⟩
            obtain ⟨A9, p9, rfl, -, -⟩ := id h9
            simp only [← HN2.out]
            have h9' : HasS cxV true b9 wr.heap.size w9.heap.size w9 (.slice A9 N p9) x2 := by
              have h := h9
              simp only [← HN2.out] at h
              exact h
            have H9 := Lib.hid h9'
            have S9 := Lib.hid s9
            have X9 := Lib.hid (HXr.out.keep s9)
            have N9 := Lib.hid (Bx.new w9 #[.slice A9 N p9, .int .i64 (i2 : Int), .int .i64 (j2 : Int)] 30)
            have m1 : ¬ rb = w9.heap.size := by have := X9.out.1; omega
            have m2 : ¬ w9.heap.size = rb := by have := X9.out.1; omega
            have HOA := Lib.hid ((ownsRow_keep HOr.out s9).alloc (.cells #[.slice A9 N p9, .int .i64 (i2 : Int), .int .i64 (j2 : Int)] 30))
            clear h9 h9' s9 cx
            have G1 := oneR_hasS (w9.alloc (.cells #[.slice A9 N p9, .int .i64 (i2 : Int), .int .i64 (j2 : Int)] 30)) o1 o2
            rw [show (w9.alloc (.cells #[.slice A9 N p9, .int .i64 (i2 : Int), .int .i64 (j2 : Int)] 30)).heap.size = w9.heap.size + 1 by simp] at G1
            have G1 := Lib.hid G1
            go_wp2_with (at_builtin; go_loud ((refine wpList_append_any cxV_one rfl _ _ 28 rfl G 27 ip (.complex .f32 0 0) 8 Try.underlying28 hip hzp hsp hbp rfl _ _ _ rfl (HOA.out.alloc _) G1.out rfl ?c1 ?c2 ?c3 ?_; (case c1 => have := HGL.out; unfold maxLen; simp <;> omega); (case c2 => have := HGL.out; simp <;> omega); (case c3 => have := HGr.out; have := S9.out.size; simp <;> omega); intro va wa hoa hga hata; have HA1 := Lib.hid hoa; have HA2 := Lib.hid hga; have HA3 := Lib.hid hata; have xac := (((X9.out.alloc (.cells #[.slice A9 N p9, .int .i64 (i2 : Int), .int .i64 (j2 : Int)] 30)).alloc (.cells #[.complex .f32 o1 o2] 27)).grownBy hga (fun k hk => by have := (HOr.out.lt k hk).1; have := HG.out; omega)).cells; have xaf := (((X9.out.alloc (.cells #[.slice A9 N p9, .int .i64 (i2 : Int), .int .i64 (j2 : Int)] 30)).alloc (.cells #[.complex .f32 o1 o2] 27)).grownBy hga (fun k hk => by have := (HOr.out.lt k hk).1; have := HG.out; omega)).thaw; have nac := (((N9.out).alloc (.cells #[.complex .f32 o1 o2] 27)).grownBy hga (fun k hk => by have := (HOr.out.lt k hk).2; have := S9.out.size; omega)).cells; clear hoa hga hata)))
            have GN := Lib.hid (going_app (r' := (x2, i2, j2)) (all' := all) _ rfl HXr.out HOr.out HGr.out HG.out.1 S9.out H9.out HV2.out HN2.out (((Span.refl 0 0 w9).alloc (.cells #[.slice A9 N p9, .int .i64 (i2 : Int), .int .i64 (j2 : Int)] 30)).alloc (.cells #[.complex .f32 o1 o2] 27)) HA2.out HA1.out HA3.out (by rw [← HEr.out, HIT.out, List.append_assoc]; rfl))
            have KN := Lib.hid (((HK.out.trans (Kp.of_span S9.out HGr.out)).trans (Kp.of_span (((Span.refl 0 0 w9).alloc (.cells #[.slice A9 N p9, .int .i64 (i2 : Int), .int .i64 (j2 : Int)] 30)).alloc (.cells #[.complex .f32 o1 o2] 27)) (Nat.le_trans HGr.out S9.out.size))).trans ((Kp.of_grown HA2.out (by have := HGr.out; have := S9.out.size; simp <;> omega) (fun k hk => (HOr.out.lt k hk).1)).trans (Kp.of_put ((Span.refl rb (rb + 1) wa).put3 (b := rb) ⟨Nat.le_refl _, Nat.lt_succ_self _⟩ (.slice A9 N p9) (.int .i64 (i2 : Int)) (.int .i64 (j2 : Int))) (by have := HGr.out; have := S9.out.size; have := HA2.out.size; simp at this; omega))))
            go_roundw
            case rel => exact ⟨(x2, i2, j2), by simp only [HJ2.out], GN.out, KN.out⟩
            case measure => have := HP.out; simp [intOf]; omega
          · have hj0 : jt = 0 := by omega
            subst hj0
            have hgs : gs = all := by rw [← he]; simp [itsR, itemsR]
            subst hgs
            obtain ⟨Au, qu, rfl⟩ := ownsRow_slice ho
            have TN := Lib.hid (takeRing_none xt it hv true bs 0 wr.heap.size _ wr hs)
            have AR := Lib.hid (hkp.hasS AL8.out AI.out.1 AI.out.2)
            have BR := Lib.hid (hkp.below B8.out HG.out.2.2 (by have := HG.out; omega))
            clear hp hx hs ho hne he hGz hkp hv hN hjN hN16 hN1
            go_wp2_with fail
            refine TN.out.mono ?_
            rintro _ wt ⟨rfl, st⟩
            have OT := (ownsRow_keep HOr.out st).alloc (.cells #[.slice none 0 0, .int .i64 0, .int .i64 0] 30)
            obtain ⟨bt, ht, -, -⟩ := ownsRow_hasS OT
            have HT := Lib.hid ht
            have AT := Lib.hid ((AR.out.span st (.inl (Nat.le_refl _))).alloc (.cells #[.slice none 0 0, .int .i64 0, .int .i64 0] 30))
            have BT := Lib.hid ((st.below BR.out (.inl (Nat.le_refl _)) BR.out.size).alloc (Nat.le_trans BR.out.size st.size) (.cells #[.slice none 0 0, .int .i64 0, .int .i64 0] 30))
            clear st OT ht
            go_wp2_with fail
            refine (makeSame_self gs _ _ _ _ _ _ _ _ _ _ _ HT.out AT.out (by have := HGL.out; omega)).mono ?_
            rintro _ _ ⟨nd, rfl, rfl⟩
            have BF := Lib.hid (Below.drewN BT.out nd)
            go_wp2_with fail
            go_ret
            exact ⟨rfl, BF.out⟩

  · have i0 : decide ((1048576 : Int) < (n : Int)) = true := by rw [decide_eq_true_iff]; omega
    clear hn h
    go_enter Try.func5, Try.ntmps5
    go_wp2_with fail
    go_ret
    exact ⟨rfl, Below.refl _ _⟩
end Go.Proofs.Ytdmahikaajdkgaa
