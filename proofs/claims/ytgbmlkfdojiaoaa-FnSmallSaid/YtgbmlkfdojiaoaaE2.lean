/- The law FnSmall. -/
import Derived.Test.YtgbmlkfdojiaoaaE1
namespace Go.Proofs.Ytgbmlkfdojiaoaa
open Ieee Go.RowKit

set_option maxRecDepth 100000 in
set_option maxHeartbeats 2000000 in
theorem law_small (A : Option Addr) (n c : Nat) (w : World) (h : HasBy w.heap.size w A n) : Calls Try.prog 3 #[.slice A n c] w (Says w) := by
  by_cases hn : n ≤ 1048576
  · have Hn := Lib.hid hn
    have Hby := Lib.hid h
    have i0 : decide ((1048576 : Int) < (n : Int)) = false := by rw [decide_eq_false_iff_not]; omega
    clear hn h
    go_enter Try.func3, Try.ntmps3
    go_wp2_with fail
    refine (makeFloat_any A n c w Hn.out Hby.out).mono ?_
    rintro _ w1 ⟨x, rfl, hx, hb1⟩
    have Hby1 := Lib.hid (Hby.out.below hb1)
    have Hx := Lib.hid hx
    clear hx
    go_wp2_with fail
    refine (impl_flushSmall x Hx.out w1).mono ?_
    rintro _ _ ⟨f, m1, rfl, rfl, hf⟩
    go_wp2_with fail
    refine (impl_isSubnormal f _).mono ?_
    rintro _ _ ⟨m2, rfl, rfl⟩
    cases hnan : nanB .f32 x with
    | true =>
      have hfn : nanB .f32 f = true := by
        rw [nan_flush hnan] at hf
        rcases hf with rfl | ⟨h1, _⟩
        · exact hnan
        · exact h1
      rw [nan_subB hfn]
      have o1 : FloatKind.f32.format.order f f = none := order_nan_left hfn
      have o2 : FloatKind.f32.format.order x x = none := order_nan_left hnan
      have o3 : FloatKind.f32.format.order x 16777216 = none := order_nan_left hnan
      have o4 : FloatKind.f32.format.order (Op.negFloat .f32 x) 16777216 = none := order_nan_left (nan_of_rung (by rw [(neg_rung x).1]; exact nan_rung hnan))
      clear hf
      go_wp2_with fail
      refine (impl_isSubnormal x _).mono ?_
      rintro _ _ ⟨m3, rfl, rfl⟩
      rw [nan_subB hnan]
      clear hnan hfn
      go_wp2_with fail
      refine (at_any w.heap.size A n c 1 _ (by omega) (by omega) Hn.out (by exact Hby1.out)).mono ?_
      rintro _ _ ⟨⟨v1, rfl, p0, p1⟩, rfl⟩
      go_wp2_with fail
      refine (at_any w.heap.size A n c 2 _ (by omega) (by omega) Hn.out (by exact Hby1.out)).mono ?_
      rintro _ _ ⟨⟨v2, rfl, q0, q1⟩, rfl⟩
      go_wp2_with fail
      refine (impl_halveSingle x (v1 % 160) _ (by omega) (by omega)).mono ?_
      rintro _ _ ⟨r1, k1, rfl, rfl, g1⟩
      go_wp2_with fail
      refine (impl_halveSingle r1 (v2 % 160) _ (by omega) (by omega)).mono ?_
      rintro _ _ ⟨r2, k2, rfl, rfl, g2⟩
      go_wp2_with fail
      refine (impl_halveSingle x (v1 % 160 + v2 % 160) _ (by omega) (by omega)).mono ?_
      rintro _ _ ⟨r3, k3, rfl, rfl, g3⟩
      rcases small_end2 x r1 r2 r3 (v1 % 160) (v2 % 160) (by omega) (by omega) (by omega) (by omega) g1 g2 g3 with ⟨z1, z2⟩ | ⟨rfl, z1⟩
      · have y1 : FloatKind.f32.format.order r2 r3 = none := order_nan_left z1
        have y2 : FloatKind.f32.format.order r2 r2 = none := order_nan_left z1
        have y3 : FloatKind.f32.format.order r3 r3 = none := order_nan_left z2
        clear g1 g2 g3 z1 z2
        go_wp2_with fail
        go_ret
        exact ⟨rfl, Below.drewN hb1 _⟩
      · have y1 : FloatKind.f32.format.order r2 r2 = some .eq := by rw [order_self, z1]; rfl
        clear g1 g2 g3 z1
        go_wp2_with fail
        go_ret
        exact ⟨rfl, Below.drewN hb1 _⟩
    | false =>
      have hff : f = flushB x := by
        rcases hf with h | ⟨_, h2⟩
        · exact h
        · rw [flush_not_nan hnan] at h2; cases h2
      subst hff
      rw [subB_flush]
      have o1 : FloatKind.f32.format.order (flushB x) (flushB x) = some .eq := by rw [order_self, flush_not_nan hnan]; rfl
      have o2 : FloatKind.f32.format.order x x = some .eq := by rw [order_self, hnan]; rfl
      have hlt : flushB x < 4294967296 := by
        unfold flushB zeroOf
        split
        · split <;> omega
        · exact Hx.out
      have Hlt := Lib.hid hlt
      have hsame : subB x = false → flushB x = x := fun h => by unfold flushB; rw [h]; rfl
      have Hsame := Lib.hid hsame
      have hff2 := flush_flush x
      have Hff2 := Lib.hid hff2
      have hnf := flush_not_nan hnan
      have Hnf := Lib.hid hnf
      clear hf hlt hsame hff2 hnf
      generalize flushB x = f at *
      go_wp2_with fail
      refine (impl_flushSmall f Hlt.out _).mono ?_
      rintro _ _ ⟨f2, m3, rfl, rfl, hf2⟩
      have hf3 : f2 = f := by
        rw [Hff2.out] at hf2
        rcases hf2 with h | ⟨_, h2⟩
        · exact h
        · rw [Hnf.out] at h2; cases h2
      subst hf3
      clear hf2
      go_wp2_with fail
      refine (impl_isSubnormal x _).mono ?_
      rintro _ _ ⟨m4, rfl, rfl⟩
      have hkey : subB x = true ∨ (subB x = false ∧ x = f2) := by
        cases hs : subB x
        · exact .inr ⟨rfl, (Hsame.out hs).symm⟩
        · exact .inl rfl
      have hrung : rungOf Ieee.single x ≤ 2139095040 := by
        rcases Nat.lt_or_ge 2139095040 (rungOf Ieee.single x) with h | h
        · rw [nan_of_rung h] at hnan; cases hnan
        · exact h
      clear hnan Hsame Hff2 Hnf Hlt
      have hcls : (rungOf Ieee.single x < 2139095040) ∨ (rungOf Ieee.single x = 2139095040) := by omega
      clear hrung
      rcases hcls with hfin | hinf
      · have s1 := sub_self_fin (x := x) (by rw [s_inf]; exact hfin)
        have hq : ∀ w, fAr .sub .f32 x x w = 0 := by intro w; simp [fAr, s1]
        have ho0 : FloatKind.f32.format.order 0 0 = some .eq := by decide +kernel
        have Hfin := Lib.hid hfin
        have hbig := big_cases hfin
        clear s1 hfin
        rcases hbig with ⟨b1, b2⟩ | ⟨hb, b⟩
        · rcases hkey with hs | ⟨hs, rfl⟩
          all_goals
            rw [hs]
            clear hs
            go_wp2_with fail
            refine (at_any w.heap.size A n c 1 _ (by omega) (by omega) Hn.out (by exact Hby1.out)).mono ?_
            rintro _ _ ⟨⟨v1, rfl, p0, p1⟩, rfl⟩
            go_wp2_with fail
            refine (at_any w.heap.size A n c 2 _ (by omega) (by omega) Hn.out (by exact Hby1.out)).mono ?_
            rintro _ _ ⟨⟨v2, rfl, q0, q1⟩, rfl⟩
            go_wp2_with fail
            refine (impl_halveSingle x (v1 % 160) _ (by omega) (by omega)).mono ?_
            rintro _ _ ⟨r1, k1, rfl, rfl, g1⟩
            go_wp2_with fail
            refine (impl_halveSingle r1 (v2 % 160) _ (by omega) (by omega)).mono ?_
            rintro _ _ ⟨r2, k2, rfl, rfl, g2⟩
            go_wp2_with fail
            refine (impl_halveSingle x (v1 % 160 + v2 % 160) _ (by omega) (by omega)).mono ?_
            rintro _ _ ⟨r3, k3, rfl, rfl, g3⟩
            rcases small_end2 x r1 r2 r3 (v1 % 160) (v2 % 160) (by omega) (by omega) (by omega) (by omega) g1 g2 g3 with ⟨z1, z2⟩ | ⟨rfl, z1⟩
            · have y1 : FloatKind.f32.format.order r2 r3 = none := order_nan_left z1
              have y2 : FloatKind.f32.format.order r2 r2 = none := order_nan_left z1
              have y3 : FloatKind.f32.format.order r3 r3 = none := order_nan_left z2
              clear g1 g2 g3 z1 z2
              go_wp2_with fail
              go_ret
              exact ⟨rfl, Below.drewN hb1 _⟩
            · have y1 : FloatKind.f32.format.order r2 r2 = some .eq := by rw [order_self, z1]; rfl
              clear g1 g2 g3 z1
              go_wp2_with fail
              go_ret
              exact ⟨rfl, Below.drewN hb1 _⟩
        · have hl := big_exact Hx.out Hfin.out hb
          have Hl := Lib.hid hl
          clear hl hb
          rcases hkey with hs | ⟨hs, rfl⟩
          all_goals
            rw [hs]
            clear hs
            rcases b with b | b | ⟨b, b' | b'⟩
            all_goals
              go_wp2_with fail
              refine (impl_losesHalf x _).mono ?_
              rintro _ _ ⟨m5, rfl, rfl⟩
              rw [Hl.out]
              go_wp2_with fail
              refine (at_any w.heap.size A n c 1 _ (by omega) (by omega) Hn.out (by exact Hby1.out)).mono ?_
              rintro _ _ ⟨⟨v1, rfl, p0, p1⟩, rfl⟩
              go_wp2_with fail
              refine (at_any w.heap.size A n c 2 _ (by omega) (by omega) Hn.out (by exact Hby1.out)).mono ?_
              rintro _ _ ⟨⟨v2, rfl, q0, q1⟩, rfl⟩
              go_wp2_with fail
              refine (impl_halveSingle x (v1 % 160) _ (by omega) (by omega)).mono ?_
              rintro _ _ ⟨r1, k1, rfl, rfl, g1⟩
              go_wp2_with fail
              refine (impl_halveSingle r1 (v2 % 160) _ (by omega) (by omega)).mono ?_
              rintro _ _ ⟨r2, k2, rfl, rfl, g2⟩
              go_wp2_with fail
              refine (impl_halveSingle x (v1 % 160 + v2 % 160) _ (by omega) (by omega)).mono ?_
              rintro _ _ ⟨r3, k3, rfl, rfl, g3⟩
              rcases small_end2 x r1 r2 r3 (v1 % 160) (v2 % 160) (by omega) (by omega) (by omega) (by omega) g1 g2 g3 with ⟨z1, z2⟩ | ⟨rfl, z1⟩
              · have y1 : FloatKind.f32.format.order r2 r3 = none := order_nan_left z1
                have y2 : FloatKind.f32.format.order r2 r2 = none := order_nan_left z1
                have y3 : FloatKind.f32.format.order r3 r3 = none := order_nan_left z2
                clear g1 g2 g3 z1 z2
                go_wp2_with fail
                go_ret
                exact ⟨rfl, Below.drewN hb1 _⟩
              · have y1 : FloatKind.f32.format.order r2 r2 = some .eq := by rw [order_self, z1]; rfl
                clear g1 g2 g3 z1
                go_wp2_with fail
                go_ret
                exact ⟨rfl, Below.drewN hb1 _⟩
      · have s1 := sub_self_not (x := x) (by rw [s_inf]; omega)
        have hq : ∀ w, FloatKind.f32.format.order (fAr .sub .f32 x x w) 0 = none := fun w => order_nan_left (fAr_nan w s1)
        have hi := read_inf Ieee.single s_eb (b := x) (by rw [s_inf]; exact hinf)
        have hib : (FloatKind.f32.format.order x 16777216 = some .gt) ∨ (FloatKind.f32.format.order x 16777216 = some .lt ∧ FloatKind.f32.format.order (Op.negFloat .f32 x) 16777216 = some .gt) := by
          obtain ⟨n1, n2⟩ := neg_rung x
          have hi2 := read_inf Ieee.single s_eb (b := Op.negFloat .f32 x) (by rw [s_inf, n1]; exact hinf)
          have a1 : FloatKind.f32.format.order x 16777216 = _ := order_inf_left hi ⟨_, _, _, rfl⟩
          have a2 : FloatKind.f32.format.order (Op.negFloat .f32 x) 16777216 = _ := order_inf_left hi2 ⟨_, _, _, rfl⟩
          rw [a1, a2, n2]
          cases negOf Ieee.single x
          · left; rfl
          · right; exact ⟨rfl, rfl⟩
        clear s1 hi hinf
        rcases hkey with hs | ⟨hs, rfl⟩
        all_goals
          rw [hs]
          clear hs
          rcases hib with b | ⟨b, b'⟩
          all_goals
            go_wp2_with fail
            refine (at_any w.heap.size A n c 1 _ (by omega) (by omega) Hn.out (by exact Hby1.out)).mono ?_
            rintro _ _ ⟨⟨v1, rfl, p0, p1⟩, rfl⟩
            go_wp2_with fail
            refine (at_any w.heap.size A n c 2 _ (by omega) (by omega) Hn.out (by exact Hby1.out)).mono ?_
            rintro _ _ ⟨⟨v2, rfl, q0, q1⟩, rfl⟩
            go_wp2_with fail
            refine (impl_halveSingle x (v1 % 160) _ (by omega) (by omega)).mono ?_
            rintro _ _ ⟨r1, k1, rfl, rfl, g1⟩
            go_wp2_with fail
            refine (impl_halveSingle r1 (v2 % 160) _ (by omega) (by omega)).mono ?_
            rintro _ _ ⟨r2, k2, rfl, rfl, g2⟩
            go_wp2_with fail
            refine (impl_halveSingle x (v1 % 160 + v2 % 160) _ (by omega) (by omega)).mono ?_
            rintro _ _ ⟨r3, k3, rfl, rfl, g3⟩
            rcases small_end2 x r1 r2 r3 (v1 % 160) (v2 % 160) (by omega) (by omega) (by omega) (by omega) g1 g2 g3 with ⟨z1, z2⟩ | ⟨rfl, z1⟩
            · have y1 : FloatKind.f32.format.order r2 r3 = none := order_nan_left z1
              have y2 : FloatKind.f32.format.order r2 r2 = none := order_nan_left z1
              have y3 : FloatKind.f32.format.order r3 r3 = none := order_nan_left z2
              clear g1 g2 g3 z1 z2
              go_wp2_with fail
              go_ret
              exact ⟨rfl, Below.drewN hb1 _⟩
            · have y1 : FloatKind.f32.format.order r2 r2 = some .eq := by rw [order_self, z1]; rfl
              clear g1 g2 g3 z1
              go_wp2_with fail
              go_ret
              exact ⟨rfl, Below.drewN hb1 _⟩
  · have hgt : 1048576 < n := by omega
    have i0 : decide ((1048576 : Int) < (n : Int)) = true := by rw [decide_eq_true_eq]; omega
    clear hn h hgt
    go_enter Try.func3, Try.ntmps3
    go_wp2_with fail
    go_ret
    exact ⟨rfl, Below.refl _ _⟩
end Go.Proofs.Ytgbmlkfdojiaoaa
