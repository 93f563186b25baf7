import Derived.Test.YtgbmlkfdojiaoaaS5
namespace Go.Proofs.Ytgbmlkfdojiaoaa
open Go.RowKit

set_option maxHeartbeats 400000 in
theorem law_sumPairs (xs : List Nat) (v : Value) (w : World) (hx : HasF w v xs) : Calls Try.prog 17 #[v] w (Says w) := by
  by_cases hlen : xs.length ≤ 1048576
  · have hx0 := hx
    obtain ⟨A, cap, rfl, hcap, hc⟩ := hx
    clear hc
    go_enter Try.func17, Try.ntmps17
    go_wp2_with fail
    refine (toFloat32S_any xs _ _ hx0 hlen).mono ?_
    rintro _ w1 ⟨v1, rfl, hv1, hb1⟩
    go_wp2_with fail
    refine (spec_sumPairs xs.length xs _ _ hv1 hlen (Nat.le_refl _)).mono ?_
    rintro _ _ ⟨r1, n1, rfl, rfl, h1⟩
    go_wp2_with fail
    have hx1 := (hx0.below hb1 (Nat.le_refl _)).drewN n1
    refine (toFloat32S_any xs _ _ hx1 hlen).mono ?_
    rintro _ w2 ⟨v2, rfl, hv2, hb2⟩
    have hb2' : Below w.heap.size w w2 := (Below.drewN hb1 n1).trans (hb2.mono hb1.size)
    go_wp2_with fail
    refine (impl_sumPairs xs.length xs _ _ hv2 hlen (Nat.le_refl _)).mono ?_
    rintro _ _ ⟨r2, n2, rfl, rfl, h2⟩
    go_wp2_with fail
    refine (sameFloat_true _ _ _ (FE.widen _ _ (h2.trans h1.symm))).mono ?_
    rintro _ _ ⟨n3, rfl, rfl⟩
    go_wp2_with fail
    refine (toFloat32S_any xs _ _ (by exact hx0.below (Below.drewN hb2' _) (Nat.le_refl _)) hlen).mono ?_
    rintro _ w3 ⟨v3, rfl, hv3, hb3⟩
    go_wp2_with fail
    have hv2' := hv2.below (w' := w3) (B := w2.heap.size) ((Below.drewN (Below.refl _ _) _).trans hb3) (Nat.le_refl _)
    refine (eqFloat32S_any xs _ _ _ hv2' hv3 hlen).mono ?_
    rintro _ _ ⟨n4, rfl, rfl⟩
    go_wp2_with fail
    go_ret
    exact ⟨rfl, Below.drewN ((Below.drewN hb2' _).trans (hb3.mono hb2'.size)) _⟩
  · obtain ⟨A, cap, rfl, hcap, hc⟩ := hx
    clear hc
    have hgt : 1048576 < xs.length := by omega
    clear hlen
    go_enter Try.func17, Try.ntmps17
    go_wp2_with fail
    go_ret
    exact ⟨rfl, Below.refl _ _⟩
end Go.Proofs.Ytgbmlkfdojiaoaa
