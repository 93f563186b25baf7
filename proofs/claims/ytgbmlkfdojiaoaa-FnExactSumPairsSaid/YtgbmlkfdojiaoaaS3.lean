import Derived.Test.YtgbmlkfdojiaoaaS2
import Derived.Deep.RegionWith
namespace Go.Proofs.Ytgbmlkfdojiaoaa
open Go.RowKit

set_option maxHeartbeats 1000000 in
theorem eqFloat32S_any (xs : List Nat) (v v' : Value) (w : World) (hx : HasF w v xs) (hx' : HasF w v' xs) (hlen : xs.length ≤ 1048576) :
    Calls Try.prog 51 #[v, v'] w (SaysTrue w) := by
  obtain ⟨A, cap, rfl, hcap, hc⟩ := hx
  obtain ⟨A', cap', rfl, hcap', hc'⟩ := hx'
  obtain ⟨len, hl⟩ : ∃ len, len = xs.length := ⟨_, rfl⟩
  have HL := Lib.hid hl
  rw [← hl] at hlen hcap hc hcap' hc' ⊢
  clear hl
  have HC := Lib.hid hc; clear hc
  have HC' := Lib.hid hc'; clear hc'
  go_enter Try.func51, Try.ntmps51
  go_wp2
  go_loopw [5] (fun i wr => ∃ (k m : Nat), k ≤ len ∧ i = .int .i64 k ∧ wr = w.drewN m) (fun i _ => len - (intOf i).toNat)
  case atStart => exact ⟨0, 0, Nat.zero_le _, rfl, rfl⟩
  case round =>
    obtain ⟨k, m, hk, rfl, rfl⟩ := hrel
    by_cases hlt : k < len
    · obtain ⟨b, off, rfl, hcell⟩ := HC.out (by omega)
      have hck := hcell k hlt
      obtain ⟨b', off', rfl, hcell'⟩ := HC'.out (by omega)
      have hck' := hcell' k hlt
      clear hcell hcell'
      generalize xs.getD k 0 = x at hck hck'
      go_wp2_with fail
      go_region_with (go_at_call 37; refine (sameFloat_true _ _ _ (FE.widen _ _ (FE.refl _ _))).mono ?_; rintro _ _ ⟨n2, rfl, rfl⟩)
      all_goals
        go_wp2
        go_roundw
        case rel => exact ⟨k + 1, _, by omega, by go_num, rfl⟩
        case measure => simp [intOf]; omega
    · have hke : k = len := by omega
      have Hk := Lib.hid hke; clear hke
      go_wp2
      go_ret
      exact ⟨_, rfl, rfl⟩
end Go.Proofs.Ytgbmlkfdojiaoaa
