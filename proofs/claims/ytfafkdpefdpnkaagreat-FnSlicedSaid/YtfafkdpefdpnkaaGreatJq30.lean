/- A module is the same as itself: numbers, points, lists, rings, tables. -/
import Derived.Test.YtfafkdpefdpnkaaGreatJq25
import Derived.Test.YtfafkdpefdpnkaaGreatJq26
import Derived.Test.YtfafkdpefdpnkaaGreatJq29
import Derived.Test.YtfafkdpefdpnkaaGreatJq11
import Derived.Outline
namespace Go.Proofs.YtfafkdpefdpnkaaGreat
open Go.RowKit

theorem isSameSingle_self (x : Nat) (w : World) : Calls Tryz.prog 49 #[.float .f32 x, .float .f32 x] w (SaysTrue w) := by
  have hb := run_float32bits
  cases hn : nanB .f32 x with
  | true =>
    go_enter Tryz.func49, Tryz.ntmps49
    go_wp2_with fail
    refine (isNaN_any _ _).mono ?_
    rintro _ _ ⟨rfl, rfl⟩
    rw [widen_nan, hn]
    go_wp2_with fail
    refine (isNaN_any _ _).mono ?_
    rintro _ _ ⟨rfl, rfl⟩
    rw [widen_nan, hn]
    go_wp2_with fail
    go_ret
    exact ⟨_, rfl, rfl⟩
  | false =>
    go_enter Tryz.func49, Tryz.ntmps49
    go_wp2_with fail
    refine (isNaN_any _ _).mono ?_
    rintro _ _ ⟨rfl, rfl⟩
    rw [widen_nan, hn]
    go_wp2_with fail
    go_ret
    exact ⟨_, rfl, rfl⟩

theorem isSamePoint_self (x y : Nat) (w : World) : Calls Tryz.prog 48 #[.complex .f32 x y, .complex .f32 x y] w (SaysTrue w) := by
  go_enter Tryz.func48, Tryz.ntmps48
  go_wp2_with fail
  refine (isSameSingle_self _ _).mono ?_
  rintro _ _ ⟨n, rfl, rfl⟩
  go_wp2_with fail
  refine (isSameSingle_self _ _).mono ?_
  rintro _ _ ⟨m, rfl, rfl⟩
  go_wp2_with fail
  go_ret
  exact ⟨_, rfl, rfl⟩

set_option maxHeartbeats 1000000 in
theorem equalFunc_self (xs : List Cx) (o o' : Bool) (b b' lo lo' hi hi' : Nat) (v v' : Value) (w : World) (hx : HasS cxV o b lo hi w v xs) (hx' : HasS cxV o' b' lo' hi' w v' xs) (hlen : xs.length ≤ 4194304) :
    Calls Tryz.prog 54 #[v, v', .func (.func 48) #[] #[]] w (SaysTrue w) := by
  obtain ⟨A, cap, rfl, hcap, hc⟩ := hx
  obtain ⟨A', cap', rfl, hcap', hc'⟩ := hx'
  obtain ⟨len, hl⟩ : ∃ len, len = xs.length := ⟨_, rfl⟩
  have HL := Lib.hid hl
  rw [← hl] at hlen hcap hcap' ⊢
  clear hl
  have HC := Lib.hid hc; clear hc
  have HC' := Lib.hid hc'; clear hc'
  go_enter Tryz.func54, Tryz.ntmps54
  go_wp2
  go_loopw [7, 8, 9, 17] (fun _ _ _ i wr => ∃ (k m : Nat), k ≤ len ∧ i = .int .i64 k ∧ wr = w.drewN m) (fun _ _ _ i _ => len - (intOf i).toNat)
  case atStart => exact ⟨0, 0, Nat.zero_le _, rfl, rfl⟩
  case round =>
    obtain ⟨k, m, hk, rfl, rfl⟩ := hrel
    by_cases hlt : k < len
    · have hkx : k < xs.length := by rw [← HL.out]; exact hlt
      obtain ⟨off, rfl, _, _, _, hcell, _⟩ := HC.out (by omega)
      obtain ⟨off', rfl, _, _, _, hcell', _⟩ := HC'.out (by omega)
      obtain ⟨⟨x, y⟩, hx⟩ := getElem?_some hkx
      have hck : w.cell? ⟨b, off + k, none⟩ = some (.complex .f32 x y) := hcell k _ hx
      have hck' : w.cell? ⟨b', off' + k, none⟩ = some (.complex .f32 x y) := hcell' k _ hx
      clear hcell hcell' hkx hx
      go_wp2_with fail
      refine (isSamePoint_self x y _).mono ?_
      rintro _ _ ⟨n2, rfl, rfl⟩
      go_wp2_with fail
      go_roundw
      case rel => exact ⟨k + 1, _, by omega, by go_num, rfl⟩
      case measure => simp [intOf]; omega
    · have hke : k = len := by omega
      have Hk := Lib.hid hke; clear hke
      go_wp2
      go_ret
      exact ⟨_, rfl, rfl⟩
end Go.Proofs.YtfafkdpefdpnkaaGreat
