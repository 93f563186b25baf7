/- Lists are the same as themselves (the model's MakeSame); samples that are drawn. -/
import Derived.Test.YtfafkdpefdpnkaaGreatJq19
import Derived.Test.YtfafkdpefdpnkaaGreatJq16
import Derived.Deep.RegionWith
import Derived.Test.YtfafkdpefdpnkaaGreatJq22
import Derived.Outline
namespace Go.Proofs.YtfafkdpefdpnkaaGreat
open Go.RowKit

theorem quo_one32 {a : Nat} (h : nanB .f32 a = false) : ∃ r, floatBits .quo .f32 1065353216 a = some r := by
  have h1 : Ieee.single.read 1065353216 = .number false 8388608 (-23) := by decide +kernel
  simp only [floatBits, Ieee.Format.div, FloatKind.format, h1]
  unfold nanB FloatKind.decode FloatKind.format at h
  simp only [] at h
  cases hd : Ieee.single.read a with
  | number t n j =>
    simp only [Ieee.Datum.quotient]
    by_cases hn : n = 0
    · subst hn; exact ⟨_, rfl⟩
    · rw [if_neg hn]; exact ⟨_, rfl⟩
  | infinity s => exact ⟨_, rfl⟩
  | nan s t => rw [hd] at h; simp [Ieee.Datum.isNaN] at h

theorem l5Same_self (a : Nat) (w : World) : Calls Tryz.prog 43 #[.float .f32 a, .float .f32 a] w (SaysTrue w) := by
  cases hn : nanB .f32 a with
  | true =>
    have ha1 := order_nan_left (k := .f32) (y := a) hn
    clear hn
    go_enter Tryz.func43, Tryz.ntmps43
    go_wp2
    go_ret
    exact ⟨0, rfl, rfl⟩
  | false =>
    have ha1 : FloatKind.f32.format.order a a = some .eq := by rw [order_self, hn]; rfl
    obtain ⟨r, hr⟩ := quo_one32 hn
    have hq : ∀ w, fAr .quo .f32 1065353216 a w = r := by intro w; simp [fAr, hr]
    clear hn hr
    by_cases hz : FloatKind.f32.format.order a 0 = some .eq
    · go_enter Tryz.func43, Tryz.ntmps43
      go_wp2
      go_ret
      exact ⟨_, rfl, rfl⟩
    · have hz2 : (FloatKind.f32.format.order a 0 == some .eq) = false := by simpa using hz
      go_enter Tryz.func43, Tryz.ntmps43
      go_wp2
      go_ret
      exact ⟨0, rfl, rfl⟩

theorem l5SamePoint_self (x y : Nat) (w : World) : Calls Tryz.prog 35 #[.complex .f32 x y, .complex .f32 x y] w (SaysTrue w) := by
  go_enter Tryz.func35, Tryz.ntmps35
  go_wp2_with fail
  refine (l5Same_self _ _).mono ?_
  rintro _ _ ⟨n, rfl, rfl⟩
  go_wp2_with fail
  refine (l5Same_self _ _).mono ?_
  rintro _ _ ⟨m, rfl, rfl⟩
  go_wp2_with fail
  go_ret
  exact ⟨_, rfl, rfl⟩

set_option maxHeartbeats 1000000 in
theorem l5SameList_self (xs : List Cx) (o o' : Bool) (b b' lo lo' hi hi' : Nat) (v v' : Value) (w : World) (hx : HasS cxV o b lo hi w v xs) (hx' : HasS cxV o' b' lo' hi' w v' xs) (hlen : xs.length ≤ 4194304) :
    Calls Tryz.prog 21 #[v, v'] w (SaysTrue w) := by
  obtain ⟨A, cap, rfl, hcap, hc⟩ := hx
  obtain ⟨A', cap', rfl, hcap', hc'⟩ := hx'
  obtain ⟨len, hl⟩ : ∃ len, len = xs.length := ⟨_, rfl⟩
  have HL := Lib.hid hl
  rw [← hl] at hlen hcap hcap' ⊢
  clear hl
  have HC := Lib.hid hc; clear hc
  have HC' := Lib.hid hc'; clear hc'
  go_enter Tryz.func21, Tryz.ntmps21
  go_wp2
  go_loopw [5, 13] (fun _ i wr => ∃ (k m : Nat), k ≤ len ∧ i = .int .i64 k ∧ wr = w.drewN m) (fun _ i _ => len - (intOf i).toNat)
  case atStart => exact ⟨0, 0, Nat.zero_le _, rfl, rfl⟩
  case round =>
    obtain ⟨k, m, hk, rfl, rfl⟩ := hrel
    by_cases hlt : k < len
    · have hkx : k < xs.length := by rw [← HL.out]; exact hlt
      obtain ⟨off, rfl, _, _, _, hcell, _⟩ := HC.out (by omega)
      obtain ⟨off', rfl, _, _, _, hcell', _⟩ := HC'.out (by omega)
      obtain ⟨⟨x, y⟩, hx⟩ := getElem?_some hkx
      have hck : w.cell? ⟨b, off + k, none⟩ = some (.complex .f32 x y) := hcell k _ hx
      have hck' : w.cell? ⟨b', off' + k, none⟩ = some (.complex .f32 x y) := hcell' k _ hx
      have i0 : (0 : Int) ≤ (k : Int) := by omega
      have i1 : (k : Int) < (len : Int) := by omega
      clear hcell hcell' hkx hx
      go_wp2_with fail
      go_region_with (go_at_call 35; refine (l5SamePoint_self x y _).mono ?_; rintro _ _ ⟨n2, rfl, rfl⟩)
      all_goals
        go_wp2
        go_roundw
        case rel => exact ⟨k + 1, _, by omega, by go_num, rfl⟩
        case measure => simp [intOf]; omega
    · have hke : k = len := by omega
      have Hk := Lib.hid hke; clear hke
      go_wp2
      go_ret
      exact ⟨_, rfl, rfl⟩

theorem makeSame_self (xs : List Cx) (o o' : Bool) (b b' lo lo' hi hi' : Nat) (v v' : Value) (w : World) (hx : HasS cxV o b lo hi w v xs) (hx' : HasS cxV o' b' lo' hi' w v' xs) (hlen : xs.length ≤ 4194304) :
    Calls Tryz.prog 10 #[v, v'] w (SaysTrue w) := by
  go_enter Tryz.func10, Tryz.ntmps10
  go_wp2_with fail
  refine (l5SameList_self xs o o' b b' lo lo' hi hi' _ _ _ hx hx' hlen).mono ?_
  rintro _ _ ⟨n, rfl, rfl⟩
  go_wp2_with fail
  go_ret
  exact ⟨_, rfl, rfl⟩
end Go.Proofs.YtfafkdpefdpnkaaGreat
