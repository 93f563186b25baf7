/- A module is the same as itself: numbers, points, lists, rings, tables. A module is the same as itself: rings, tables, modules. -/
import Derived.Test.YtghekafjccfjcaaJq42
import Derived.Test.YtghekafjccfjcaaJq18
import Derived.Test.YtghekafjccfjcaaJq24
import Derived.Test.YtghekafjccfjcaaJq7
import Derived.Outline
import Derived.BigQuiet
namespace Go.Proofs.Ytghekafjccfjcaa
section
open Go.RowKit

theorem isSameSingle_self (x : Nat) (w : World) : Calls Try.prog 38 #[.float .f32 x, .float .f32 x] w (SaysTrue w) := by
  have hb := run_float32bits
  cases hn : nanB .f32 x with
  | true =>
    go_enter Try.func38, Try.ntmps38
    go_wp2_with fail
    refine (isNaN_any _ _).mono ?_
    rintro _ _ ⟨rfl, rfl⟩
    rw [widen_nan, hn]
    go_wp2_with fail
    refine (isNaN_any _ _).mono ?_
    rintro _ _ ⟨rfl, rfl⟩
    rw [widen_nan, hn]
    go_wp2_with fail
    go_ret
    exact ⟨_, rfl, rfl⟩
  | false =>
    go_enter Try.func38, Try.ntmps38
    go_wp2_with fail
    refine (isNaN_any _ _).mono ?_
    rintro _ _ ⟨rfl, rfl⟩
    rw [widen_nan, hn]
    go_wp2_with fail
    go_ret
    exact ⟨_, rfl, rfl⟩

theorem isSamePoint_self (x y : Nat) (w : World) : Calls Try.prog 37 #[.complex .f32 x y, .complex .f32 x y] w (SaysTrue w) := by
  go_enter Try.func37, Try.ntmps37
  go_wp2_with fail
  refine (isSameSingle_self _ _).mono ?_
  rintro _ _ ⟨n, rfl, rfl⟩
  go_wp2_with fail
  refine (isSameSingle_self _ _).mono ?_
  rintro _ _ ⟨m, rfl, rfl⟩
  go_wp2_with fail
  go_ret
  exact ⟨_, rfl, rfl⟩

set_option maxHeartbeats 1000000 in
theorem equalFunc_self (xs : List Cx) (o o' : Bool) (b b' lo lo' hi hi' : Nat) (v v' : Value) (w : World) (hx : HasS cxV o b lo hi w v xs) (hx' : HasS cxV o' b' lo' hi' w v' xs) (hlen : xs.length ≤ 4194304) :
    Calls Try.prog 43 #[v, v', .func (.func 37) #[] #[]] w (SaysTrue w) := by
  obtain ⟨A, cap, rfl, hcap, hc⟩ := hx
  obtain ⟨A', cap', rfl, hcap', hc'⟩ := hx'
  obtain ⟨len, hl⟩ : ∃ len, len = xs.length := ⟨_, rfl⟩
  have HL := Lib.hid hl
  rw [← hl] at hlen hcap hcap' ⊢
  clear hl
  have HC := Lib.hid hc; clear hc
  have HC' := Lib.hid hc'; clear hc'
  go_enter Try.func43, Try.ntmps43
  go_wp2
  go_loopw [7, 8, 9, 17] (fun _ _ _ i wr => ∃ (k m : Nat), k ≤ len ∧ i = .int .i64 k ∧ wr = w.drewN m) (fun _ _ _ i _ => len - (intOf i).toNat)
  case atStart => exact ⟨0, 0, Nat.zero_le _, rfl, rfl⟩
  case round =>
    obtain ⟨k, m, hk, rfl, rfl⟩ := hrel
    by_cases hlt : k < len
    · have hkx : k < xs.length := by rw [← HL.out]; exact hlt
      obtain ⟨off, rfl, _, _, _, hcell, _⟩ := HC.out (by omega)
      obtain ⟨off', rfl, _, _, _, hcell', _⟩ := HC'.out (by omega)
      obtain ⟨⟨x, y⟩, hx⟩ := getElem?_some hkx
      have hck : w.cell? ⟨b, off + k, none⟩ = some (.complex .f32 x y) := hcell k _ hx
      have hck' : w.cell? ⟨b', off' + k, none⟩ = some (.complex .f32 x y) := hcell' k _ hx
      clear hcell hcell' hkx hx
      go_wp2_with fail
      refine (isSamePoint_self x y _).mono ?_
      rintro _ _ ⟨n2, rfl, rfl⟩
      go_wp2_with fail
      go_roundw
      case rel => exact ⟨k + 1, _, by omega, by go_num, rfl⟩
      case measure => simp [intOf]; omega
    · have hke : k = len := by omega
      have Hk := Lib.hid hke; clear hke
      go_wp2
      go_ret
      exact ⟨_, rfl, rfl⟩
end
section
open Go.RowKit

set_option maxHeartbeats 1000000 in
theorem equalI_self (xs : List Int) (o o' : Bool) (b b' lo lo' hi hi' : Nat) (v v' : Value) (w : World) (hx : HasS intV o b lo hi w v xs) (hx' : HasS intV o' b' lo' hi' w v' xs) (hlen : xs.length ≤ 4194304) :
    Calls Try.prog 44 #[v, v'] w (SaysTrue w) := by
  obtain ⟨A, cap, rfl, hcap, hc⟩ := hx
  obtain ⟨A', cap', rfl, hcap', hc'⟩ := hx'
  obtain ⟨len, hl⟩ : ∃ len, len = xs.length := ⟨_, rfl⟩
  have HL := Lib.hid hl
  rw [← hl] at hlen hcap hcap' ⊢
  clear hl
  have HC := Lib.hid hc; clear hc
  have HC' := Lib.hid hc'; clear hc'
  go_enter Try.func44, Try.ntmps44
  go_wp2
  go_loopw [5, 13] (fun _ i wr => ∃ (k m : Nat), k ≤ len ∧ i = .int .i64 k ∧ wr = w.drewN m) (fun _ i _ => len - (intOf i).toNat)
  case atStart => exact ⟨0, 0, Nat.zero_le _, rfl, rfl⟩
  case round =>
    obtain ⟨k, m, hk, rfl, rfl⟩ := hrel
    by_cases hlt : k < len
    · have hkx : k < xs.length := by rw [← HL.out]; exact hlt
      obtain ⟨off, rfl, _, _, _, hcell, _⟩ := HC.out (by omega)
      obtain ⟨off', rfl, _, _, _, hcell', _⟩ := HC'.out (by omega)
      obtain ⟨x, hx⟩ := getElem?_some hkx
      have hck : w.cell? ⟨b, off + k, none⟩ = some (.int .i64 x) := hcell k _ hx
      have hck' : w.cell? ⟨b', off' + k, none⟩ = some (.int .i64 x) := hcell' k _ hx
      clear hcell hcell' hkx hx
      have i0 : (0 : Int) ≤ (k : Int) := by omega
      have i1 : (k : Int) < (len : Int) := by omega
      go_wp2_with fail
      go_region
      all_goals
        go_wp2
        go_roundw
        case rel => exact ⟨k + 1, _, by omega, by go_num, rfl⟩
        case measure => simp [intOf]; omega
    · have hke : k = len := by omega
      have Hk := Lib.hid hke; clear hke
      go_wp2
      go_ret
      exact ⟨_, rfl, rfl⟩

theorem isSameRing_self (xs : List Cx) (a c : Int) (o o' : Bool) (b b' lo lo' hi hi' : Nat) (v v' : Value) (w : World) (hx : HasS cxV o b lo hi w v xs) (hx' : HasS cxV o' b' lo' hi' w v' xs) (hlen : xs.length ≤ 4194304) :
    Calls Try.prog 39 #[.agg #[v, .int .i64 a, .int .i64 c], .agg #[v', .int .i64 a, .int .i64 c]] w (True0 w) := by
  obtain ⟨A, p, rfl, _⟩ := id hx
  obtain ⟨A', p', rfl, _⟩ := id hx'
  go_enter Try.func39, Try.ntmps39
  go_wp2_with fail
  refine (equalFunc_self xs o o' b b' lo lo' hi hi' _ _ _ ((hx.alloc _).alloc _) ((hx'.alloc _).alloc _) hlen).mono ?_
  rintro _ _ ⟨n, rfl, rfl⟩
  go_wp2_with fail
  go_ret
  exact ⟨rfl, (((Span.refl _ _ _).alloc _).alloc _).drewN _⟩

theorem isSameTable_self (xs : List Cx) (ys : List Int) (o o' q q' : Bool) (b b' lo lo' hi hi' d d' l l' r r' : Nat) (v v' u u' : Value) (w : World) (hx : HasS cxV o b lo hi w v xs) (hx' : HasS cxV o' b' lo' hi' w v' xs) (hy : HasS intV q d l r w u ys) (hy' : HasS intV q' d' l' r' w u' ys) (h1 : xs.length ≤ 4194304) (h2 : ys.length ≤ 4194304) :
    Calls Try.prog 40 #[.agg #[v, u], .agg #[v', u']] w (True0 w) := by
  obtain ⟨A, p, rfl, _⟩ := id hx
  obtain ⟨A', p', rfl, _⟩ := id hx'
  obtain ⟨B, s, rfl, _⟩ := id hy
  obtain ⟨B', s', rfl, _⟩ := id hy'
  go_enter Try.func40, Try.ntmps40
  go_wp2_with fail
  refine (equalFunc_self xs o o' b b' lo lo' hi hi' _ _ _ ((hx.alloc _).alloc _) ((hx'.alloc _).alloc _) h1).mono ?_
  rintro _ _ ⟨n, rfl, rfl⟩
  go_wp2_with fail
  refine (equalI_self ys q q' d d' l l' r r' _ _ _ (((hy.alloc _).alloc _).drewN _) (((hy'.alloc _).alloc _).drewN _) h2).mono ?_
  rintro _ _ ⟨m, rfl, rfl⟩
  go_wp2_with fail
  go_ret
  exact ⟨rfl, (((Span.refl _ _ _).alloc _).alloc _).drewN _⟩
end
end Go.Proofs.Ytghekafjccfjcaa
