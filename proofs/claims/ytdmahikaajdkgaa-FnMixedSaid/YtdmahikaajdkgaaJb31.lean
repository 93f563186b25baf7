/- A module is the same as itself: numbers, points, lists, rings, tables. A module is the same as itself: rings, tables, modules. A module is the same as itself. -/
import Derived.Test.YtdmahikaajdkgaaJb15
import Derived.Test.YtdmahikaajdkgaaJb16
import Derived.Test.YtdmahikaajdkgaaJb18
import Derived.Test.YtdmahikaajdkgaaJb8
import Derived.Outline
import Derived.BigQuiet
namespace Go.Proofs.Ytdmahikaajdkgaa
section
open Go.RowKit

theorem isSameSingle_self (x : Nat) (w : World) : Calls Try.prog 113 #[.float .f32 x, .float .f32 x] w (SaysTrue w) := by
  have hb := run_float32bits
  cases hn : nanB .f32 x with
  | true =>
    go_enter Try.func113, Try.ntmps113
    go_wp2_with fail
    refine (isNaN_any _ _).mono ?_
    rintro _ _ ⟨rfl, rfl⟩
    rw [widen_nan, hn]
    go_wp2_with fail
    refine (isNaN_any _ _).mono ?_
    rintro _ _ ⟨rfl, rfl⟩
    rw [widen_nan, hn]
    go_wp2_with fail
    go_ret
    exact ⟨_, rfl, rfl⟩
  | false =>
    go_enter Try.func113, Try.ntmps113
    go_wp2_with fail
    refine (isNaN_any _ _).mono ?_
    rintro _ _ ⟨rfl, rfl⟩
    rw [widen_nan, hn]
    go_wp2_with fail
    go_ret
    exact ⟨_, rfl, rfl⟩

theorem isSamePoint_self (x y : Nat) (w : World) : Calls Try.prog 112 #[.complex .f32 x y, .complex .f32 x y] w (SaysTrue w) := by
  go_enter Try.func112, Try.ntmps112
  go_wp2_with fail
  refine (isSameSingle_self _ _).mono ?_
  rintro _ _ ⟨n, rfl, rfl⟩
  go_wp2_with fail
  refine (isSameSingle_self _ _).mono ?_
  rintro _ _ ⟨m, rfl, rfl⟩
  go_wp2_with fail
  go_ret
  exact ⟨_, rfl, rfl⟩

set_option maxHeartbeats 1000000 in
theorem equalFunc_self (xs : List Cx) (o o' : Bool) (b b' lo lo' hi hi' : Nat) (v v' : Value) (w : World) (hx : HasS cxV o b lo hi w v xs) (hx' : HasS cxV o' b' lo' hi' w v' xs) (hlen : xs.length ≤ 4194304) :
    Calls Try.prog 131 #[v, v', .func (.func 112) #[] #[]] w (SaysTrue w) := by
  obtain ⟨A, cap, rfl, hcap, hc⟩ := hx
  obtain ⟨A', cap', rfl, hcap', hc'⟩ := hx'
  obtain ⟨len, hl⟩ : ∃ len, len = xs.length := ⟨_, rfl⟩
  have HL := Lib.hid hl
  rw [← hl] at hlen hcap hcap' ⊢
  clear hl
  have HC := Lib.hid hc; clear hc
  have HC' := Lib.hid hc'; clear hc'
  go_enter Try.func131, Try.ntmps131
  go_wp2
  go_loopw [7, 8, 9, 17] (fun _ _ _ i wr => ∃ (k m : Nat), k ≤ len ∧ i = .int .i64 k ∧ wr = w.drewN m) (fun _ _ _ i _ => len - (intOf i).toNat)
  case atStart => exact ⟨0, 0, Nat.zero_le _, rfl, rfl⟩
  case round =>
    obtain ⟨k, m, hk, rfl, rfl⟩ := hrel
    by_cases hlt : k < len
    · have hkx : k < xs.length := by rw [← HL.out]; exact hlt
      obtain ⟨off, rfl, _, _, _, hcell, _⟩ := HC.out (by omega)
      obtain ⟨off', rfl, _, _, _, hcell', _⟩ := HC'.out (by omega)
      obtain ⟨⟨x, y⟩, hx⟩ := getElem?_some hkx
      have hck : w.cell? ⟨b, off + k, none⟩ = some (.complex .f32 x y) := hcell k _ hx
      have hck' : w.cell? ⟨b', off' + k, none⟩ = some (.complex .f32 x y) := hcell' k _ hx
      clear hcell hcell' hkx hx
      go_wp2_with fail
      refine (isSamePoint_self x y _).mono ?_
      rintro _ _ ⟨n2, rfl, rfl⟩
      go_wp2_with fail
      go_roundw
      case rel => exact ⟨k + 1, _, by omega, by go_num, rfl⟩
      case measure => simp [intOf]; omega
    · have hke : k = len := by omega
      have Hk := Lib.hid hke; clear hke
      go_wp2
      go_ret
      exact ⟨_, rfl, rfl⟩
end
section
open Go.RowKit

set_option maxHeartbeats 1000000 in
theorem equalI_self (xs : List Int) (o o' : Bool) (b b' lo lo' hi hi' : Nat) (v v' : Value) (w : World) (hx : HasS intV o b lo hi w v xs) (hx' : HasS intV o' b' lo' hi' w v' xs) (hlen : xs.length ≤ 4194304) :
    Calls Try.prog 132 #[v, v'] w (SaysTrue w) := by
  obtain ⟨A, cap, rfl, hcap, hc⟩ := hx
  obtain ⟨A', cap', rfl, hcap', hc'⟩ := hx'
  obtain ⟨len, hl⟩ : ∃ len, len = xs.length := ⟨_, rfl⟩
  have HL := Lib.hid hl
  rw [← hl] at hlen hcap hcap' ⊢
  clear hl
  have HC := Lib.hid hc; clear hc
  have HC' := Lib.hid hc'; clear hc'
  go_enter Try.func132, Try.ntmps132
  go_wp2
  go_loopw [5, 13] (fun _ i wr => ∃ (k m : Nat), k ≤ len ∧ i = .int .i64 k ∧ wr = w.drewN m) (fun _ i _ => len - (intOf i).toNat)
  case atStart => exact ⟨0, 0, Nat.zero_le _, rfl, rfl⟩
  case round =>
    obtain ⟨k, m, hk, rfl, rfl⟩ := hrel
    by_cases hlt : k < len
    · have hkx : k < xs.length := by rw [← HL.out]; exact hlt
      obtain ⟨off, rfl, _, _, _, hcell, _⟩ := HC.out (by omega)
      obtain ⟨off', rfl, _, _, _, hcell', _⟩ := HC'.out (by omega)
      obtain ⟨x, hx⟩ := getElem?_some hkx
      have hck : w.cell? ⟨b, off + k, none⟩ = some (.int .i64 x) := hcell k _ hx
      have hck' : w.cell? ⟨b', off' + k, none⟩ = some (.int .i64 x) := hcell' k _ hx
      clear hcell hcell' hkx hx
      have i0 : (0 : Int) ≤ (k : Int) := by omega
      have i1 : (k : Int) < (len : Int) := by omega
      go_wp2_with fail
      go_region
      all_goals
        go_wp2
        go_roundw
        case rel => exact ⟨k + 1, _, by omega, by go_num, rfl⟩
        case measure => simp [intOf]; omega
    · have hke : k = len := by omega
      have Hk := Lib.hid hke; clear hke
      go_wp2
      go_ret
      exact ⟨_, rfl, rfl⟩

theorem isSameRing_self (xs : List Cx) (a c : Int) (o o' : Bool) (b b' lo lo' hi hi' : Nat) (v v' : Value) (w : World) (hx : HasS cxV o b lo hi w v xs) (hx' : HasS cxV o' b' lo' hi' w v' xs) (hlen : xs.length ≤ 4194304) :
    Calls Try.prog 114 #[.agg #[v, .int .i64 a, .int .i64 c], .agg #[v', .int .i64 a, .int .i64 c]] w (True0 w) := by
  obtain ⟨A, p, rfl, _⟩ := id hx
  obtain ⟨A', p', rfl, _⟩ := id hx'
  go_enter Try.func114, Try.ntmps114
  go_wp2_with fail
  refine (equalFunc_self xs o o' b b' lo lo' hi hi' _ _ _ ((hx.alloc _).alloc _) ((hx'.alloc _).alloc _) hlen).mono ?_
  rintro _ _ ⟨n, rfl, rfl⟩
  go_wp2_with fail
  go_ret
  exact ⟨rfl, (((Span.refl _ _ _).alloc _).alloc _).drewN _⟩

theorem isSameTable_self (xs : List Cx) (ys : List Int) (o o' q q' : Bool) (b b' lo lo' hi hi' d d' l l' r r' : Nat) (v v' u u' : Value) (w : World) (hx : HasS cxV o b lo hi w v xs) (hx' : HasS cxV o' b' lo' hi' w v' xs) (hy : HasS intV q d l r w u ys) (hy' : HasS intV q' d' l' r' w u' ys) (h1 : xs.length ≤ 4194304) (h2 : ys.length ≤ 4194304) :
    Calls Try.prog 115 #[.agg #[v, u], .agg #[v', u']] w (True0 w) := by
  obtain ⟨A, p, rfl, _⟩ := id hx
  obtain ⟨A', p', rfl, _⟩ := id hx'
  obtain ⟨B, s, rfl, _⟩ := id hy
  obtain ⟨B', s', rfl, _⟩ := id hy'
  go_enter Try.func115, Try.ntmps115
  go_wp2_with fail
  refine (equalFunc_self xs o o' b b' lo lo' hi hi' _ _ _ ((hx.alloc _).alloc _) ((hx'.alloc _).alloc _) h1).mono ?_
  rintro _ _ ⟨n, rfl, rfl⟩
  go_wp2_with fail
  refine (equalI_self ys q q' d d' l l' r r' _ _ _ (((hy.alloc _).alloc _).drewN _) (((hy'.alloc _).alloc _).drewN _) h2).mono ?_
  rintro _ _ ⟨m, rfl, rfl⟩
  go_wp2_with fail
  go_ret
  exact ⟨rfl, (((Span.refl _ _ _).alloc _).alloc _).drewN _⟩
end
section
open Go.RowKit

/-- A value that reads as a module, with its table. -/
def ReadM (w : World) (v : Value) (m : Md) (t : Tab) : Prop :=
  ∃ vS vP vL b0 b1 b2, v = .agg #[.int .i64 m.kind, .complex .f32 m.turn.1 m.turn.2, .complex .f32 m.state.1 m.state.2, .float .f32 m.level, vS, .int .i64 m.ring.at_, .int .i64 m.ring.cnt, vP, vL, .int .i64 m.count, .int .i64 m.left] ∧
    HasS cxV false b0 0 w.heap.size w vS m.ring.store ∧ HasS cxV false b1 0 w.heap.size w vP t.1 ∧ HasS intV false b2 0 w.heap.size w vL t.2

theorem ReadM.keep {w w' : World} {v : Value} {m : Md} {t : Tab} (h : ReadM w v m t) (s : Span 0 0 w w') : ReadM w' v m t := by
  obtain ⟨vS, vP, vL, b0, b1, b2, rfl, h0, h1, h2⟩ := h
  have z := s.size
  exact ⟨vS, vP, vL, b0, b1, b2, rfl, (h0.span s (by omega)).weak (Nat.le_refl _) (.inl z), (h1.span s (by omega)).weak (Nat.le_refl _) (.inl z), (h2.span s (by omega)).weak (Nat.le_refl _) (.inl z)⟩

set_option maxRecDepth 100000 in
set_option maxHeartbeats 4000000 in
theorem sameModules_self (m : Md) (t : Tab) (v v' : Value) (w : World) (hx : ReadM w v m t) (hx' : ReadM w v' m t) (e0 : m.ring.store.length ≤ 4194304) (e1 : t.1.length ≤ 4194304) (e2 : t.2.length ≤ 4194304) :
    Calls Try.prog 96 #[v, v'] w (True0 w) := by
  obtain ⟨vS, vP, vL, b0, b1, b2, rfl, h0, h1, h2⟩ := hx
  obtain ⟨vS', vP', vL', b0', b1', b2', rfl, h0', h1', h2'⟩ := hx'
  obtain ⟨S, p, rfl, _⟩ := id h0
  obtain ⟨P, q, rfl, _⟩ := id h1
  obtain ⟨L, r, rfl, _⟩ := id h2
  obtain ⟨S', p', rfl, _⟩ := id h0'
  obtain ⟨P', q', rfl, _⟩ := id h1'
  obtain ⟨L', r', rfl, _⟩ := id h2'
  obtain ⟨k, ⟨t1, t2⟩, ⟨s1, s2⟩, l, ⟨xs, a, n⟩, c, f⟩ := m
  obtain ⟨ps, ls⟩ := t
  simp only at *
  go_enter Try.func96, Try.ntmps96
  go_wp2_with fail
  refine (isSamePoint_self _ _ _).mono ?_
  rintro _ _ ⟨n1, rfl, rfl⟩
  go_wp2_with fail
  refine (isSamePoint_self _ _ _).mono ?_
  rintro _ _ ⟨n2, rfl, rfl⟩
  go_wp2_with fail
  refine (isSameSingle_self _ _).mono ?_
  rintro _ _ ⟨n3, rfl, rfl⟩
  go_wp2_with fail
  refine (isSameRing_self xs a n _ _ _ _ _ _ _ _ _ _ _ (((h0.alloc _).alloc _).drewN _) (((h0'.alloc _).alloc _).drewN _) e0).mono ?_
  rintro _ w3 ⟨rfl, s3⟩
  have s3 := s3.undrawn'
  have X := ((Bx.new w #[.int .i64 k, .complex .f32 t1 t2, .complex .f32 s1 s2, .float .f32 l, .slice S xs.length p, .int .i64 a, .int .i64 n, .slice P ps.length q, .slice L ls.length r, .int .i64 c, .int .i64 f] 35).alloc (.cells #[.int .i64 k, .complex .f32 t1 t2, .complex .f32 s1 s2, .float .f32 l, .slice S' xs.length p', .int .i64 a, .int .i64 n, .slice P' ps.length q', .slice L' ls.length r', .int .i64 c, .int .i64 f] 35)).keep s3
  have Y := (Bx.new (w.alloc (.cells #[.int .i64 k, .complex .f32 t1 t2, .complex .f32 s1 s2, .float .f32 l, .slice S xs.length p, .int .i64 a, .int .i64 n, .slice P ps.length q, .slice L ls.length r, .int .i64 c, .int .i64 f] 35)) #[.int .i64 k, .complex .f32 t1 t2, .complex .f32 s1 s2, .float .f32 l, .slice S' xs.length p', .int .i64 a, .int .i64 n, .slice P' ps.length q', .slice L' ls.length r', .int .i64 c, .int .i64 f] 35).keep s3
  rw [show (w.alloc (.cells #[.int .i64 k, .complex .f32 t1 t2, .complex .f32 s1 s2, .float .f32 l, .slice S xs.length p, .int .i64 a, .int .i64 n, .slice P ps.length q, .slice L ls.length r, .int .i64 c, .int .i64 f] 35)).heap.size = w.heap.size + 1 by simp] at Y
  have S3 := (((Span.refl 0 0 w).alloc (.cells #[.int .i64 k, .complex .f32 t1 t2, .complex .f32 s1 s2, .float .f32 l, .slice S xs.length p, .int .i64 a, .int .i64 n, .slice P ps.length q, .slice L ls.length r, .int .i64 c, .int .i64 f] 35)).alloc (.cells #[.int .i64 k, .complex .f32 t1 t2, .complex .f32 s1 s2, .float .f32 l, .slice S' xs.length p', .int .i64 a, .int .i64 n, .slice P' ps.length q', .slice L' ls.length r', .int .i64 c, .int .i64 f] 35)).trans s3
  have HS := Lib.hid S3
  have H1 := Lib.hid (h1.span S3 (by omega))
  have H1' := Lib.hid (h1'.span S3 (by omega))
  have H2 := Lib.hid (h2.span S3 (by omega))
  have H2' := Lib.hid (h2'.span S3 (by omega))
  have cx := X.cells
  have cy := Y.cells
  have HX := Lib.hid X
  have HY := Lib.hid Y
  clear h0 h0' h1 h1' h2 h2' s3 S3 X Y
  go_wp2_with fail
  refine (isSameTable_self ps ls _ _ _ _ _ _ _ _ _ _ _ _ _ _ _ _ _ _ _ _ _ H1.out H1'.out H2.out H2'.out e1 e2).mono ?_
  rintro _ w4 ⟨rfl, s4⟩
  have cx := (HX.out.keep s4).cells
  have cy := (HY.out.keep s4).cells
  have HS := Lib.hid (HS.out.trans s4)
  clear s4
  go_wp2_with fail
  go_ret
  exact ⟨rfl, HS.out⟩
end
end Go.Proofs.Ytdmahikaajdkgaa
