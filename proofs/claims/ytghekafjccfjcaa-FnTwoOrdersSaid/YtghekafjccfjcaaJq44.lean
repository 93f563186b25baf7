/- A module is the same as itself. -/
import Derived.Test.YtghekafjccfjcaaJq43
import Derived.Outline
namespace Go.Proofs.Ytghekafjccfjcaa
open Go.RowKit

/-- A value that reads as a module, with its table. -/
def ReadM (w : World) (v : Value) (m : Md) (t : Tab) : Prop :=
  ∃ vS vP vL b0 b1 b2, v = .agg #[.int .i64 m.kind, .complex .f32 m.turn.1 m.turn.2, .complex .f32 m.state.1 m.state.2, .float .f32 m.level, vS, .int .i64 m.ring.at_, .int .i64 m.ring.cnt, vP, vL, .int .i64 m.count, .int .i64 m.left] ∧
    HasS cxV false b0 0 w.heap.size w vS m.ring.store ∧ HasS cxV false b1 0 w.heap.size w vP t.1 ∧ HasS intV false b2 0 w.heap.size w vL t.2

theorem ReadM.keep {w w' : World} {v : Value} {m : Md} {t : Tab} (h : ReadM w v m t) (s : Span 0 0 w w') : ReadM w' v m t := by
  obtain ⟨vS, vP, vL, b0, b1, b2, rfl, h0, h1, h2⟩ := h
  have z := s.size
  exact ⟨vS, vP, vL, b0, b1, b2, rfl, (h0.span s (by omega)).weak (Nat.le_refl _) (.inl z), (h1.span s (by omega)).weak (Nat.le_refl _) (.inl z), (h2.span s (by omega)).weak (Nat.le_refl _) (.inl z)⟩

set_option maxRecDepth 100000 in
set_option maxHeartbeats 4000000 in
theorem sameModules_self (m : Md) (t : Tab) (v v' : Value) (w : World) (hx : ReadM w v m t) (hx' : ReadM w v' m t) (e0 : m.ring.store.length ≤ 4194304) (e1 : t.1.length ≤ 4194304) (e2 : t.2.length ≤ 4194304) :
    Calls Try.prog 34 #[v, v'] w (True0 w) := by
  obtain ⟨vS, vP, vL, b0, b1, b2, rfl, h0, h1, h2⟩ := hx
  obtain ⟨vS', vP', vL', b0', b1', b2', rfl, h0', h1', h2'⟩ := hx'
  obtain ⟨S, p, rfl, _⟩ := id h0
  obtain ⟨P, q, rfl, _⟩ := id h1
  obtain ⟨L, r, rfl, _⟩ := id h2
  obtain ⟨S', p', rfl, _⟩ := id h0'
  obtain ⟨P', q', rfl, _⟩ := id h1'
  obtain ⟨L', r', rfl, _⟩ := id h2'
  obtain ⟨k, ⟨t1, t2⟩, ⟨s1, s2⟩, l, ⟨xs, a, n⟩, c, f⟩ := m
  obtain ⟨ps, ls⟩ := t
  simp only at *
  go_enter Try.func34, Try.ntmps34
  go_wp2_with fail
  refine (isSamePoint_self _ _ _).mono ?_
  rintro _ _ ⟨n1, rfl, rfl⟩
  go_wp2_with fail
  refine (isSamePoint_self _ _ _).mono ?_
  rintro _ _ ⟨n2, rfl, rfl⟩
  go_wp2_with fail
  refine (isSameSingle_self _ _).mono ?_
  rintro _ _ ⟨n3, rfl, rfl⟩
  go_wp2_with fail
  refine (isSameRing_self xs a n _ _ _ _ _ _ _ _ _ _ _ (((h0.alloc _).alloc _).drewN _) (((h0'.alloc _).alloc _).drewN _) e0).mono ?_
  rintro _ w3 ⟨rfl, s3⟩
  have s3 := s3.undrawn'
  have X := ((Bx.new w #[.int .i64 k, .complex .f32 t1 t2, .complex .f32 s1 s2, .float .f32 l, .slice S xs.length p, .int .i64 a, .int .i64 n, .slice P ps.length q, .slice L ls.length r, .int .i64 c, .int .i64 f] 37).alloc (.cells #[.int .i64 k, .complex .f32 t1 t2, .complex .f32 s1 s2, .float .f32 l, .slice S' xs.length p', .int .i64 a, .int .i64 n, .slice P' ps.length q', .slice L' ls.length r', .int .i64 c, .int .i64 f] 37)).keep s3
  have Y := (Bx.new (w.alloc (.cells #[.int .i64 k, .complex .f32 t1 t2, .complex .f32 s1 s2, .float .f32 l, .slice S xs.length p, .int .i64 a, .int .i64 n, .slice P ps.length q, .slice L ls.length r, .int .i64 c, .int .i64 f] 37)) #[.int .i64 k, .complex .f32 t1 t2, .complex .f32 s1 s2, .float .f32 l, .slice S' xs.length p', .int .i64 a, .int .i64 n, .slice P' ps.length q', .slice L' ls.length r', .int .i64 c, .int .i64 f] 37).keep s3
  rw [show (w.alloc (.cells #[.int .i64 k, .complex .f32 t1 t2, .complex .f32 s1 s2, .float .f32 l, .slice S xs.length p, .int .i64 a, .int .i64 n, .slice P ps.length q, .slice L ls.length r, .int .i64 c, .int .i64 f] 37)).heap.size = w.heap.size + 1 by simp] at Y
  have S3 := (((Span.refl 0 0 w).alloc (.cells #[.int .i64 k, .complex .f32 t1 t2, .complex .f32 s1 s2, .float .f32 l, .slice S xs.length p, .int .i64 a, .int .i64 n, .slice P ps.length q, .slice L ls.length r, .int .i64 c, .int .i64 f] 37)).alloc (.cells #[.int .i64 k, .complex .f32 t1 t2, .complex .f32 s1 s2, .float .f32 l, .slice S' xs.length p', .int .i64 a, .int .i64 n, .slice P' ps.length q', .slice L' ls.length r', .int .i64 c, .int .i64 f] 37)).trans s3
  have HS := Lib.hid S3
  have H1 := Lib.hid (h1.span S3 (by omega))
  have H1' := Lib.hid (h1'.span S3 (by omega))
  have H2 := Lib.hid (h2.span S3 (by omega))
  have H2' := Lib.hid (h2'.span S3 (by omega))
  have cx := X.cells
  have cy := Y.cells
  have HX := Lib.hid X
  have HY := Lib.hid Y
  clear h0 h0' h1 h1' h2 h2' s3 S3 X Y
  go_wp2_with fail
  refine (isSameTable_self ps ls _ _ _ _ _ _ _ _ _ _ _ _ _ _ _ _ _ _ _ _ _ H1.out H1'.out H2.out H2'.out e1 e2).mono ?_
  rintro _ w4 ⟨rfl, s4⟩
  have cx := (HX.out.keep s4).cells
  have cy := (HY.out.keep s4).cells
  have HS := Lib.hid (HS.out.trans s4)
  clear s4
  go_wp2_with fail
  go_ret
  exact ⟨rfl, HS.out⟩
end Go.Proofs.Ytghekafjccfjcaa
