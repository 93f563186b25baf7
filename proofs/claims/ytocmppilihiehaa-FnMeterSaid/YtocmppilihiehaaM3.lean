/- Marks looked at; tables compared, marked, looked at. -/
import Derived.Test.YtocmppilihiehaaM2
namespace Go.Proofs.Ytocmppilihiehaa
open Go.RowKit

/-- A number comes back, and nothing old is turned. -/
def Num0 (r : Int) (w : World) (e : Ending) (w' : World) : Prop := e = .returned (.int .i64 r) ∧ Span 0 0 w w'
def True0 (w : World) (e : Ending) (w' : World) : Prop := e = .returned (.bool true) ∧ Span 0 0 w w'

set_option maxHeartbeats 1000000 in
theorem heldIntS_any (n k : Nat) (o : Bool) (b lo hi : Nat) (v : Value) (w : World) (hx : HasS intV o b lo hi w v (marksI n k)) (hlen : n ≤ 4194304) (hk : k ≤ 4194304) :
    Calls Try.prog 90 #[v, .int .i64 (k : Int)] w fun e w' => e = .returned (.int .i64 ((k + n : Nat) : Int)) ∧ w = w' := by
  obtain ⟨A, cap, rfl, hcap, hc⟩ := hx
  have HC := Lib.hid hc
  rw [marksI_length] at hcap ⊢
  clear hc
  go_enter Try.func90, Try.ntmps90
  go_wp2
  go_loopw [1, 5] (fun q i wr => ∃ j : Nat, j ≤ n ∧ i = .int .i64 j ∧ q = .int .i64 ((k + j : Nat) : Int) ∧ w = wr) (fun _ i _ => n - (intOf i).toNat)
  case atStart => exact ⟨0, Nat.zero_le _, rfl, by simp, rfl⟩
  case round =>
    obtain ⟨j, hj, rfl, rfl, rfl⟩ := hrel
    by_cases hlt : j < n
    · obtain ⟨off, rfl, _, _, _, hcell, _⟩ := HC.out (by rw [marksI_length]; omega)
      obtain ⟨x, hx⟩ := getElem?_some (xs := marksI n k) (j := j) (by rw [marksI_length]; exact hlt)
      obtain ⟨_, rfl⟩ := marksI_get hx
      have hck : w.cell? ⟨b, off + j, none⟩ = some (.int .i64 ((k : Int) + (j : Int))) := by rw [show (k : Int) + (j : Int) = ((k + j : Nat) : Int) by omega]; exact hcell j _ hx
      clear hcell hx
      go_wp2
      go_roundw
      case rel => exact ⟨j + 1, by omega, by go_num, by rw [show (k + (j + 1) : Nat) = (k + j) + 1 from rfl]; go_num, by first | rfl | trivial⟩
      case measure => simp [intOf]; omega
    · have hje : n = j := by omega
      subst hje
      go_wp2
      go_ret
      exact ⟨rfl, rfl⟩

set_option maxHeartbeats 1000000 in
theorem heldComplex64S_any (n k : Nat) (o : Bool) (b lo hi : Nat) (v : Value) (w : World) (hx : HasS cxV o b lo hi w v (marksC n k)) (hlen : n ≤ 4194304) (hk : k ≤ 4194304) :
    Calls Try.prog 67 #[v, .int .i64 (k : Int)] w fun e w' => e = .returned (.int .i64 ((k + n : Nat) : Int)) ∧ w = w' := by
  obtain ⟨A, cap, rfl, hcap, hc⟩ := hx
  have HC := Lib.hid hc
  rw [marksC_length] at hcap ⊢
  clear hc
  have c1 := fun w => (one_conv w).1
  have c2 := (one_conv w).2
  have o2 : FloatKind.f32.format.order 1065353216 1065353216 = some .eq := by decide +kernel
  go_enter Try.func67, Try.ntmps67
  go_wp2
  go_loopw [1, 5] (fun q i wr => ∃ j : Nat, j ≤ n ∧ i = .int .i64 j ∧ q = .int .i64 ((k + j : Nat) : Int) ∧ w = wr) (fun _ i _ => n - (intOf i).toNat)
  case atStart => exact ⟨0, Nat.zero_le _, rfl, by simp, rfl⟩
  case round =>
    obtain ⟨j, hj, rfl, rfl, rfl⟩ := hrel
    by_cases hlt : j < n
    · obtain ⟨off, rfl, _, _, _, hcell, _⟩ := HC.out (by rw [marksC_length]; omega)
      obtain ⟨x, hx⟩ := getElem?_some (xs := marksC n k) (j := j) (by rw [marksC_length]; exact hlt)
      obtain ⟨_, rfl⟩ := marksC_get hx
      have hck : w.cell? ⟨b, off + j, none⟩ = some (.complex .f32 (mkC (k + j)) 1065353216) := hcell j _ hx
      have o1 : FloatKind.f32.format.order (mkC (k + j)) (mkC (k + j)) = some .eq := by rw [order_self, (mkC_spec (k := k + j) (by omega)).2]; rfl
      have c3 : ∀ w, fCv .f64 .f32 (floatOfInt .f64 ((k : Int) + (j : Int))) w = mkC (k + j) := fun w => by rw [show (k : Int) + (j : Int) = ((k + j : Nat) : Int) by omega]; exact (mk_conv (by omega) w).1
      have c4 : fCd .f64 .f32 (floatOfInt .f64 ((k : Int) + (j : Int))) = 0 := by rw [show (k : Int) + (j : Int) = ((k + j : Nat) : Int) by omega]; exact (mk_conv (by omega) w).2
      clear hcell hx
      go_wp2
      go_roundw
      case rel => exact ⟨j + 1, by omega, by go_num, by rw [show (k + (j + 1) : Nat) = (k + j) + 1 from rfl]; go_num, by first | rfl | trivial⟩
      case measure => simp [intOf]; omega
    · have hje : n = j := by omega
      subst hje
      go_wp2
      go_ret
      exact ⟨rfl, rfl⟩

/-- A table: points and labels. -/
abbrev Tab := List Cx × List Int
def HasTab (own : Bool) (lo hi : Nat) (w : World) (v : Value) (t : Tab) : Prop :=
  ∃ b1 b2 vP vL, v = .agg #[vP, vL] ∧ b1 ≠ b2 ∧ HasS cxV own b1 lo hi w vP t.1 ∧ HasS intV own b2 lo hi w vL t.2

theorem HasTab.span {own : Bool} {lo hi l r : Nat} {w w' : World} {v : Value} {t : Tab} (h : HasTab own lo hi w v t) (hs : Span l r w w') (hd : r ≤ l ∨ hi ≤ l ∨ r ≤ lo) : HasTab own lo hi w' v t := by
  obtain ⟨b1, b2, vP, vL, rfl, hne, h1, h2⟩ := h
  exact ⟨b1, b2, vP, vL, rfl, hne, h1.span hs (by omega), h2.span hs (by omega)⟩

theorem HasTab.weak {own : Bool} {lo hi lo' hi' : Nat} {w : World} {v : Value} {t : Tab} (h : HasTab own lo hi w v t) (h1 : lo' ≤ lo) (h2 : hi ≤ hi' ∨ w.heap.size ≤ hi') : HasTab own lo' hi' w v t := by
  obtain ⟨b1, b2, vP, vL, rfl, hne, g1, g2⟩ := h
  exact ⟨b1, b2, vP, vL, rfl, hne, g1.weak h1 h2, g2.weak h1 h2⟩

def SameT (t t' : Tab) : Prop := SameL t.1 t'.1 ∧ t.2 = t'.2
theorem SameT.refl (t : Tab) : SameT t t := ⟨SameL.refl _, rfl⟩

set_option maxHeartbeats 1000000 in
theorem eqTable_true (t t' : Tab) (o o' : Bool) (lo lo' hi hi' : Nat) (v v' : Value) (w : World) (hx : HasTab o lo hi w v t) (hx' : HasTab o' lo' hi' w v' t') (hs : SameT t t') (h1 : t.1.length ≤ 4194304) (h2 : t.2.length ≤ 4194304) :
    Calls Try.prog 70 #[v, v'] w (True0 w) := by
  obtain ⟨b1, b2, vP, vL, rfl, hne, g1, g2⟩ := hx
  obtain ⟨b1', b2', vP', vL', rfl, hne', g1', g2'⟩ := hx'
  obtain ⟨hs1, hs2⟩ := hs
  rw [← hs2] at g2'
  clear hs2
  go_enter Try.func70, Try.ntmps70
  go_wp2_with fail
  refine (eqComplex64S_true _ _ _ _ _ _ _ _ _ _ _ _ _ ((g1.alloc _).alloc _) ((g1'.alloc _).alloc _) hs1 h1).mono ?_
  rintro _ _ ⟨n, rfl, rfl⟩
  go_wp2_with fail
  refine (eqIntS_true _ _ _ _ _ _ _ _ _ _ _ _ (((g2.alloc _).alloc _).drewN _) (((g2'.alloc _).alloc _).drewN _) h2).mono ?_
  rintro _ _ ⟨m, rfl, rfl⟩
  go_wp2_with fail
  go_ret
  exact ⟨rfl, (((Span.refl _ _ _).alloc _).alloc _).drewN _⟩

/-- What marking a table gives. -/
def MarksT (lo hi : Nat) (v : Value) (t : Tab) (k : Nat) (w : World) (e : Ending) (w' : World) : Prop :=
  e = .returned (.int .i64 ((k + t.1.length + t.2.length : Nat) : Int)) ∧ HasTab true lo hi w' v t ∧ Span lo hi w w'

def marksT (t : Tab) (k : Nat) : Tab := (marksC t.1.length k, marksI t.2.length (k + t.1.length))

theorem HasS.lt {α : Type} {val : α → Value} {own : Bool} {b lo hi : Nat} {w : World} {v : Value} {xs : List α} (h : HasS val own b lo hi w v xs) (hp : 0 < xs.length) : b < w.heap.size := by
  obtain ⟨A, cap, rfl, hcap, hc⟩ := h
  obtain ⟨off, rfl, _, _, h3, _⟩ := hc hp
  exact h3

set_option maxHeartbeats 1000000 in
theorem markTable_any (t : Tab) (lo hi k : Nat) (v : Value) (w : World) (hx : HasTab true lo hi w v t) (hhi : hi ≤ w.heap.size) (h1 : t.1.length ≤ 2097152) (h2 : t.2.length ≤ 2097152) (hk : k ≤ 2097152) :
    Calls Try.prog 71 #[v, .int .i64 (k : Int)] w (MarksT lo hi v (marksT t k) k w) := by
  obtain ⟨b1, b2, vP, vL, rfl, hne, g1, g2⟩ := hx
  go_enter Try.func71, Try.ntmps71
  go_wp2_with fail
  refine (markComplex64S_any _ b1 lo hi k _ _ (g1.alloc _) (by omega) (by omega)).mono ?_
  rintro _ w1 ⟨rfl, m1, s1, s1', z1⟩
  have hz : w1.heap.size = w.heap.size + 1 := by rw [z1]; simp
  have cb : w1.cell? ⟨w.heap.size, 1, none⟩ = some vL := by
    have := s1'.block w.heap.size (by simp) (by omega)
    rw [World.cell?_of_block (w := w.alloc (.cells #[vP, vL] 42)) (a := ⟨w.heap.size, 1, none⟩) this, World.cell?_alloc_new]; rfl
  have sA : Span lo hi w w1 := s1'.after ((Span.refl _ _ _).alloc _)
  have g2' : HasS intV true b2 lo hi w1 vL t.2 := (g2.alloc _).span s1 (by omega)
  have HZ := Lib.hid hz
  clear s1 s1' z1 hz
  go_wp2_with fail
  refine (markIntS_any _ b2 lo hi (k + t.1.length) _ _ g2' (by omega) (by omega)).mono ?_
  rintro _ w2 ⟨rfl, m2, s2, s2', z2⟩
  have m1' : HasS cxV true b1 lo hi w2 vP (marksC t.1.length k) := m1.span s2 (by omega)
  have HZ2 := Lib.hid z2
  clear z2
  go_wp2_with fail
  go_ret
  refine ⟨?_, ⟨b1, b2, vP, vL, rfl, hne, m1', m2⟩, sA.trans s2'⟩
  show _ = Ending.returned (.int .i64 ((k + (marksC t.1.length k).length + (marksI t.2.length (k + t.1.length)).length : Nat) : Int))
  rw [marksI_length, marksC_length]
  rfl

set_option maxHeartbeats 1000000 in
theorem heldTable_any (t : Tab) (o : Bool) (lo hi k : Nat) (v : Value) (w : World) (hx : HasTab o lo hi w v (marksT t k)) (h1 : t.1.length ≤ 2097152) (h2 : t.2.length ≤ 2097152) (hk : k ≤ 2097152) :
    Calls Try.prog 72 #[v, .int .i64 (k : Int)] w (Num0 ((k + t.1.length + t.2.length : Nat) : Int) w) := by
  obtain ⟨b1, b2, vP, vL, rfl, hne, g1, g2⟩ := hx
  go_enter Try.func72, Try.ntmps72
  go_wp2_with fail
  refine (heldComplex64S_any t.1.length k o b1 lo hi _ _ (g1.alloc _) (by omega) (by omega)).mono ?_
  rintro _ _ ⟨rfl, rfl⟩
  go_wp2_with fail
  refine (heldIntS_any t.2.length (k + t.1.length) o b2 lo hi _ _ (g2.alloc _) (by omega) (by omega)).mono ?_
  rintro _ _ ⟨rfl, rfl⟩
  go_wp2_with fail
  go_ret
  exact ⟨rfl, (Span.refl _ _ _).alloc _⟩

end Go.Proofs.Ytocmppilihiehaa
