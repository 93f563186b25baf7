/- Marks looked at; tables compared, marked, looked at. -/
import Derived.Test.YthcccliiokckjaaM2
namespace Go.Proofs.Ythcccliiokckjaa
open Go.RowKit

/-- A number comes back, and nothing old is turned. -/
def Num0 (r : Int) (w : World) (e : Ending) (w' : World) : Prop := e = .returned (.int .i64 r) ∧ Span 0 0 w w'
def True0 (w : World) (e : Ending) (w' : World) : Prop := e = .returned (.bool true) ∧ Span 0 0 w w'

set_option maxHeartbeats 1000000 in
theorem heldComplex64S_any (n k : Nat) (o : Bool) (b lo hi : Nat) (v : Value) (w : World) (hx : HasS cxV o b lo hi w v (marksC n k)) (hlen : n ≤ 4194304) (hk : k ≤ 4194304) :
    Calls Try.prog 88 #[v, .int .i64 (k : Int)] w fun e w' => e = .returned (.int .i64 ((k + n : Nat) : Int)) ∧ w = w' := by
  obtain ⟨A, cap, rfl, hcap, hc⟩ := hx
  have HC := Lib.hid hc
  rw [marksC_length] at hcap ⊢
  clear hc
  have c1 := fun w => (one_conv w).1
  have c2 := (one_conv w).2
  have o2 : FloatKind.f32.format.order 1065353216 1065353216 = some .eq := by decide +kernel
  go_enter Try.func88, Try.ntmps88
  go_wp2
  go_loopw [1, 5] (fun q i wr => ∃ j : Nat, j ≤ n ∧ i = .int .i64 j ∧ q = .int .i64 ((k + j : Nat) : Int) ∧ w = wr) (fun _ i _ => n - (intOf i).toNat)
  case atStart => exact ⟨0, Nat.zero_le _, rfl, by simp, rfl⟩
  case round =>
    obtain ⟨j, hj, rfl, rfl, rfl⟩ := hrel
    by_cases hlt : j < n
    · obtain ⟨off, rfl, _, _, _, hcell, _⟩ := HC.out (by rw [marksC_length]; omega)
      obtain ⟨x, hx⟩ := getElem?_some (xs := marksC n k) (j := j) (by rw [marksC_length]; exact hlt)
      obtain ⟨_, rfl⟩ := marksC_get hx
      have hck : w.cell? ⟨b, off + j, none⟩ = some (.complex .f32 (mkC (k + j)) 1065353216) := hcell j _ hx
      have o1 : FloatKind.f32.format.order (mkC (k + j)) (mkC (k + j)) = some .eq := by rw [order_self, (mkC_spec (k := k + j) (by omega)).2]; rfl
      have c3 : ∀ w, fCv .f64 .f32 (floatOfInt .f64 ((k : Int) + (j : Int))) w = mkC (k + j) := fun w => by rw [show (k : Int) + (j : Int) = ((k + j : Nat) : Int) by omega]; exact (mk_conv (by omega) w).1
      have c4 : fCd .f64 .f32 (floatOfInt .f64 ((k : Int) + (j : Int))) = 0 := by rw [show (k : Int) + (j : Int) = ((k + j : Nat) : Int) by omega]; exact (mk_conv (by omega) w).2
      clear hcell hx
      go_wp2
      go_roundw
      case rel => exact ⟨j + 1, by omega, by go_num, by rw [show (k + (j + 1) : Nat) = (k + j) + 1 from rfl]; go_num, by first | rfl | trivial⟩
      case measure => simp [intOf]; omega
    · have hje : n = j := by omega
      subst hje
      go_wp2
      go_ret
      exact ⟨rfl, rfl⟩

/-- A table: points and labels. -/
abbrev Tab := List Cx × List Int
def HasTab (own : Bool) (lo hi : Nat) (w : World) (v : Value) (t : Tab) : Prop :=
  ∃ b1 b2 vP vL, v = .agg #[vP, vL] ∧ b1 ≠ b2 ∧ HasS cxV own b1 lo hi w vP t.1 ∧ HasS intV own b2 lo hi w vL t.2

theorem HasTab.span {own : Bool} {lo hi l r : Nat} {w w' : World} {v : Value} {t : Tab} (h : HasTab own lo hi w v t) (hs : Span l r w w') (hd : r ≤ l ∨ hi ≤ l ∨ r ≤ lo) : HasTab own lo hi w' v t := by
  obtain ⟨b1, b2, vP, vL, rfl, hne, h1, h2⟩ := h
  exact ⟨b1, b2, vP, vL, rfl, hne, h1.span hs (by omega), h2.span hs (by omega)⟩

theorem HasTab.weak {own : Bool} {lo hi lo' hi' : Nat} {w : World} {v : Value} {t : Tab} (h : HasTab own lo hi w v t) (h1 : lo' ≤ lo) (h2 : hi ≤ hi' ∨ w.heap.size ≤ hi') : HasTab own lo' hi' w v t := by
  obtain ⟨b1, b2, vP, vL, rfl, hne, g1, g2⟩ := h
  exact ⟨b1, b2, vP, vL, rfl, hne, g1.weak h1 h2, g2.weak h1 h2⟩

def SameT (t t' : Tab) : Prop := SameL t.1 t'.1 ∧ t.2 = t'.2
theorem SameT.refl (t : Tab) : SameT t t := ⟨SameL.refl _, rfl⟩

/-- What marking a table gives. -/
def MarksT (lo hi : Nat) (v : Value) (t : Tab) (k : Nat) (w : World) (e : Ending) (w' : World) : Prop :=
  e = .returned (.int .i64 ((k + t.1.length + t.2.length : Nat) : Int)) ∧ HasTab true lo hi w' v t ∧ Span lo hi w w'

def marksT (t : Tab) (k : Nat) : Tab := (marksC t.1.length k, marksI t.2.length (k + t.1.length))

theorem HasS.lt {α : Type} {val : α → Value} {own : Bool} {b lo hi : Nat} {w : World} {v : Value} {xs : List α} (h : HasS val own b lo hi w v xs) (hp : 0 < xs.length) : b < w.heap.size := by
  obtain ⟨A, cap, rfl, hcap, hc⟩ := h
  obtain ⟨off, rfl, _, _, h3, _⟩ := hc hp
  exact h3

end Go.Proofs.Ythcccliiokckjaa
