/- The grid, made by the specification's program. -/
import Derived.Test.YtkjlodoppmipfaaGreatJh13
import Derived.Test.YtkjlodoppmipfaaGreatJh9
namespace Go.Proofs.YtkjlodoppmipfaaGreat
open Go.RowKit

set_option maxRecDepth 100000 in
set_option maxHeartbeats 1000000 in
theorem spec_gridTable_in (n : Nat) (h1 : 1 ≤ n) (h8 : n ≤ 8) (w : World) :
    Calls Tryz.prog 96 #[.int .i64 (n : Int)] w (GivesTab (some (gridT n)) w) := by
  obtain ⟨ip, hip, hzp, hsp, hbp⟩ := info_parts info_c64
  obtain ⟨il, hil, hzl, hsl, hbl⟩ := info_parts info_int
  have b1 : decide ((n : Int) < 1) = false := by rw [decide_eq_false_iff_not]; omega
  have b2 : decide ((8 : Int) < (n : Int)) = false := by rw [decide_eq_false_iff_not]; omega
  have b3 : Hid (decide ((1 : Int) ≤ (n : Int) ∧ (n : Int) ≤ 8) = true) := by unfold Hid; rw [decide_eq_true_eq]; omega
  clear b1 b2
  have HS := Lib.hid (Growing.start w)
  go_enter Tryz.func96, Tryz.ntmps96
  go_wp2_with fail
  refine (l1In_any _ _ _ _).mono ?_
  rintro _ _ ⟨rfl, rfl⟩
  rw [b3.out]
  go_wp2_with fail
  go_loopw [5] (fun c wr => ∃ (i : Nat) (vP vL : Value), i ≤ n ∧ c = .int .i64 i ∧ Growing w.heap.size (w.heap.size + 1) (w.heap.size + 2) w (gridP n (i * n)) (gridL (i * n)) vP vL wr) (fun c _ => n - (intOf c).toNat)
  case atStart => exact ⟨0, _, _, Nat.zero_le _, rfl, by rw [Nat.zero_mul]; exact HS.out⟩
  case round =>
    clear HS
    obtain ⟨i, vP, vL, hi, rfl, hg⟩ := hrel
    by_cases hlt : i < n
    · obtain ⟨wo, rfl⟩ : ∃ wo : World, wo = wr := ⟨_, rfl⟩
      have HG := Lib.hid hg
      clear hg
      go_wp2_with fail
      go_loopw [6] (fun c wr => ∃ (k : Nat) (vP vL : Value), k ≤ n ∧ c = .int .i64 k ∧ Growing w.heap.size (w.heap.size + 1) (w.heap.size + 2) w (gridP n (i * n + k)) (gridL (i * n + k)) vP vL wr) (fun c _ => n - (intOf c).toNat)
      case atStart => exact ⟨0, _, _, Nat.zero_le _, rfl, HG.out⟩
      case round =>
        clear HG
        obtain ⟨k, uP, uL, hk, rfl, hg⟩ := hrel
        by_cases hlt2 : k < n
        · obtain ⟨c0, c1, _⟩ := hg.cells
          have HG := Lib.hid hg
          clear hg
          have m2 : i * n ≤ 64 := Nat.mul_le_mul (show i ≤ 8 by omega) h8
          obtain ⟨t, ht⟩ : ∃ t, t = i * n := ⟨_, rfl⟩
          have m1 : (i : Int) * (n : Int) = (t : Int) := by rw [ht, Int.natCast_mul]
          have m3 : (t : Int) ≤ 64 := by omega
          have HT := Lib.hid ht
          clear m2 ht
          go_wp2_with (first
            | (at_builtin; refine wpList_append_own _ rfl _ _ 25 rfl (w.heap.size + 2) 23 ip (.complex .f32 0 0) 1 8 Tryz.underlying25 hip hzp hsp hbp rfl (by decide) _ _ _ rfl (HG.out.p.alloc _) ⟨wr.heap.size, 0, none⟩ 1 1 [cxV (fi (2 * (i : Int) - n + 1), fi (2 * (k : Int) - n + 1))] rfl rfl ?c1 ?c2 ?c3 ?c4 ?c5 ?_; (case c1 => exact one_new _ _ _); (case c2 => exact one_cell (by rfl)); (case c3 => rw [gridP_length]; have := HT.out; unfold maxLen; omega); (case c4 => rw [gridP_length]; have := HT.out; omega); (case c5 => have := HG.out.hB; simp; omega); intro v1 w1 ho hgr _; obtain ⟨A1, q1, rfl⟩ := ownsRow_slice ho; obtain ⟨d0, d1, d2, D⟩ := HG.out.points (Nat.lt_succ_self _) (Nat.lt_succ_self _) (Nat.le_refl _) ho hgr; have HG1 := Lib.hid D; clear D ho hgr)
            | (at_builtin; ((refine wpList_append_own _ rfl _ _ 28 rfl (w.heap.size + 2) 3 il (.int .i64 0) 1 8 Tryz.underlying28 hil hzl hsl hbl rfl (by decide) _ _ _ rfl (HG1.out.l.alloc _) ⟨w1.heap.size, 0, none⟩ 1 1 [intV ((t : Int) + (k : Int))] rfl rfl ?e1 ?e2 ?e3 ?e4 ?e5 ?_); (case e1 => exact one_new' _ _ _ _ _); (case e2 => exact one_cell (by rfl)); (case e3 => rw [gridL_length]; have := HT.out; unfold maxLen; omega); (case e4 => rw [gridL_length]; have := HT.out; omega); (case e5 => have := HG1.out.hB; simp at this ⊢; omega); intro v2 w2 ho hgr _; obtain ⟨A2, q2, rfl⟩ := ownsRow_slice ho; obtain ⟨d3, d4, d5, D⟩ := HG1.out.labels (Nat.lt_succ_self _) (Nat.lt_succ_self _) (Nat.le_refl _) ho hgr; have HG2 := Lib.hid D; clear D ho hgr)))
          go_roundw
          case rel =>
            have e := HT.out
            have g := HG2.out
            rw [show (t : Int) + (k : Int) = ((i * n + k : Nat) : Int) by omega, ← gridL_succ, ← gridP_succ hlt2] at g
            exact ⟨k + 1, _, _, by omega, by go_num, g⟩
          case measure => simp [intOf]; omega
        · have hkn : k = n := by omega
          subst hkn
          have HG := Lib.hid hg
          clear hg
          go_wp2_with fail
          go_roundw
          case rel =>
            refine ⟨i + 1, uP, uL, by omega, by go_num, ?_⟩
            rw [Nat.succ_mul]
            exact HG.out
          case measure => simp [intOf]; omega
    · have hin : i = n := by omega
      subst hin
      obtain ⟨c0, c1, c2, c3, c4, c5⟩ := hg.cells
      obtain ⟨AP, qP, rfl⟩ := ownsRow_slice hg.p
      obtain ⟨AL, qL, rfl⟩ := ownsRow_slice hg.l
      have HG := Lib.hid hg
      clear hg
      go_wp2_with fail
      have e0 : ((wr.setCell ⟨w.heap.size, 0, none⟩ (.slice AP (gridP i (i * i)).length qP)).setCell ⟨w.heap.size, 1, none⟩ (.slice AL (gridL (i * i)).length qL)).cell? ⟨w.heap.size, 0, none⟩ = some (.slice AP (gridP i (i * i)).length qP) :=
        (World.cell?_setCell_other _ ⟨w.heap.size, 1, none⟩ ⟨w.heap.size, 0, none⟩ _ (by simp)).trans (World.cell?_setCell_same wr ⟨w.heap.size, 0, none⟩ _ c2)
      have e1 : ((wr.setCell ⟨w.heap.size, 0, none⟩ (.slice AP (gridP i (i * i)).length qP)).setCell ⟨w.heap.size, 1, none⟩ (.slice AL (gridL (i * i)).length qL)).cell? ⟨w.heap.size, 1, none⟩ = some (.slice AL (gridL (i * i)).length qL) :=
        World.cell?_setCell_same _ ⟨w.heap.size, 1, none⟩ _ ((World.cell?_setCell_other _ ⟨w.heap.size, 0, none⟩ ⟨w.heap.size, 1, none⟩ _ (by simp)).trans c3)
      refine bodyPost_ret (v := .tuple #[.agg #[.slice AP (gridP i (i * i)).length qP, .slice AL (gridL (i * i)).length qL], .bool true]) (by simp [results, Tryz.results96, go_sem, e0, e1]) rfl ⟨⟨_, rfl, ?_⟩, ?_⟩
      · have hp := ownsRow_setCell_below (ownsRow_setCell_below HG.out.p (a := ⟨w.heap.size, 0, none⟩) (by simp) (.slice AP (gridP i (i * i)).length qP)) (a := ⟨w.heap.size, 1, none⟩) (by simp) (.slice AL (gridL (i * i)).length qL)
        have hl := ownsRow_setCell_below (ownsRow_setCell_below HG.out.l (a := ⟨w.heap.size, 0, none⟩) (by simp) (.slice AP (gridP i (i * i)).length qP)) (a := ⟨w.heap.size, 1, none⟩) (by simp) (.slice AL (gridL (i * i)).length qL)
        exact (owned_tab hp hl).weak (by omega) (.inl (Nat.le_refl _))
      · exact (HG.out.s.setCell (.inr (Nat.le_refl _)) _).setCell (.inr (Nat.le_refl _)) _

theorem spec_gridTable_no (n : Int) (h : n < 1 ∨ 8 < n) (w : World) :
    Calls Tryz.prog 96 #[.int .i64 n] w (GivesTab none w) := by
  have b3 : Hid (decide ((1 : Int) ≤ n ∧ n ≤ 8) = false) := by unfold Hid; rw [decide_eq_false_iff_not]; omega
  clear h
  go_enter Tryz.func96, Tryz.ntmps96
  go_wp2_with fail
  refine (l1In_any _ _ _ _).mono ?_
  rintro _ _ ⟨rfl, rfl⟩
  rw [b3.out]
  go_wp2
  exact bodyPost_ret (v := .tuple #[.agg #[.slice none 0 0, .slice none 0 0], .bool false]) (by simp [results, Tryz.results96, go_sem]) rfl ⟨rfl, (Span.refl _ _ _).alloc _⟩

def gridO (n : Int) : Option Tab := if 1 ≤ n ∧ n ≤ 8 then some (gridT n.toNat) else none

theorem spec_gridTable (n : Int) (w : World) : Calls Tryz.prog 96 #[.int .i64 n] w (GivesTab (gridO n) w) := by
  unfold gridO
  by_cases h : 1 ≤ n ∧ n ≤ 8
  · rw [if_pos h]
    obtain ⟨m, rfl⟩ := Int.eq_ofNat_of_zero_le (show 0 ≤ n by omega)
    exact spec_gridTable_in m (by omega) (by omega) w
  · rw [if_neg h]; exact spec_gridTable_no n (by omega) w

theorem HasTab.none_ (own : Bool) (lo hi : Nat) (w : World) : HasTab own lo hi w (.agg #[.slice none 0 0, .slice none 0 0]) ([], []) :=
  ⟨0, 1, _, _, rfl, by omega, HasS.empty _ _ _ _ _ _ _ _, HasS.empty _ _ _ _ _ _ _ _⟩

/-- The table that is given, or the zero value. -/
def okT (o : Option Tab) : Tab := o.getD ([], [])
def GivesTab' (o : Option Tab) (w : World) (e : Ending) (w' : World) : Prop :=
  ∃ v, e = .returned (.tuple #[v, .bool o.isSome]) ∧ HasTab true w.heap.size w'.heap.size w' v (okT o) ∧ Span 0 0 w w'
theorem GivesTab.plain {o : Option Tab} {w : World} {e : Ending} {w' : World} (h : GivesTab o w e w') : GivesTab' o w e w' := by
  obtain ⟨h1, h2⟩ := h
  cases o with
  | none => exact ⟨_, h1, HasTab.none_ _ _ _ _, h2⟩
  | some t => obtain ⟨v, rfl, h3⟩ := h1; exact ⟨v, rfl, h3, h2⟩

theorem gridO_len (n : Int) : (okT (gridO n)).1.length ≤ 64 ∧ (okT (gridO n)).2.length ≤ 64 := by
  unfold gridO okT
  by_cases h : 1 ≤ n ∧ n ≤ 8
  · rw [if_pos h]
    have : n.toNat * n.toNat ≤ 8 * 8 := Nat.mul_le_mul (by omega) (by omega)
    simp only [Option.getD_some, gridT, gridP_length, gridL_length]
    omega
  · rw [if_neg h]; simp

theorem HasTab.form {own : Bool} {lo hi : Nat} {w : World} {v : Value} {t : Tab} (h : HasTab own lo hi w v t) : ∃ A c A' c', v = .agg #[.slice A t.1.length c, .slice A' t.2.length c'] := by
  obtain ⟨b1, b2, vP, vL, rfl, hne, h1, h2⟩ := h
  obtain ⟨A, c, rfl, _⟩ := h1
  obtain ⟨A', c', rfl, _⟩ := h2
  exact ⟨A, c, A', c', rfl⟩

/-- A box of two cells stays. -/
theorem Span.box2 {lo hi b : Nat} {w w' : World} {u v : Value} (h : Span lo hi w w') (hb : b < w.heap.size) (hd : hi ≤ lo ∨ b < lo ∨ hi ≤ b) (hc : w.cell? ⟨b, 0, none⟩ = some u ∧ w.cell? ⟨b, 1, none⟩ = some v) :
    w'.cell? ⟨b, 0, none⟩ = some u ∧ w'.cell? ⟨b, 1, none⟩ = some v := by
  have e := h.block b hb (by omega)
  exact ⟨(World.cell?_of_block (w := w) (a := ⟨b, 0, none⟩) e).trans hc.1, (World.cell?_of_block (w := w) (a := ⟨b, 1, none⟩) e).trans hc.2⟩
theorem box2_alloc {w : World} {b : Nat} {u v : Value} (hc : w.cell? ⟨b, 0, none⟩ = some u ∧ w.cell? ⟨b, 1, none⟩ = some v) (hb : b < w.heap.size) :
    (∀ o, (w.alloc o).cell? ⟨b, 0, none⟩ = some u) ∧ (∀ o, (w.alloc o).cell? ⟨b, 1, none⟩ = some v) :=
  ⟨fun o => (((Span.refl 0 0 w).alloc o).box2 hb (.inl (Nat.le_refl _)) hc).1, fun o => (((Span.refl 0 0 w).alloc o).box2 hb (.inl (Nat.le_refl _)) hc).2⟩
theorem box2_new (w : World) (u v : Value) (t : TypeId) : (w.alloc (.cells #[u, v] t)).cell? ⟨w.heap.size, 0, none⟩ = some u ∧ (w.alloc (.cells #[u, v] t)).cell? ⟨w.heap.size, 1, none⟩ = some v := by
  constructor <;> rw [World.cell?_alloc_new] <;> rfl
end Go.Proofs.YtkjlodoppmipfaaGreat
