import Derived.Test.YtmdmfkdmgmcbpaaS3
import Derived.IntWalk
namespace Go.Proofs.Ytmdmfkdmgmcbpaa
open Go.RowKit

/-- The sum of pairs. -/
def pairsN : Nat → List Nat → Nat
  | 0, _ => 0
  | n + 1, xs => if xs.length = 0 then 0 else if xs.length = 1 then xs.getD 0 0 else fC .add .f32 (pairsN n (xs.take (xs.length / 2))) (pairsN n (xs.drop (xs.length / 2)))

theorem HasF.take {w : World} {A : Option Addr} {n c : Nat} {xs : List Nat} (h : HasF w (.slice A n c) xs) {k : Nat} (hk : k ≤ n) : HasF w (.slice A k c) (xs.take k) := by
  obtain ⟨A', cap, he, hcap, hc⟩ := h
  injection he with e1 e2 e3
  subst e1 e2 e3
  refine ⟨A, c, by rw [List.length_take, Nat.min_eq_left hk], by rw [List.length_take]; omega, fun hp => ?_⟩
  rw [List.length_take] at hp
  obtain ⟨b, off, rfl, hcell⟩ := hc (by omega)
  refine ⟨b, off, rfl, fun j hj => ?_⟩
  rw [List.length_take] at hj
  rw [hcell j (by omega)]
  simp only [List.getD_eq_getElem?_getD]
  rw [List.getElem?_take_of_lt (by omega)]

theorem HasF.drop {w : World} {b off n c : Nat} {xs : List Nat} (h : HasF w (.slice (some ⟨b, off, none⟩) n c) xs) {k : Nat} (hk : k < n) : HasF w (.slice (some ⟨b, off + k, none⟩) (n - k) (c - k)) (xs.drop k) := by
  obtain ⟨A', cap, he, hcap, hc⟩ := h
  injection he with e1 e2 e3
  subst e2 e3
  obtain ⟨b', off', hA, hcell⟩ := hc (by omega)
  rw [hA] at e1
  injection e1 with e1
  injection e1 with e1 e2 _
  subst e1 e2
  refine ⟨some ⟨b, off + k, none⟩, c - k, by rw [List.length_drop], by rw [List.length_drop]; omega, fun hp => ⟨b, off + k, rfl, fun j hj => ?_⟩⟩
  rw [List.length_drop] at hj
  have := hcell (k + j) (by omega)
  rw [← Nat.add_assoc] at this
  rw [this]
  simp only [List.getD_eq_getElem?_getD]
  rw [List.getElem?_drop]

set_option maxHeartbeats 1000000 in
theorem impl_sumPairs (m : Nat) : ∀ (xs : List Nat) (v : Value) (w : World) (_ : HasF w v xs) (_ : xs.length ≤ 1048576) (_ : xs.length ≤ m),
    Calls Try.prog 12 #[v] w (GivesF w .f32 (pairsN m xs)) := by
  induction m with
  | zero =>
    intro xs v w hx hlen hm
    obtain ⟨A, cap, rfl, hcap, hc⟩ := hx
    have h0 : xs = [] := List.eq_nil_of_length_eq_zero (by omega)
    subst h0
    clear hc
    go_enter Try.func12, Try.ntmps12
    go_wp2_with fail
    go_ret
    exact ⟨0, 0, rfl, rfl, FE.refl _ _⟩
  | succ m ih =>
    intro xs v w hx hlen hm
    have hx0 := hx
    obtain ⟨A, cap, rfl, hcap, hc⟩ := hx
    obtain ⟨len, hl⟩ : ∃ len, len = xs.length := ⟨_, rfl⟩
    have HL := Lib.hid hl
    rw [← hl] at hlen hcap hc hm hx0 ⊢
    clear hl
    have hfin : pairsN (m + 1) xs = if len = 0 then 0 else if len = 1 then xs.getD 0 0 else fC .add .f32 (pairsN m (xs.take (len / 2))) (pairsN m (xs.drop (len / 2))) := by
      rw [pairsN, ← HL.out]
    rcases Nat.lt_or_ge len 1 with h0 | h1
    · have h00 : len = 0 := by omega
      subst h00
      rw [hfin, if_pos rfl]
      clear hc hx0 hfin
      go_enter Try.func12, Try.ntmps12
      go_wp2_with fail
      go_ret
      exact ⟨0, 0, rfl, rfl, FE.refl _ _⟩
    · obtain ⟨b, off, rfl, hcell⟩ := hc (by omega)
      rcases Nat.lt_or_ge len 2 with h2 | h2
      · have h00 : len = 1 := by omega
        subst h00
        rw [hfin, if_neg (by omega), if_pos rfl]
        have hck := hcell 0 (by omega)
        rw [Nat.add_zero] at hck
        clear hc hx0 hfin hcell
        generalize xs.getD 0 0 = x at hck ⊢
        go_enter Try.func12, Try.ntmps12
        go_wp2_with fail
        go_ret
        exact ⟨x, 0, rfl, rfl, FE.refl _ _⟩
      · rw [hfin, if_neg (by omega), if_neg (by omega)]
        have ht := hx0.take (k := len / 2) (by omega)
        have hd := hx0.drop (k := len / 2) (by omega)
        have iht := fun w' h => ih (xs.take (len / 2)) (.slice (some ⟨b, off, none⟩) (len / 2) cap) w' h (by rw [List.length_take]; omega) (by rw [List.length_take, ← HL.out]; omega)
        have ihd := fun w' h => ih (xs.drop (len / 2)) (.slice (some ⟨b, off + len / 2, none⟩) (len - len / 2) (cap - len / 2)) w' h (by rw [List.length_drop, ← HL.out]; omega) (by rw [List.length_drop, ← HL.out]; omega)
        have Iht := Lib.hid iht
        have Ihd := Lib.hid ihd
        clear hc hx0 hfin hcell ih iht ihd
        generalize pairsN m (xs.take (len / 2)) = p at *
        generalize pairsN m (xs.drop (len / 2)) = q at *
        have e1 : (len == 0) = false := by simp; omega
        have e2 : (len == 1) = false := by simp; omega
        go_enter Try.func12, Try.ntmps12
        go_wp2_with fail
        have ecap : ¬ cap = len / 2 := by omega
        go_region_with (first
          | (go_at_call 12; (with_reducible refine (Iht.out _ ?_).mono ?_); exact ht; rintro _ _ ⟨r1, n1, rfl, rfl, hr1⟩)
          | (go_at_call 12; (with_reducible refine (Ihd.out _ ?_).mono ?_); exact hd; rintro _ _ ⟨r2, n2, rfl, rfl, hr2⟩))
        all_goals
          go_wp2
          go_ret
          exact ⟨_, _, rfl, rfl, FE.arC _ hr1 hr2⟩

end Go.Proofs.Ytmdmfkdmgmcbpaa
