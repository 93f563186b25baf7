/- The program's pools: where there is room, and how much is free. -/
import Derived.Test.YtlhocjoncblocaaJq44
import Derived.Test.YtlhocjoncblocaaJq35
namespace Go.Proofs.Ytlhocjoncblocaa
open Go.RowKit

/-- A place is found, or none. -/
def PlaceS (p : Pl) (room : Nat) (w : World) (e : Ending) (w' : World) : Prop :=
  ∃ o r, IsOrd p.2 o ∧ r = findG (gapsX 0 (pickL p.2 o) p.1.length) room ∧ e = .returned (.tuple #[.int .i64 ((r.getD 0 : Nat) : Int), .bool r.isSome]) ∧ Span 0 0 w w'

set_option maxRecDepth 100000 in
set_option maxHeartbeats 4000000 in
theorem findPlace_valid (p : Pl) (room : Nat) (lo hi : Nat) (v : Value) (w : World) (hx : HasP lo hi w v p) (hp : VP p) :
    Calls Try.prog 56 #[v, .int .i64 (room : Int)] w (PlaceS p room w) := by
  have HX := Lib.hid hx
  have HV := Lib.hid hp
  obtain ⟨AS, cS, AL, cL, rfl⟩ := hx.form
  have HS := Lib.hid ((Span.refl 0 0 w).alloc (.cells #[.slice AS p.1.length cS, .slice AL p.2.length cL] 26))
  have X0 := Lib.hid (Bx.new w #[.slice AS p.1.length cS, .slice AL p.2.length cL] 26)
  have cx := X0.out.cells
  clear hx hp
  go_enter Try.func56, Try.ntmps56
  go_wp2_with fail
  refine (gapsOf_valid p lo hi _ _ (HX.out.span HS.out (.inl (Nat.le_refl _))) HV.out).mono ?_
  rintro _ w1 ⟨o, G, A, q, ho, hG, rfl, hown, s1⟩
  have HO := Lib.hid ho
  have HG := Lib.hid hG
  have HOW := Lib.hid hown
  have S1 := Lib.hid (s1.after HS.out)
  obtain ⟨m, hm⟩ : ∃ m, m = G.length := ⟨_, rfl⟩
  have HM := Lib.hid hm
  have hm16 : m ≤ 17 := by
    rw [hm, hG, gapsX_length]
    have h1 : (pickL p.2 o).length ≤ o.length := List.length_filterMap_le _ _
    have h2 := List.length_filter_le (fun i => (p.2[i]?).elim false (!·.free)) (List.range p.2.length)
    rw [List.length_range] at h2
    have h3 := HV.out.most
    have h4 := ho.perm.length_eq
    have h5 : (lentIds p.2).length ≤ p.2.length := h2
    omega
  rw [← hm] at HOW ⊢
  clear ho hG hown s1 hm cx
  go_wp2_with fail
  go_loopw [11] (fun ck wr => ∃ k : Nat, k ≤ m ∧ ck = .int .i64 (k : Int) ∧ findG (G.drop k) room = findG G room ∧ Span 0 0 w1 wr) (fun ck _ => m - (intOf ck).toNat)
  case atStart => exact ⟨0, Nat.zero_le _, rfl, by rw [List.drop_zero], Span.refl _ _ _⟩
  case round =>
    obtain ⟨k, hk, rfl, hfi, hs⟩ := hrel
    by_cases hlt : k < m
    · obtain ⟨⟨s, z⟩, hg⟩ := getElem?_some (xs := G) (j := k) (by rw [← HM.out]; exact hlt)
      rw [drop_cons hg] at hfi
      obtain ⟨-, b, rfl, -, l0, l1⟩ := ownsG_at (ownsRow_span HOW.out hs) hg
      simp only at l0 l1
      have HFI := Lib.hid hfi
      have HSR := Lib.hid hs
      have HKM : Hid (k < m) := hlt
      have cl := (Bx.new wr #[.int .i64 (s : Int), .int .i64 (z : Int)] 76).cells
      have HS2 := Lib.hid (hs.alloc (.cells #[.int .i64 (s : Int), .int .i64 (z : Int)] 76))
      clear hfi hs hg
      by_cases hz : room ≤ z
      · have iz : (room : Int) ≤ (z : Int) := by omega
        have HR : Hid (findG G room = some s) := by unfold Hid; rw [← HFI.out, findG_cons_pos hz]
        clear hz
        go_wp2_with fail
        go_ret2
        exact ⟨o, some s, HO.out, by rw [← HG.out]; exact HR.out.symm, rfl, HS2.out.after S1.out⟩
      · have iz : ¬ (room : Int) ≤ (z : Int) := by omega
        have HR : Hid (findG (G.drop (k + 1)) room = findG G room) := by unfold Hid; rw [← HFI.out, findG_cons_neg hz]
        clear hz
        go_wp2_with fail
        go_roundw
        case rel => exact ⟨k + 1, HKM.out, by go_num, HR.out, HS2.out⟩
        case measure => have := HKM.out; simp [intOf]; omega
    · have hke : m = k := by omega
      subst hke
      have HR : Hid (findG G room = none) := by
        unfold Hid; rw [← hfi, List.drop_eq_nil_of_le (by rw [← HM.out]; exact Nat.le_refl _), findG_nil]
      have HS2 := Lib.hid (hs.after S1.out)
      clear hk hlt hfi hs
      go_wp2_with fail
      go_ret2
      exact ⟨o, none, HO.out, by rw [← HG.out]; exact HR.out.symm, rfl, HS2.out⟩

theorem sumG_take (G : List (Nat × Nat)) (k : Nat) : sumG (G.take k) ≤ sumG G := by
  have := sumG_append (G.take k) (G.drop k)
  rw [List.take_append_drop] at this
  omega
theorem sumG_snoc {G : List (Nat × Nat)} {k : Nat} {g : Nat × Nat} (h : G[k]? = some g) : sumG (G.take (k + 1)) = sumG (G.take k) + g.2 := by
  rw [take_snoc_of h, sumG_append]; simp [sumG]
theorem maxG_snoc {G : List (Nat × Nat)} {k : Nat} {g : Nat × Nat} (h : G[k]? = some g) : maxG (G.take (k + 1)) = max (maxG (G.take k)) g.2 := by
  rw [take_snoc_of h, maxG_append]; simp [maxG]

/-- How much is free. -/
def FreeS (p : Pl) (w : World) (e : Ending) (w' : World) : Prop :=
  ∃ o, IsOrd p.2 o ∧ e = .returned (.tuple #[.int .i64 (sumG (gapsX 0 (pickL p.2 o) p.1.length) : Int), .int .i64 (maxG (gapsX 0 (pickL p.2 o) p.1.length) : Int)]) ∧ Span 0 0 w w'

set_option maxRecDepth 100000 in
set_option maxHeartbeats 4000000 in
theorem freeRoom_valid (p : Pl) (lo hi : Nat) (v : Value) (w : World) (hx : HasP lo hi w v p) (hp : VP p) :
    Calls Try.prog 11 #[v] w (FreeS p w) := by
  have HX := Lib.hid hx
  have HV := Lib.hid hp
  obtain ⟨AS, cS, AL, cL, rfl⟩ := hx.form
  have HS := Lib.hid ((Span.refl 0 0 w).alloc (.cells #[.slice AS p.1.length cS, .slice AL p.2.length cL] 26))
  have X0 := Lib.hid (Bx.new w #[.slice AS p.1.length cS, .slice AL p.2.length cL] 26)
  have cx := X0.out.cells
  clear hx hp
  go_enter Try.func11, Try.ntmps11
  go_wp2_with fail
  refine (isPool_true p lo hi _ _ (HX.out.span HS.out (.inl (Nat.le_refl _))) HV.out).mono ?_
  rintro _ w0 ⟨rfl, s0⟩
  have S0 := Lib.hid (s0.after HS.out)
  have cx := (X0.out.keep s0).cells
  clear s0
  go_wp2_with fail
  refine (gapsOf_valid p lo hi _ _ (HX.out.span S0.out (.inl (Nat.le_refl _))) HV.out).mono ?_
  rintro _ w1 ⟨o, G, A, q, ho, hG, rfl, hown, s1⟩
  have HO := Lib.hid ho
  have HG := Lib.hid hG
  have HOW := Lib.hid hown
  have S1 := Lib.hid (s1.after S0.out)
  obtain ⟨m, hm⟩ : ∃ m, m = G.length := ⟨_, rfl⟩
  have HM := Lib.hid hm
  have hm16 : m ≤ 17 := by
    rw [hm, hG, gapsX_length]
    have h1 : (pickL p.2 o).length ≤ o.length := List.length_filterMap_le _ _
    have h2 := List.length_filter_le (fun i => (p.2[i]?).elim false (!·.free)) (List.range p.2.length)
    rw [List.length_range] at h2
    have h3 := HV.out.most
    have h4 := ho.perm.length_eq
    have h5 : (lentIds p.2).length ≤ p.2.length := h2
    omega
  have HSUM : Hid (sumG G ≤ 256) := by
    have h1 := gaps_sum (HV.out.asc ho)
    have h2 := HV.out.size
    unfold Hid
    rw [hG]
    omega
  rw [← hm] at HOW ⊢
  clear ho hG hown s1 hm cx
  go_wp2_with fail
  go_loopw [4, 5, 14] (fun ca cb ck wr => ∃ k : Nat, k ≤ m ∧ ck = .int .i64 (k : Int) ∧ ca = .int .i64 (sumG (G.take k) : Int) ∧ cb = .int .i64 (maxG (G.take k) : Int) ∧ Span 0 0 w1 wr) (fun _ _ ck _ => m - (intOf ck).toNat)
  case atStart => exact ⟨0, Nat.zero_le _, rfl, rfl, rfl, Span.refl _ _ _⟩
  case round =>
    obtain ⟨k, hk, rfl, rfl, rfl, hs⟩ := hrel
    by_cases hlt : k < m
    · obtain ⟨⟨s, z⟩, hg⟩ := getElem?_some (xs := G) (j := k) (by rw [← HM.out]; exact hlt)
      obtain ⟨-, b, rfl, -, l0, l1⟩ := ownsG_at (ownsRow_span HOW.out hs) hg
      simp only at l0 l1
      have e1 := sumG_snoc hg
      have e2 := maxG_snoc hg
      have e3 := sumG_take G (k + 1)
      have e4 := HSUM.out
      obtain ⟨u, hu⟩ : ∃ u, u = sumG (G.take k) := ⟨_, rfl⟩
      obtain ⟨x, hx⟩ : ∃ x, x = maxG (G.take k) := ⟨_, rfl⟩
      rw [← hu] at e1 ⊢
      rw [← hx] at e2 ⊢
      have E1 := Lib.hid e1
      have E2 := Lib.hid e2
      have HWR : Hid (wrap64 ((u : Int) + (z : Int)) = ((u + z : Nat) : Int)) := wrap_le (by simp only at e1; omega)
      have HSR := Lib.hid hs
      have HKM : Hid (k < m) := hlt
      have cl := (Bx.new wr #[.int .i64 (s : Int), .int .i64 (z : Int)] 76).cells
      have HS2 := Lib.hid (hs.alloc (.cells #[.int .i64 (s : Int), .int .i64 (z : Int)] 76))
      clear hs hg e1 e2 e3 e4 hu hx
      by_cases hz : (x : Int) < (z : Int)
      · have HMX : Hid (max x z = z) := by unfold Hid; omega
        go_wp2_with fail
        go_roundw
        case rel => exact ⟨k + 1, HKM.out, by go_num, by rw [HWR.out, E1.out], (by rw [E2.out]; simp only; rw [HMX.out]; (try (congr 1; omega))), HS2.out⟩
        case measure => have := HKM.out; simp [intOf]; omega
      · have HMX : Hid (max x z = x) := by unfold Hid; omega
        go_wp2_with fail
        go_roundw
        case rel => exact ⟨k + 1, HKM.out, by go_num, by rw [HWR.out, E1.out], (by rw [E2.out]; simp only; rw [HMX.out]; (try (congr 1; omega))), HS2.out⟩
        case measure => have := HKM.out; simp [intOf]; omega
    · have hke : m = k := by omega
      subst hke
      have HS2 := Lib.hid (hs.after S1.out)
      have HT : Hid (G.take m = G) := by unfold Hid; rw [HM.out, List.take_length]
      clear hk hlt hs
      rw [HT.out]
      go_wp2_with fail
      go_ret2
      exact ⟨o, HO.out, by rw [← HG.out]; rfl, HS2.out⟩
end Go.Proofs.Ytlhocjoncblocaa
