/- FnSums. -/
import Derived.Test.YtmdmfkdmgmcbpaaF1
import Derived.Outline
namespace Go.Proofs.Ytmdmfkdmgmcbpaa
open Ieee Go.RowKit

def quoB (p : Int) : Bool := match floatBits .quo .f32 (fi p) 1077936128 with
  | some z => decide (z < 4294967296) && (rungOf Ieee.single z == 0 || (decide (1048576000 ≤ rungOf Ieee.single z) && decide (rungOf Ieee.single z ≤ 1135017984)))
  | none => false
theorem quo_all : ((List.range 2001).all fun i => quoB ((i : Int) - 1000)) = true := by decide +kernel

theorem at_rung {z : Nat} (hz : z < 4294967296) (h : rungOf Ieee.single z = 0 ∨ (1048576000 ≤ rungOf Ieee.single z ∧ rungOf Ieee.single z ≤ 1135017984)) : ∃ A : Int, At z A ∧ A.natAbs < 2 ^ 34 := by
  have hfin : rungOf Ieee.single z < Ieee.single.infRung := by rw [s_inf]; omega
  have hu := isU_of_rung hz hfin
  generalize negOf Ieee.single z = s at hu
  have key : ∀ U : Nat, isU Ieee.single z s (U * 2 ^ 124) → U < 2 ^ 34 → ∃ A : Int, At z A ∧ A.natAbs < 2 ^ 34 := by
    intro U hU hlt
    obtain ⟨K, hK⟩ : ∃ K, K = 2 ^ 124 := ⟨_, rfl⟩
    rw [← hK] at hU
    cases s with
    | false =>
      have e4 : ((U : Int)).natAbs = U := by omega
      exact ⟨(U : Int), at_of hK (neg := false) (by rw [e4]; exact hU) (by rw [e4]; simp [sgn, Int.natCast_mul]), by rw [e4]; exact hlt⟩
    | true =>
      have e4 : (-(U : Int)).natAbs = U := by omega
      exact ⟨-(U : Int), at_of hK (neg := true) (by rw [e4]; exact hU) (by rw [e4]; simp [sgn, Int.natCast_mul, Int.neg_mul]), by rw [e4]; exact hlt⟩
  rcases h with h | ⟨h1, h2⟩
  · rw [h] at hu
    have e : units Ieee.single 0 = 0 * 2 ^ 124 := by rw [Nat.zero_mul]; decide +kernel
    rw [e] at hu
    exact key 0 hu (Nat.two_pow_pos _)
  · generalize rungOf Ieee.single z = r at *
    have e : units Ieee.single r = (8388608 + r % 8388608) * 2 ^ (r / 8388608 - 1) := by
      unfold units; rw [s_bin, if_neg (by omega)]
    have e2 : r / 8388608 - 1 = (r / 8388608 - 125) + 124 := by omega
    rw [e, e2, Nat.pow_add, ← Nat.mul_assoc] at hu
    refine key _ hu ?_
    have h3 : 2 ^ (r / 8388608 - 125) ≤ 2 ^ 10 := Nat.pow_le_pow_right (by decide) (by omega)
    have h4 : 8388608 + r % 8388608 < 2 ^ 24 := by omega
    calc (8388608 + r % 8388608) * 2 ^ (r / 8388608 - 125) ≤ (8388608 + r % 8388608) * 2 ^ 10 := Nat.mul_le_mul_left _ h3
      _ < 2 ^ 24 * 2 ^ 10 := Nat.mul_lt_mul_of_pos_right h4 (by decide)
      _ = 2 ^ 34 := by decide

theorem quo_at {p : Int} (hp : p.natAbs ≤ 1000) : ∃ z A, floatBits .quo .f32 (fi p) 1077936128 = some z ∧ At z A ∧ A.natAbs < 2 ^ 34 := by
  have h := quo_all
  rw [List.all_eq_true] at h
  have h1 := h (p + 1000).toNat (by simp; omega)
  rw [show (((p + 1000).toNat : Nat) : Int) - 1000 = p by omega] at h1
  unfold quoB at h1
  split at h1
  · rename_i z hz
    simp only [Bool.and_eq_true, Bool.or_eq_true, decide_eq_true_eq, beq_iff_eq] at h1
    obtain ⟨A, hA, hlt⟩ := at_rung h1.1 h1.2
    exact ⟨z, A, hz, hA, hlt⟩
  · cases h1

theorem kilo : fi 1024 = 1149239296 := by decide +kernel

theorem at_fi {b : Int} (hb : b.natAbs < 16777216) : At (fi b) (33554432 * b) := by
  have h := isU_fi hb
  have e : b.natAbs * 2 ^ 149 = (33554432 * b).natAbs * 2 ^ 124 := by
    rw [Int.natAbs_mul]
    show _ = 2 ^ 25 * b.natAbs * 2 ^ 124
    rw [pow_move]
  obtain ⟨K, hK⟩ : ∃ K, K = 2 ^ 124 := ⟨_, rfl⟩
  rw [e, ← hK] at h
  refine at_of hK h ?_
  have hd : decide (b < 0) = decide (33554432 * b < 0) := by rw [Bool.eq_iff_iff]; simp; omega
  rw [hd]
  exact sgn_scaled _ _

theorem mul_at {q : Int} (hq : q.natAbs ≤ 1000) : ∃ z B, floatBits .mul .f32 (fi q) 1149239296 = some z ∧ At z B ∧ (B = 0 ∨ (2 ^ 35 ≤ B.natAbs ∧ B.natAbs < 2 ^ 45 ∧ ∃ k, B = 2048 * k)) := by
  have h := mul_fi_some (a := q) (b := 1024) (by omega) (by decide) (by omega) (by omega)
  rw [kilo] at h
  refine ⟨_, _, h, at_fi (by omega), ?_⟩
  by_cases h0 : q = 0
  · left; subst h0; rfl
  · right
    refine ⟨by omega, by omega, ⟨16384 * (q * 1024), by omega⟩⟩

theorem nan_at {x : Nat} {N : Int} (h : At x N) : nanB .f32 x = false := by
  obtain ⟨s, h1, _⟩ := h
  obtain ⟨m, g, h, _⟩ := read_isU h1
  show (Ieee.single.read _).isNaN = false
  rw [h]; rfl

/-- The widened number is the same in all worlds. -/
theorem widen_at {x : Nat} {N : Int} (h : At x N) : ∃ d, (∀ w, fCv .f32 .f64 x w = d) ∧ fCd .f32 .f64 x = 0 ∧ ∀ _ : World, DAt 1049 d N := by
  obtain ⟨d, hd⟩ := widen_some (nan_at h)
  obtain ⟨c1, c2⟩ := cv_of hd
  exact ⟨d, c1, c2, fun w => by rw [← c1 w]; exact dat_at h w⟩

theorem dat_nan {k x : Nat} {N : Int} (h : DAt k x N) : nanB .f64 x = false := by
  obtain ⟨s, h1, _⟩ := h
  obtain ⟨m, g, h, _⟩ := read_isU h1
  show (Ieee.double.read _).isNaN = false
  rw [h]; rfl

theorem fe_eq {k : FloatKind} {a b : Nat} (h : FE k a b) (hn : nanB k b = false) : a = b := by
  rcases h with h | ⟨_, h⟩
  · exact h
  · rw [hn] at h; cases h

set_option maxRecDepth 100000 in
set_option maxHeartbeats 4000000 in
theorem law_sums (A : Option Addr) (n c : Nat) (w : World) (h : HasBy w.heap.size w A n) : Calls Try.prog 3 #[.slice A n c] w (Says w) := by
  by_cases hn : n ≤ 1048576
  · have HN := Lib.hid hn
    have HBy := Lib.hid h
    clear h hn
    have hn' : (n : Int) ≤ 1048576 := by have := HN.out; omega
    go_enter Try.func3, Try.ntmps3
    go_wp2_with fail
    refine (makeList_any A n c w HN.out HBy.out).mono ?_
    rintro _ w1 ⟨v, qs, b, rfl, hsm, hl, hb⟩
    have HSM := Lib.hid hsm
    have HL := Lib.hid hl
    have HB := Lib.hid hb
    have HF := Lib.hid (hasF_of hl)
    obtain ⟨A1, c1, rfl, hcap, -⟩ := id hl
    obtain ⟨len, hlen⟩ : ∃ len, len = (fis qs).length := ⟨_, rfl⟩
    have HLE := Lib.hid hlen
    have h20 : len ≤ 20 := by rw [hlen]; simpa [fis] using hsm.1
    rw [← hlen] at HL HF hcap ⊢
    clear hsm hl hb hlen
    go_wp2_with fail
    go_loopw [4] (fun q wr => ∃ i e : Nat, 1 ≤ i ∧ (i ≤ len ∨ i = 1) ∧ q = .int .i64 i ∧ wr = w1.drewN e) (fun q _ => 30 - (intOf q).toNat)
    case atStart => exact ⟨1, 0, by omega, .inr rfl, rfl, rfl⟩
    case round =>
      obtain ⟨i, e, hi, hi2, rfl, rfl⟩ := hrel
      by_cases hlt : i < len
      · obtain ⟨p, hp⟩ := getElem?_some (xs := qs) (j := i - 1) (by have := HLE.out; simp [fis] at this; omega)
        obtain ⟨q, hq⟩ := getElem?_some (xs := qs) (j := i) (by have := HLE.out; simp [fis] at this; omega)
        have hp1 := HSM.out.2 p (List.mem_of_getElem? hp)
        have hq1 := HSM.out.2 q (List.mem_of_getElem? hq)
        obtain ⟨off, rfl⟩ := HL.out.addr (by rw [← HLE.out]; omega)
        have k1 : w1.cell? ⟨b, off + (i - 1), none⟩ = some (.float .f32 (fi p)) := HL.out.at_ (by rw [fis, List.getElem?_map, hp]; rfl)
        have k2 : w1.cell? ⟨b, off + i, none⟩ = some (.float .f32 (fi q)) := HL.out.at_ (by rw [fis, List.getElem?_map, hq]; rfl)
        have it : ((i : Int) - 1).toNat = i - 1 := by omega
        have i1 : (1 : Int) ≤ (i : Int) := by omega
        obtain ⟨a, NA, qa, wa, la⟩ := quo_at hp1
        obtain ⟨bb, NB, qb, wb, lb⟩ := mul_at hq1
        obtain ⟨S, ts, ws, we, ls⟩ := twoSum_exact wa wb la lb
        have LA := Lib.hid la
        have LB : Hid (NB.natAbs < 2 ^ 45) := by unfold Hid; rcases lb with h | ⟨_, h, _⟩ <;> omega
        have LS := Lib.hid ls
        obtain ⟨f1, f2⟩ := ar_of qa
        obtain ⟨f3, f4⟩ := ar_of qb
        obtain ⟨f5, f6⟩ := ar_of ts
        have HWS := Lib.hid ws
        have HWE := Lib.hid we
        have HWA := Lib.hid wa
        have HWB := Lib.hid wb
        generalize fi p = x at k1 f1 f2
        generalize fi q = y at k2 f3 f4
        clear hp hq hp1 hq1 qa wa la qb wb lb ts ws we ls
        go_wp2_with fail
        refine (impl_twoSum a bb _).mono ?_
        rintro _ _ ⟨s', r', m', rfl, rfl, hs', hr'⟩
        have es : s' = fC .add .f32 a bb := fe_eq hs' (nan_at HWS.out)
        have er : r' = lostC a bb := fe_eq hr' (nan_at HWE.out)
        rw [es, er]
        clear hs' hr' es er
        have HWS' := HWS.out
        have HWE' := HWE.out
        generalize fC .add .f32 a bb = s at f5 HWS'
        generalize lostC a bb = r at HWE'
        obtain ⟨ds, cs1, cs2, cs3⟩ := widen_at HWS'
        obtain ⟨dr, cr1, cr2, cr3⟩ := widen_at HWE'
        obtain ⟨da, ca1, ca2, ca3⟩ := widen_at HWA.out
        obtain ⟨db, cb1, cb2, cb3⟩ := widen_at HWB.out
        have hla := LA.out
        have hlb := LB.out
        have hls := LS.out
        obtain ⟨z1, q1, y1⟩ := dat_add (cs3 w) (cr3 w) (by omega) (by omega)
        obtain ⟨z2, q2, y2⟩ := dat_add (ca3 w) (cb3 w) (by omega) (by omega)
        have eN : S + (NA + NB - S) = NA + NB := by omega
        rw [eN] at y1
        have o1 : FloatKind.f64.format.order z1 z2 = some .eq := by rw [dat_order y1 y2, (cmp_eq).2 rfl]
        have o2 : FloatKind.f32.format.order s s = some .eq := by rw [order_self, nan_at HWS']; rfl
        obtain ⟨t1, t2⟩ := ar_of q1
        obtain ⟨t3, t4⟩ := ar_of q2
        clear cs3 cr3 ca3 cb3 q1 q2 y1 y2 eN HWS' HWE' hla hlb hls
        go_wp2_with fail
        go_roundw
        case rel => exact ⟨i + 1, _, by omega, .inl (by omega), by go_num, rfl⟩
        case measure => simp [intOf]; omega
      · have HE := Lib.hid (HF.out.drewN e)
        go_wp2_with fail
        refine (impl_sumForward (fis qs) _ _ (HF.out.drewN _) (by rw [← HLE.out]; omega)).mono ?_
        rintro _ _ ⟨r1, m1, rfl, rfl, hr1⟩
        have e1 := fe_eq hr1 (nan_whole (sumF_whole qs HSM.out))
        have w1' : Hid (Whole r1 (sumI qs)) := by unfold Hid; rw [e1]; exact sumF_whole qs HSM.out
        clear hr1 e1
        go_wp2_with fail
        refine (impl_sumPairs (fis qs).length (fis qs) _ _ (HF.out.drewN _) (by rw [← HLE.out]; omega) (Nat.le_refl _)).mono ?_
        rintro _ _ ⟨r2, m2, rfl, rfl, hr2⟩
        have wp := pairs_whole (fis qs).length qs HSM.out (by simp [fis])
        have e2 := fe_eq hr2 (nan_whole wp)
        have o1 : FloatKind.f32.format.order r2 r1 = some .eq := by rw [e2, order_whole wp w1'.out, (cmp_eq).2 rfl]
        clear hr2 e2 wp
        go_wp2_with fail
        refine (impl_sumSteady (fis qs) _ _ (HF.out.drewN _) (by rw [← HLE.out]; omega)).mono ?_
        rintro _ _ ⟨r3, m3, rfl, rfl, hr3⟩
        have wst := (steady_whole qs HSM.out).1
        have e3 := fe_eq hr3 (nan_whole wst)
        have o2 : FloatKind.f32.format.order r3 r1 = some .eq := by rw [e3]; exact (order_whole wst w1'.out).trans (by rw [(cmp_eq).2 rfl])
        clear hr3 e3 wst
        go_wp2_with fail
        refine (impl_sumDouble (fis qs) _ _ (HF.out.drewN _) (by rw [← HLE.out]; omega)).mono ?_
        rintro _ _ ⟨r4, m4, rfl, rfl, hr4⟩
        have wd := sumD_whole w qs HSM.out
        have e4 := fe_eq hr4 (dat_nan wd)
        obtain ⟨d1, hd1⟩ := widen_some (nan_whole w1'.out)
        obtain ⟨c1', c2'⟩ := cv_of hd1
        have wd1 := dat_whole w1'.out w
        rw [c1' w] at wd1
        have o3 : FloatKind.f64.format.order r4 d1 = some .eq := by rw [e4, dat_order wd wd1, (cmp_eq).2 rfl]
        clear hr4 e4 wd hd1 wd1
        go_wp2_with fail
        go_ret
        exact ⟨rfl, Below.drewN HB.out _⟩
  · have hgt : 1048576 < n := by omega
    clear h hn
    go_enter Try.func3, Try.ntmps3
    go_wp2_with fail
    go_ret
    exact ⟨rfl, Below.refl _ _⟩

end Go.Proofs.Ytmdmfkdmgmcbpaa
