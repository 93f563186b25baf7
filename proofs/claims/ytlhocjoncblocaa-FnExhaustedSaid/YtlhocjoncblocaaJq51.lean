/- The law FnExhausted. -/
import Derived.Test.YtlhocjoncblocaaJq41
import Derived.Test.YtlhocjoncblocaaJq43
import Derived.Test.YtlhocjoncblocaaJq46
import Derived.Test.YtlhocjoncblocaaJq49
import Derived.Test.YtlhocjoncblocaaJq50
namespace Go.Proofs.Ytlhocjoncblocaa
open Go.RowKit

theorem live_take {L : List Ls} {k : Nat} {x : Ls} (h : L[k]? = some x) : live (L.take (k + 1)) = live (L.take k) + (!x.free).toNat := by
  rw [take_snoc_of h]
  unfold live
  rw [List.countP_append, List.countP_singleton]
  cases x.free <;> simp

set_option maxRecDepth 100000 in
set_option maxHeartbeats 8000000 in
theorem law_exhausted (A : Option Addr) (n c : Nat) (w : World) (h : HasBy w.heap.size w A n) : Calls Try.prog 5 #[.slice A n c] w (Says w) := by
  by_cases hn : n ≤ 1048576
  · have HN := Lib.hid hn
    have HBy := Lib.hid h
    clear h hn
    have hn' : (n : Int) ≤ 1048576 := by have := HN.out; omega
    go_enter Try.func5, Try.ntmps5
    go_wp2_with fail
    refine (makePool_any A n c w HN.out HBy.out).mono ?_
    rintro _ w1 ⟨p, v, rfl, hv, hp, s1⟩
    obtain ⟨A1, q1, A2, q2, rfl⟩ := hp.form
    have HP := Lib.hid (PBox.new hp hv s1)
    have HPL := Lib.hid (show p.1.length ≤ 256 ∧ p.2.length ≤ 16 from ⟨hv.size, hv.most⟩)
    clear hv hp s1
    obtain ⟨T, hT⟩ : ∃ T, T = w1.heap.size := ⟨_, rfl⟩
    obtain ⟨N, hN⟩ : ∃ N, N = p.1.length := ⟨_, rfl⟩
    go_wp2_with fail
    rw [← hT] at HP ⊢
    clear hT
    generalize w1.alloc (.cells #[.slice A1 p.1.length q1, .slice A2 p.2.length q2] 26) = w2 at *
    refine (at_any w2.heap.size A n c 1 w2 (by omega) (by omega) HN.out (hasBy_spanP HBy.out HP.out.s)).mono ?_
    rintro _ _ ⟨⟨x, rfl, x0, x1⟩, rfl⟩
    go_upto_region 5 with fail
    obtain ⟨room, hroom⟩ : ∃ r : Nat, (1 : Int) + x % 20 = (r : Int) := ⟨(1 + x % 20).toNat, by omega⟩
    have HRM : Hid (1 ≤ room ∧ room ≤ 20) := by unfold Hid; omega
    rw [hroom]
    have r0 : (room : Int) ≤ 20 := by omega
    have HN0 := Lib.hid hN
    clear hroom x0 x1 hN
    have H0 : Hid (∃ (k : Nat) (p' : Pl) (B : Option Addr) (u : Nat) (B' : Option Addr) (u' : Nat), k ≤ 17 ∧ (0 : Nat) = k ∧ k ≤ live p'.2 ∧ p'.1.length = N ∧ PBox T w p' B u B' u' w2) := ⟨0, p, A1, q1, A2, q2, by omega, rfl, Nat.zero_le _, HN0.out.symm, HP.out⟩
    clear HP
    go_wp2_with fail
    go_loopw [5] (fun ci wr => ∃ (k : Nat) (p' : Pl) (B : Option Addr) (u : Nat) (B' : Option Addr) (u' : Nat), k ≤ 17 ∧ ci = .int .i64 (k : Int) ∧ k ≤ live p'.2 ∧ p'.1.length = N ∧ PBox T w p' B u B' u' wr) (fun ci _ => 17 - (intOf ci).toNat)
    case atStart =>
      obtain ⟨k, p', B, u, B', u', h1, h2, h3, h4, h5⟩ := H0.out
      exact ⟨k, p', B, u, B', u', h1, by rw [← h2]; rfl, h3, h4, h5⟩
    case round =>
      clear H0
      obtain ⟨k, p', B, u, B', u', hk, rfl, hlv, hlen, hb⟩ := hrel
      have HB := Lib.hid hb
      have HLV := Lib.hid hlv
      have HLN := Lib.hid hlen
      have hmax : live p'.2 ≤ 16 := Nat.le_trans (live_le _) hb.v.most
      have k16 : (k : Int) ≤ 16 := by omega
      have HK := Lib.hid (show k ≤ 16 by omega)
      obtain ⟨t0, t1⟩ := hb.b.two
      clear hb hlv hlen hk hmax
      go_wp2_with fail
      refine (impl_lendRoom p' room HRM.out.1 (by have := HRM.out; omega) _ _ _ wr HB.out.whole HB.out.v).mono ?_
      rintro e3 w3 ⟨he, s3⟩
      have HB3 := Lib.hid (HB.out.keep s3)
      obtain ⟨z0, z1⟩ := HB3.out.b.two
      cases hq : lendP p' room with
      | some QI =>
        obtain ⟨Q, id⟩ := QI
        rw [hq] at he
        obtain ⟨v3, rfl, hp3⟩ := he
        obtain ⟨A3, q3, A4, q4, rfl⟩ := hp3.form
        have HQ := Lib.hid hq
        have HVQ := Lib.hid (HB.out.v.lend HRM.out.1 hq)
        have X3 := Lib.hid (Bx.new w3 #[.slice A3 Q.1.length q3, .slice A4 Q.2.length q4] 26)
        have HB4 := Lib.hid (HB3.out.keep ((Span.refl 0 0 w3).alloc (.cells #[.slice A3 Q.1.length q3, .slice A4 Q.2.length q4] 26)))
        have HP4 := Lib.hid (hp3.span ((Span.refl 0 0 w3).alloc (.cells #[.slice A3 Q.1.length q3, .slice A4 Q.2.length q4] 26)) (.inl (Nat.le_refl _)))
        have HTW : Hid (T < wr.heap.size) := HB.out.b.1
        clear hq hp3 t0 t1 z0 z1 s3
        go_upto_region 9 with fail
        obtain ⟨N3, hN3⟩ : ∃ t, t = w3.heap.size := ⟨_, rfl⟩
        rw [← hN3] at X3 ⊢
        clear hN3
        generalize w3.alloc (.cells #[.slice A3 Q.1.length q3, .slice A4 Q.2.length q4] 26) = w4 at *
        obtain ⟨y0, y1⟩ := X3.out.two
        obtain ⟨z0, z1⟩ := HB4.out.b.two
        have f0 := HB4.out.b.thaw 0
        have f1 := HB4.out.b.thaw 1
        have HST := Lib.hid (HB4.out.store HVQ.out.1 HP4.out HTW.out)
        go_wp2_with fail
        go_roundw
        case rel => exact ⟨k + 1, Q, A3, q3, A4, q4, by have := HK.out; omega, by go_num, by rw [lendP_live HQ.out]; have := HLV.out; omega, by rw [HVQ.out.2.1]; exact HLN.out, HST.out⟩
        case measure => have := HK.out; simp [intOf]; omega
      | none =>
        rw [hq] at he
        obtain rfl := he
        have HNO := Lib.hid hq
        have HB4 := Lib.hid (HB3.out.keep ((Span.refl 0 0 w3).alloc (.cells #[.slice none 0 0, .slice none 0 0] 26)))
        clear hq s3 t0 t1 z0 z1
        go_upto_region 11 with fail
        generalize w3.alloc (.cells #[.slice none 0 0, .slice none 0 0] 26) = w4 at *
        obtain ⟨z0, z1⟩ := HB4.out.b.two
        have l16 : (p'.2.length : Int) ≤ 16 := by have := HB4.out.v.most; omega
        clear HB HB3 HLV HK
        go_wp2_with fail
        clear z0 z1
        go_loopw [9, 45] (fun cl ck wr => ∃ k2 : Nat, k2 ≤ p'.2.length ∧ ck = .int .i64 (k2 : Int) ∧ cl = .int .i64 (live (p'.2.take k2) : Int) ∧ PBox T w p' B u B' u' wr) (fun _ ck _ => p'.2.length - (intOf ck).toNat)
        case atStart => exact ⟨0, Nat.zero_le _, rfl, rfl, HB4.out⟩
        case round =>
          clear HB4
          obtain ⟨k2, hk2, rfl, rfl, hb⟩ := hrel
          have HB := Lib.hid hb
          by_cases hlt : k2 < p'.2.length
          · obtain ⟨x, hx⟩ := getElem?_some (xs := p'.2) (j := k2) hlt
            obtain ⟨b, off, rfl, l0, l1, l2, l3⟩ := hb.at_ hx
            have hlk := live_take hx
            have hlm : live (p'.2.take k2) ≤ 16 := Nat.le_trans (live_le _) (by rw [List.length_take]; have := hb.v.most; omega)
            obtain ⟨lv, hlv⟩ : ∃ lv, lv = live (p'.2.take k2) := ⟨_, rfl⟩
            rw [← hlv] at hlk hlm ⊢
            have lv16 : (lv : Int) ≤ 16 := by omega
            have HLK := Lib.hid hlk
            have HK2 := Lib.hid hlt
            have i0 : (0 : Int) ≤ (k2 : Int) := by omega
            have i1 : (k2 : Int) < (p'.2.length : Int) := by omega
            obtain ⟨s, c', r, fr⟩ := x
            simp only at l0 l1 l2 l3 HLK
            have HB5 := Lib.hid (HB.out.keep ((Span.refl 0 0 wr).alloc (.cells #[.int .i64 (s : Int), .int .i64 (c' : Int), .int .i64 (r : Int), .bool fr] 30)))
            have cl := (Bx.new wr #[.int .i64 (s : Int), .int .i64 (c' : Int), .int .i64 (r : Int), .bool fr] 30).cells
            clear hb hx hlk hlm hlv hlt hk2
            cases fr with
            | true =>
              simp only [Bool.not_true, Bool.toNat_false, Nat.add_zero] at HLK
              go_wp2_with fail
              go_roundw
              case rel => exact ⟨k2 + 1, HK2.out, by go_num, by rw [HLK.out], HB5.out⟩
              case measure => have := HK2.out; simp [intOf]; omega
            | false =>
              simp only [Bool.not_false, Bool.toNat_true] at HLK
              go_wp2_with fail
              go_roundw
              case rel => exact ⟨k2 + 1, HK2.out, by go_num, by rw [HLK.out]; go_num, HB5.out⟩
              case measure => have := HK2.out; simp [intOf]; omega
          · have hke : k2 = p'.2.length := by omega
            subst hke
            rw [List.take_length]
            obtain ⟨z0, z1⟩ := hb.b.two
            clear hb hk2 hlt
            go_wp2_with fail
            refine (freeRoom_valid p' _ _ _ wr HB.out.whole HB.out.v).mono ?_
            rintro _ w5 ⟨o, ho, rfl, s5⟩
            have HCASE := Lib.hid (HB.out.v.lend_none ho HRM.out.1 HNO.out)
            obtain ⟨g, hg⟩ : ∃ g, g = maxG (gapsX 0 (pickL p'.2 o) p'.1.length) := ⟨_, rfl⟩
            rw [← hg] at HCASE ⊢
            obtain ⟨lv, hlv⟩ : ∃ lv, lv = live p'.2 := ⟨_, rfl⟩
            rw [← hlv] at HCASE ⊢
            have HB5 := Lib.hid (HB.out.keep s5)
            clear ho hg hlv s5 z0 z1 HB HNO
            obtain ⟨z0, z1⟩ := HB5.out.b.two
            go_upto_region 19 with fail
            go_cut [71] (fun s71 wx => s71 = .bool false ∧ PBox T w p' B u B' u' wx)
            case first =>
              go_wp2_with fail
              refine (spec_isPool_true p' _ _ _ w5 HB5.out.whole HB5.out.v).mono ?_
              rintro _ w6 ⟨rfl, s6⟩
              have HB6 := Lib.hid (HB5.out.keep s6)
              clear s6 z0 z1
              rcases HCASE.out with hc | hc
              · have c1 : ¬ (room : Int) ≤ (g : Int) := by omega
                clear hc
                go_wp2_with fail
                all_goals
                  go_meet
                  first | exact ⟨rfl, HB6.out⟩ | exact ⟨congrArg Value.bool (decide_eq_false (by omega)), HB6.out⟩
              · have c2 : ¬ (lv : Int) < 16 := by omega
                clear hc
                go_wp2_with fail
                all_goals
                  go_meet
                  first | exact ⟨rfl, HB6.out⟩ | exact ⟨congrArg Value.bool (decide_eq_false (by omega)), HB6.out⟩
            case rest =>
              obtain ⟨rfl, hb⟩ := hcut
              have HB6 := Lib.hid hb
              obtain ⟨z0, z1⟩ := hb.b.two
              clear hb HB5 HCASE
              go_wp2_with fail
              clear z0 z1
              go_loopw [75] (fun ck wr => ∃ (k3 : Nat) (P : Pl) (C : Option Addr) (v : Nat) (C' : Option Addr) (v' : Nat), k3 ≤ p'.2.length ∧ ck = .int .i64 (k3 : Int) ∧ P.2.length = p'.2.length ∧ P.1.length = N ∧ (∀ j x, j < k3 → P.2[j]? = some x → x.free = true) ∧ PBox T w P C v C' v' wr) (fun ck _ => p'.2.length - (intOf ck).toNat)
              case atStart => exact ⟨0, p', B, u, B', u', Nat.zero_le _, rfl, rfl, HLN.out, fun j x hj => absurd hj (by omega), HB6.out⟩
              case round =>
                clear HB6
                obtain ⟨k3, P, C, v, C', v', hk3, rfl, hpl, hpn, hfr, hb⟩ := hrel
                have HB := Lib.hid hb
                have HPL2 := Lib.hid hpl
                have HPN := Lib.hid hpn
                have HFR := Lib.hid hfr
                obtain ⟨z0, z1⟩ := hb.b.two
                by_cases hlt : k3 < p'.2.length
                · obtain ⟨x, hx⟩ := getElem?_some (xs := P.2) (j := k3) (by rw [hpl]; exact hlt)
                  obtain ⟨b, off, rfl, l0, l1, l2, l3⟩ := hb.at_ hx
                  have HX := Lib.hid hx
                  have HK3 := Lib.hid hlt
                  have i0 : (0 : Int) ≤ (k3 : Int) := by omega
                  have i1 : (k3 : Int) < (P.2.length : Int) := by omega
                  have i2 : (k3 : Int) < (p'.2.length : Int) := by omega
                  clear hb hx hlt hk3 hpl hpn hfr l0 l1 l2
                  cases hf : x.free with
                  | true =>
                    rw [hf] at l3
                    have HF := Lib.hid hf
                    clear hf
                    go_wp2_with fail
                    go_roundw
                    case rel =>
                      refine ⟨k3 + 1, P, C, v, _, v', HK3.out, by go_num, HPL2.out, HPN.out, fun j y hj hy => ?_, HB.out⟩
                      by_cases e : j = k3
                      · subst e; rw [HX.out] at hy; cases hy; exact HF.out
                      · exact HFR.out j y (by omega) hy
                    case measure => have := HK3.out; simp [intOf]; omega
                  | false =>
                    rw [hf] at l3
                    have HGV : Hid (giveP P k3 = some (P.1, P.2.set k3 freeL)) := by unfold Hid giveP; rw [lentAt_eq HX.out hf]; rfl
                    have HVG := Lib.hid (HB.out.v.give HGV.out)
                    have HLS : Hid ((P.2.set k3 freeL).length = P.2.length) := List.length_set ..
                    clear hf
                    go_wp2_with fail
                    refine (impl_giveBack P k3 _ _ _ wr HB.out.whole HB.out.v (by have := HK3.out; have := HB.out.v.most; have := HPL2.out; omega)).mono ?_
                    rintro e7 w7 ⟨he, s7⟩
                    rw [HGV.out] at he
                    obtain ⟨v7, rfl, hp7⟩ := he
                    obtain ⟨A7, q7, A8, q8, rfl⟩ := hp7.form
                    simp only at hp7 ⊢
                    rw [HLS.out] at hp7 ⊢
                    have HB7 := Lib.hid (HB.out.keep s7)
                    have X7 := Lib.hid (Bx.new w7 #[.slice A7 P.1.length q7, .slice A8 P.2.length q8] 26)
                    have HB8 := Lib.hid (HB7.out.keep ((Span.refl 0 0 w7).alloc (.cells #[.slice A7 P.1.length q7, .slice A8 P.2.length q8] 26)))
                    have HP8 := Lib.hid (hp7.span ((Span.refl 0 0 w7).alloc (.cells #[.slice A7 P.1.length q7, .slice A8 P.2.length q8] 26)) (.inl (Nat.le_refl _)))
                    have HTW : Hid (T < wr.heap.size) := HB.out.b.1
                    clear hp7 s7 z0 z1 l3
                    go_upto_region 26 with fail
                    obtain ⟨N7, hN7⟩ : ∃ t, t = w7.heap.size := ⟨_, rfl⟩
                    rw [← hN7] at X7 ⊢
                    clear hN7
                    generalize w7.alloc (.cells #[.slice A7 P.1.length q7, .slice A8 P.2.length q8] 26) = w8 at *
                    obtain ⟨y0, y1⟩ := X7.out.two
                    obtain ⟨z0, z1⟩ := HB8.out.b.two
                    have f0 := HB8.out.b.thaw 0
                    have f1 := HB8.out.b.thaw 1
                    have HST := Lib.hid (HB8.out.store (r := (P.1, P.2.set k3 freeL)) (B := A7) (u := q7) (B' := A8) (u' := q8) HVG.out.1 (by rw [show (P.1, P.2.set k3 freeL).2.length = P.2.length from HLS.out]; exact HP8.out) HTW.out)
                    rw [show (P.1, P.2.set k3 freeL).2.length = P.2.length from HLS.out] at HST
                    go_wp2_with fail
                    go_roundw
                    case rel =>
                      refine ⟨k3 + 1, (P.1, P.2.set k3 freeL), A7, q7, A8, q8, HK3.out, by go_num, by rw [← HPL2.out]; exact HLS.out, HPN.out, fun j y hj hy => ?_, HST.out⟩
                      by_cases e : j = k3
                      · subst e
                        rw [List.getElem?_set_self (by have := HK3.out; rw [HPL2.out]; exact this)] at hy
                        cases hy; rfl
                      · rw [List.getElem?_set_ne (Ne.symm e)] at hy
                        exact HFR.out j y (by omega) hy
                    case measure => have := HK3.out; simp [intOf]; omega
                · have hke : k3 = p'.2.length := by omega
                  subst hke
                  have HALL : Hid (∀ x ∈ P.2, x.free = true) := fun x hx => by
                    obtain ⟨j, hj⟩ := List.mem_iff_getElem?.1 hx
                    exact hfr j x (by rw [← hpl]; exact (List.getElem?_eq_some_iff.1 hj).1) hj
                  clear hb hlt hk3 hpl hpn hfr
                  go_wp2_with fail
                  refine (impl_compactPool P _ _ _ wr HB.out.whole HB.out.v).mono ?_
                  rintro _ w7 ⟨o, v7, ho, rfl, hp7, s7⟩
                  have hon : o = [] := by
                    rw [List.eq_nil_iff_forall_not_mem]
                    intro i hi
                    obtain ⟨x, hx, hf⟩ := ho.mem.1 hi
                    rw [HALL.out x (List.mem_of_getElem? hx)] at hf
                    cases hf
                  have HVC := Lib.hid (HB.out.v.comp ho)
                  have HSZ := Lib.hid (compP_sizes HB.out.v ho)
                  have HCF : Hid (∀ x ∈ (compP P o).2, x.free = true) := by
                    subst hon
                    exact HALL.out
                  have HB7 := Lib.hid (HB.out.keep s7)
                  have HP7 := Lib.hid hp7
                  clear ho hp7 s7 hon z0 z1
                  go_wp2_with fail
                  refine (freeRoom_valid (compP P o) _ _ _ w7 HP7.out HVC.out).mono ?_
                  rintro _ w8 ⟨o', ho', rfl, s8⟩
                  rw [gaps_one ho' HCF.out, HSZ.out.1]
                  have HB8 := Lib.hid (HB7.out.keep s8)
                  have e1 : sumG [((0 : Nat), P.1.length)] = P.1.length := by simp [sumG]
                  have e2 : maxG [((0 : Nat), P.1.length)] = P.1.length := by simp [maxG]
                  rw [e1, e2]
                  obtain ⟨z0, z1⟩ := HB8.out.b.two
                  clear ho' s8 e1 e2
                  go_wp2_with fail
                  go_ret
                  exact ⟨rfl, HB8.out.s.to_below (.inl (Nat.le_refl _))⟩
  · have hn' : (1048576 : Int) < (n : Int) := by omega
    go_enter Try.func5, Try.ntmps5
    go_wp2
    go_ret
    exact ⟨rfl, Below.refl _ _⟩
end Go.Proofs.Ytlhocjoncblocaa
