/- The law FnLent. -/
import Derived.Test.YtlhocjoncblocaaJq54
import Derived.Test.YtlhocjoncblocaaJq43
import Derived.Test.YtlhocjoncblocaaJq55
import Derived.Test.YtlhocjoncblocaaJq41
import Derived.Test.YtlhocjoncblocaaJq47
import Derived.Test.YtlhocjoncblocaaJq56
import Derived.Deep.RegionHeld3
import Derived.BigQuiet
import Derived.Deep.DeepCutAuto
namespace Go.Proofs.Ytlhocjoncblocaa
open Go.RowKit

theorem winP_lt {p : Pl} {id : Nat} {xs : List Cx} (h : winP p id = some xs) : id < p.2.length := by
  unfold winP at h
  rw [Option.map_eq_some_iff] at h
  obtain ⟨x, hx, _⟩ := h
  exact (List.getElem?_eq_some_iff.1 (lentAt_some hx).1).1
theorem winP_le {p : Pl} {id : Nat} {xs : List Cx} (hv : VP p) (h : winP p id = some xs) : xs.length ≤ 256 := by
  unfold winP at h
  rw [Option.map_eq_some_iff] at h
  obtain ⟨x, hx, rfl⟩ := h
  have := hv.size
  simp
  omega

/-- What is cut. -/
def CutRel (p : Pl) (k cc T : Nat) (w : World) (P1 : Option Addr) (c1 : Nat) (P2 : Option Addr) (c2 : Nat) (s21 s22 s23 : Value) (wx : World) : Prop :=
  ∃ (Q : Pl) (id N : Nat) (A : Option Addr) (c : Nat) (A' : Option Addr) (c' : Nat), s21 = .pointer (some ⟨N, 0, none⟩) ∧ s22 = .int .i64 (id : Int) ∧ s23 = .bool (cutP p k cc).isSome ∧ ((∀ q r, cutP p k cc = some (q, r) → q = Q ∧ r = id) ∧ (cutP p k cc = none → id = 0)) ∧ PBox T w p P1 c1 P2 c2 wx ∧ PBox N w Q A c A' c' wx

set_option maxRecDepth 100000 in
set_option maxHeartbeats 8000000 in
theorem law_lent (A : Option Addr) (n c : Nat) (w : World) (h : HasBy w.heap.size w A n) : Calls Try.prog 4 #[.slice A n c] w (Says w) := by
  by_cases hn : n ≤ 1048576
  · have HN := Lib.hid hn
    have HBy := Lib.hid h
    obtain ⟨v3, v30, v31, hat3⟩ := at_fix A n c 3 w (by omega) (by omega) hn h
    obtain ⟨cc, hcc⟩ : ∃ cc : Nat, (1 : Int) + v3 % 4 = (cc : Int) := ⟨(1 + v3 % 4).toNat, by omega⟩
    have HCC : Hid (IntKind.i64.wrap (1 + v3.tmod 4) = (cc : Int)) := by
      unfold Hid
      rw [Int.tmod_eq_emod_of_nonneg v30, IntWalk.i64_in _ (by omega)]
      exact hcc
    have HCC4 : Hid (1 ≤ cc ∧ cc ≤ 4) := by unfold Hid; omega
    have HAT3 := Lib.hid hat3
    obtain ⟨ip, hip, hzp, hsp, hbp⟩ := info_parts info_c64
    have v32 : (0 : Int) ≤ v3 := v30
    clear h hn hat3 hcc v30
    have hn' : (n : Int) ≤ 1048576 := by have := HN.out; omega
    go_enter Try.func4, Try.ntmps4
    go_wp2_with fail
    refine (makePool_any A n c w HN.out HBy.out).mono ?_
    rintro _ w1 ⟨p, v, rfl, hv, hp, s1⟩
    obtain ⟨A1, q1, A2, q2, rfl⟩ := hp.form
    have HP := Lib.hid (PBox.new hp hv s1)
    clear hv hp s1
    obtain ⟨T, hT⟩ : ∃ T, T = w1.heap.size := ⟨_, rfl⟩
    go_wp2_with fail
    rw [← hT] at HP ⊢
    clear hT
    generalize w1.alloc (.cells #[.slice A1 p.1.length q1, .slice A2 p.2.length q2] 26) = w2 at *
    refine (at_any w2.heap.size A n c 1 w2 (by omega) (by omega) HN.out (hasBy_spanP HBy.out HP.out.s)).mono ?_
    rintro _ _ ⟨⟨x, rfl, x0, x1⟩, rfl⟩
    go_upto_region 5 with fail
    obtain ⟨room, hroom⟩ : ∃ r : Nat, (1 : Int) + x % 9 = (r : Int) := ⟨(1 + x % 9).toNat, by omega⟩
    have HRM : Hid (1 ≤ room ∧ room ≤ 9) := by unfold Hid; omega
    rw [hroom]
    have r0 : (room : Int) ≤ 9 := by omega
    obtain ⟨t0, t1⟩ := HP.out.b.two
    clear hroom x0 x1
    go_wp2_with fail
    refine (spec_freeRoom p _ _ _ w2 HP.out.whole HP.out.v).mono ?_
    rintro _ w3 ⟨rfl, s3⟩
    have HP3 := Lib.hid (HP.out.keep s3)
    obtain ⟨best, hbest⟩ : ∃ b, b = bestR p.2 p.1.length := ⟨_, rfl⟩
    have HBEST := Lib.hid hbest
    rw [← hbest]
    generalize freeR p.2 p.1.length = fr0
    clear s3 hbest t0 t1 HP
    obtain ⟨t0, t1⟩ := HP3.out.b.two
    go_wp2_with fail
    refine (impl_lendRoom p room HRM.out.1 (by have := HRM.out; omega) _ _ _ w3 HP3.out.whole HP3.out.v).mono ?_
    intro e4 w4 h4
    obtain ⟨Q, id, B1, u1, B2, u2, rfl, hQ, hvQ, hpQ, s4⟩ := h4.ok (fun q r hq => (HP3.out.v.lend HRM.out.1 hq).1)
    obtain ⟨b, hb⟩ : ∃ b, b = (lendP p room).isSome := ⟨_, rfl⟩
    have HBB := Lib.hid hb
    rw [← hb]
    have HQ := Lib.hid hQ
    have HP4 := Lib.hid (HP3.out.keep s4)
    have HQ4 := Lib.hid (PBox.new (hpQ.weak HP3.out.s.size (.inl (Nat.le_refl _))) hvQ HP4.out.s)
    have HP5 := Lib.hid (HP4.out.keep ((Span.refl 0 0 w4).alloc (.cells #[.slice B1 Q.1.length u1, .slice B2 Q.2.length u2] 26)))
    clear h4 hQ hvQ hpQ s4 hb t0 t1 HP3
    go_upto_region 7 with fail
    obtain ⟨NQ, hNQ⟩ : ∃ t, t = w4.heap.size := ⟨_, rfl⟩
    rw [← hNQ] at HQ4 ⊢
    clear hNQ HP4
    generalize w4.alloc (.cells #[.slice B1 Q.1.length u1, .slice B2 Q.2.length u2] 26) = w5 at *
    obtain ⟨t0, t1⟩ := HP5.out.b.two
    go_wp2_with fail
    refine (spec_lendRoom p room _ _ _ w5 HP5.out.whole HP5.out.v HRM.out.1 (by have := HRM.out; omega)).mono ?_
    intro e6 w6 h6
    obtain ⟨Q', id', D1, y1, D2, y2, rfl, -, -, -, s6⟩ := h6.ok (fun q r hq => (HP5.out.v.lend HRM.out.1 hq).1)
    rw [← HBB.out]
    have HP6 := Lib.hid ((HP5.out.keep s6).keep ((Span.refl 0 0 w6).alloc (.cells #[.slice D1 Q'.1.length y1, .slice D2 Q'.2.length y2] 26)))
    have HQ6 := Lib.hid ((HQ4.out.keep s6).keep ((Span.refl 0 0 w6).alloc (.cells #[.slice D1 Q'.1.length y1, .slice D2 Q'.2.length y2] 26)))
    clear h6 s6 t0 t1 HP5 HQ4
    go_upto_region 8 with fail
    generalize w6.alloc (.cells #[.slice D1 Q'.1.length y1, .slice D2 Q'.2.length y2] 26) = w7 at *
    go_cut [76] (fun s76 wx => s76 = .bool false ∧ PBox T w p A1 q1 A2 q2 wx ∧ PBox NQ w Q B1 u1 B2 u2 wx)
    case first => as_aux_lemma =>
      obtain ⟨z0, z1⟩ := HQ6.out.b.two
      cases b with
      | false =>
        go_wp2_with fail
        go_meet
        exact ⟨rfl, HP6.out, HQ6.out⟩
      | true =>
        have hbr : room ≤ best := by
          have := HBB.out
          cases hq : lendP p room with
          | none => rw [hq] at this; cases this
          | some qr => obtain ⟨q, r⟩ := qr; rw [HBEST.out]; exact lendP_best hq
        have ib : ¬ (best : Int) < (room : Int) := by omega
        clear hbr
        go_wp2_with fail
        refine (spec_isPool_true Q _ _ _ w7 HQ6.out.whole HQ6.out.v).mono ?_
        rintro _ w8 ⟨rfl, s8⟩
        have HP8 := Lib.hid (HP6.out.keep s8)
        have HQ8 := Lib.hid (HQ6.out.keep s8)
        clear s8 z0 z1
        go_wp2_with fail
        go_meet
        exact ⟨rfl, HP8.out, HQ8.out⟩
    case rest =>
      obtain ⟨rfl, hp, hq⟩ := hcut
      have HP7 := Lib.hid hp
      have HQ7 := Lib.hid hq
      clear hp hq HP6 HQ6 HBEST
      go_upto_if 77 with fail
      go_cut [] (fun wx => PBox T w p A1 q1 A2 q2 wx)
      case first => as_aux_lemma =>
        cases b with
        | false =>
          go_wp2_with fail
          go_meet
          exact HP7.out
        | true =>
          obtain ⟨z0, z1⟩ := HQ7.out.b.two
          obtain ⟨QQ, hQQ⟩ : ∃ qr, lendP p room = some qr := Option.isSome_iff_exists.1 HBB.out.symm
          obtain ⟨q', r'⟩ := QQ
          obtain ⟨rfl, rfl⟩ := HQ.out.1 _ _ hQQ
          obtain ⟨hwin, B, hB, a, ha⟩ := HP7.out.v.lend_again HRM.out.1 hQQ
          have hid := winP_lt hwin
          have HID : Hid (r' < q'.2.length ∧ q'.2.length ≤ 16) := ⟨hid, HQ7.out.v.most⟩
          have HWIN := Lib.hid hwin
          have HGB := Lib.hid hB
          have HGA := Lib.hid ha
          have HVB := Lib.hid (HQ7.out.v.give hB).1
          have HVA := Lib.hid (HVB.out.lend HRM.out.1 ha).1
          clear hwin hB ha hQQ hid
          go_wp2_with fail
          refine (impl_windowOf q' r' _ _ _ _ HQ7.out.whole HQ7.out.v (by have := HID.out; omega)).mono ?_
          intro e8 w8 h8
          obtain ⟨W1, m1, g1, bb1, rfl, hW, s8⟩ := h8.form
          obtain ⟨-, hm1⟩ := hW [] HWIN.out
          simp only [List.length_nil] at hm1
          subst hm1
          rw [HWIN.out]
          have HP8 := Lib.hid (HP7.out.keep s8)
          have HQ8 := Lib.hid (HQ7.out.keep s8)
          clear h8 hW s8 z0 z1
          obtain ⟨z0, z1⟩ := HQ8.out.b.two
          go_wp2_with fail
          refine (impl_giveBack q' r' _ _ _ w8 HQ8.out.whole HQ8.out.v (by have := HID.out; omega)).mono ?_
          rintro e9 w9 ⟨h9, s9⟩
          rw [HGB.out] at h9
          obtain ⟨v9, rfl, hp9⟩ := h9
          obtain ⟨E1, m3, E2, m4, rfl⟩ := hp9.form
          have HP9 := Lib.hid ((HP8.out.keep s9).keep ((Span.refl 0 0 w9).alloc (.cells #[.slice E1 B.1.length m3, .slice E2 B.2.length m4] 26)))
          have HB9 := Lib.hid (PBox.new (hp9.weak HP8.out.s.size (.inl (Nat.le_refl _))) HVB.out (HP8.out.keep s9).s)
          clear hp9 s9 z0 z1
          go_upto_region 13 with fail
          obtain ⟨NB, hNB⟩ : ∃ t, t = w9.heap.size := ⟨_, rfl⟩
          rw [← hNB] at HB9 ⊢
          clear hNB
          generalize w9.alloc (.cells #[.slice E1 B.1.length m3, .slice E2 B.2.length m4] 26) = w10 at *
          obtain ⟨z0, z1⟩ := HB9.out.b.two
          go_wp2_with fail
          refine (impl_lendRoom B room HRM.out.1 (by have := HRM.out; omega) _ _ _ w10 HB9.out.whole HB9.out.v).mono ?_
          rintro e11 w11 ⟨h11, s11⟩
          rw [HGA.out] at h11
          obtain ⟨v11, rfl, hp11⟩ := h11
          obtain ⟨F1, m5, F2, m6, rfl⟩ := hp11.form
          have HP11 := Lib.hid ((HP9.out.keep s11).keep ((Span.refl 0 0 w11).alloc (.cells #[.slice F1 a.1.length m5, .slice F2 a.2.length m6] 26)))
          have HA11 := Lib.hid (PBox.new (hp11.weak HP9.out.s.size (.inl (Nat.le_refl _))) HVA.out (HP9.out.keep s11).s)
          clear hp11 s11 z0 z1
          go_upto_region 14 with fail
          obtain ⟨NA, hNA⟩ : ∃ t, t = w11.heap.size := ⟨_, rfl⟩
          rw [← hNA] at HA11 ⊢
          clear hNA
          generalize w11.alloc (.cells #[.slice F1 a.1.length m5, .slice F2 a.2.length m6] 26) = w12 at *
          obtain ⟨z0, z1⟩ := HA11.out.b.two
          go_wp2_with fail
          refine (spec_isPool_true a _ _ _ w12 HA11.out.whole HA11.out.v).mono ?_
          rintro _ w13 ⟨rfl, s13⟩
          have HP13 := Lib.hid (HP11.out.keep s13)
          clear s13 z0 z1
          go_wp2_with fail
          go_meet
          exact HP13.out
      case rest =>
        have HP8 := Lib.hid (show PBox T w p A1 q1 A2 q2 wc from hcut)
        clear hcut HP7 HQ7 HQ HBB
        obtain ⟨t0, t1⟩ := HP8.out.b.two
        go_upto_region 16 with fail
        go_cut [20] (fun s20 wx => ∃ k : Nat, s20 = .int .i64 (k : Int) ∧ k ≤ 16 ∧ PBox T w p A1 q1 A2 q2 wx)
        case first => as_aux_lemma =>
          obtain ⟨v2, v20, v21, hat2⟩ := at_fix A n c 2 w (by omega) (by omega) HN.out HBy.out
          have HAT2 := Lib.hid hat2
          have l16 : (p.2.length : Int) ≤ 16 := by have := HP8.out.v.most; omega
          have hz : ¬ (p.2.length : Int) + 1 = 0 := by omega
          clear hat2
          go_quiet (first | (go_at_call 13; refine Calls.quiet_of_same ((HAT2.out _ (HP8.out.s.drewN _)).mono (fun _ _ ⟨x, y⟩ => ⟨x, y.symm⟩))))
          all_goals
            go_wp2_with fail
            go_meet
            have m1 := Int.emod_nonneg v2 hz
            have m2 := Int.emod_lt_of_pos v2 (show (0 : Int) < (p.2.length : Int) + 1 by omega)
            exact ⟨(v2 % ((p.2.length : Int) + 1)).toNat, congrArg (Value.int .i64) (by omega), by omega, HP8.out.keep ((Span.refl 0 0 wc).drewN nq)⟩
        case rest =>
          obtain ⟨k, rfl, hk, hp⟩ := hcut
          have HK := Lib.hid hk
          have HP9 := Lib.hid hp
          obtain ⟨t0, t1⟩ := HP9.out.b.two
          clear hk hp HP8
          go_upto_region 17 with fail
          go_cut [21, 22, 23] (fun s21 s22 s23 wx => CutRel p k cc T w A1 q1 A2 q2 s21 s22 s23 wx)
          case first => as_aux_lemma =>
            have d0 : wc.drew.cell? ⟨T, 0, none⟩ = some (.slice A1 p.1.length q1) ∧ wc.drew.cell? ⟨T, 1, none⟩ = some (.slice A2 p.2.length q2) := HP9.out.b.two
            have d1 : ∀ o, (wc.alloc o).drew.cell? ⟨T, 0, none⟩ = some (.slice A1 p.1.length q1) ∧ (wc.alloc o).drew.cell? ⟨T, 1, none⟩ = some (.slice A2 p.2.length q2) := fun o => (HP9.out.b.alloc o).two
            have HPN := Lib.hid (PBox.new (w := w) (p := ([], [])) (A := none) (q := 0) (A' := none) (q' := 0) (HasP.none_ _ _ _) VP.none_ HP9.out.s)
            go_region_held3 (fun w' => w'.cell? ⟨T, 0, none⟩ = some (.slice A1 p.1.length q1) ∧ w'.cell? ⟨T, 1, none⟩ = some (.slice A2 p.2.length q2))
              (first
                | with_reducible exact d0
                | with_reducible exact d1 _
                | with_reducible exact k2
                | with_reducible exact k3 _
                | with_reducible exact k5
                | with_reducible exact k6 _ _)
              ((first
                | (go_at_call 13; (with_reducible refine (HAT3.out wc.drew HP9.out.s.drew).mono ?_); rintro _ wq ⟨rfl, rfl⟩)
                | (go_at_call 13; (with_reducible refine (HAT3.out (wc.alloc (.cells #[.slice none 0 0, .slice none 0 0] 26)).drew (HP9.out.s.alloc (.cells #[.slice none 0 0, .slice none 0 0] 26)).drew).mono ?_); rintro _ wq ⟨rfl, rfl⟩)
                | (go_at_call 24; have C := impl_cutLease p k cc _ _ _ wc.drew (HP9.out.whole.span ((Span.refl 0 0 wc).drew) (.inl (Nat.le_refl _))) HP9.out.v (by have := HK.out; omega) (by have := HCC4.out; omega); rw [← HCC.out] at C; (with_reducible refine C.mono ?_); clear C; intro e9 w9 h9; obtain ⟨Q2, idQ2, X1, x1, X2, x2, rfl, hQ2, hv2, hp2, s9⟩ := h9.ok (fun q r hq => (HP9.out.v.cut hq).1); have HV2 := Lib.hid hv2; have HQ2' := Lib.hid hQ2; have HP2a := Lib.hid hp2; have S9a := Lib.hid (show Span 0 0 wc w9 from s9.undrawn' (n := 1)); have HT9 := Lib.hid (HP9.out.keep (S9a.out.after (Span.refl 0 0 wc))); have k2 := HT9.out.b.two; have k3 := fun o => (HT9.out.b.alloc o).two; have k5 : w9.drew.cell? ⟨T, 0, none⟩ = some (.slice A1 p.1.length q1) ∧ w9.drew.cell? ⟨T, 1, none⟩ = some (.slice A2 p.2.length q2) := HT9.out.b.two; have k6 := fun (x y : Value) => ((HT9.out.b.other (a := ⟨wc.heap.size, 0, none⟩) (Nat.ne_of_gt HP9.out.b.1) x).other (a := ⟨wc.heap.size, 1, none⟩) (Nat.ne_of_gt HP9.out.b.1) y).two; clear h9 hQ2 hv2 hp2 s9)
                | (go_at_call 24; have C := impl_cutLease p k cc _ _ _ (wc.alloc (.cells #[.slice none 0 0, .slice none 0 0] 26)).drew (HP9.out.whole.span (((Span.refl 0 0 wc).alloc (.cells #[.slice none 0 0, .slice none 0 0] 26)).drew) (.inl (Nat.le_refl _))) HP9.out.v (by have := HK.out; omega) (by have := HCC4.out; omega); rw [← HCC.out] at C; (with_reducible refine C.mono ?_); clear C; intro e9 w9 h9; obtain ⟨Q2, idQ2, X1, x1, X2, x2, rfl, hQ2, hv2, hp2, s9⟩ := h9.ok (fun q r hq => (HP9.out.v.cut hq).1); have HV2 := Lib.hid hv2; have HQ2' := Lib.hid hQ2; have HP2b := Lib.hid hp2; have S9b := Lib.hid (show Span 0 0 (wc.alloc (.cells #[.slice none 0 0, .slice none 0 0] 26)) w9 from s9.undrawn' (n := 1)); have HT9 := Lib.hid (HP9.out.keep (S9b.out.after ((Span.refl 0 0 wc).alloc (.cells #[.slice none 0 0, .slice none 0 0] 26)))); have k2 := HT9.out.b.two; have k3 := fun o => (HT9.out.b.alloc o).two; have k5 : w9.drew.cell? ⟨T, 0, none⟩ = some (.slice A1 p.1.length q1) ∧ w9.drew.cell? ⟨T, 1, none⟩ = some (.slice A2 p.2.length q2) := HT9.out.b.two; have k6 := fun (x y : Value) => ((HT9.out.b.other (a := ⟨wc.heap.size, 0, none⟩) (Nat.ne_of_gt HP9.out.b.1) x).other (a := ⟨wc.heap.size, 1, none⟩) (Nat.ne_of_gt HP9.out.b.1) y).two; have XN := Lib.hid (HPN.out.b.keep S9b.out); have xn := XN.out.cells; have xf := XN.out.thaw; clear h9 hQ2 hv2 hp2 s9)))
            all_goals
              go_wp2_with fail
              go_meet
              first
                | exact ⟨Q2, idQ2, w9.heap.size, X1, x1, X2, x2, rfl, rfl, rfl, HQ2'.out, HT9.out.keep ((Span.refl 0 0 w9).alloc _), PBox.new (HP2a.out.weak HP9.out.s.size (.inl (Nat.le_refl _))) HV2.out HT9.out.s⟩
                | exact ⟨Q2, idQ2, wc.heap.size, X1, x1, X2, x2, rfl, rfl, rfl, HQ2'.out, HP9.out.keep ((S9b.out.after ((Span.refl 0 0 wc).alloc _)).set2 (Nat.le_refl _) _ _), (HPN.out.keep S9b.out).store HV2.out HP2b.out (by show wc.heap.size < (wc.alloc _).heap.size; simp)⟩
          case rest =>
            obtain ⟨Q2, id2, N2, X1, x1, X2, x2, rfl, rfl, rfl, hQ2, hp, hq⟩ := hcut
            have HQ2 := Lib.hid hQ2
            have HP10 := Lib.hid hp
            have HC10 := Lib.hid hq
            obtain ⟨d, hd⟩ : ∃ d, d = (cutP p k cc).isSome := ⟨_, rfl⟩
            have HD := Lib.hid hd
            rw [← hd]
            clear hQ2 hp hq hd HP9 t0 t1
            obtain ⟨t0, t1⟩ := HP10.out.b.two
            go_upto_region 18 with fail
            go_cut [26] (fun s26 wx => s26 = .bool d ∧ PBox T w p A1 q1 A2 q2 wx ∧ PBox N2 w Q2 X1 x1 X2 x2 wx)
            case first => as_aux_lemma =>
              have d0 : wc.drew.cell? ⟨T, 0, none⟩ = some (.slice A1 p.1.length q1) ∧ wc.drew.cell? ⟨T, 1, none⟩ = some (.slice A2 p.2.length q2) := HP10.out.b.two
              have d1 : ∀ o, (wc.alloc o).drew.cell? ⟨T, 0, none⟩ = some (.slice A1 p.1.length q1) ∧ (wc.alloc o).drew.cell? ⟨T, 1, none⟩ = some (.slice A2 p.2.length q2) := fun o => (HP10.out.b.alloc o).two
              have HPN := Lib.hid (PBox.new (w := w) (p := ([], [])) (A := none) (q := 0) (A' := none) (q' := 0) (HasP.none_ _ _ _) VP.none_ HP10.out.s)
              go_region_held3 (fun w' => w'.cell? ⟨T, 0, none⟩ = some (.slice A1 p.1.length q1) ∧ w'.cell? ⟨T, 1, none⟩ = some (.slice A2 p.2.length q2))
                (first
                  | with_reducible exact d0
                  | with_reducible exact d1 _
                  | with_reducible exact k2
                  | with_reducible exact k3 _
                  | with_reducible exact k5
                  | with_reducible exact k6 _ _)
                ((first
                  | (go_at_call 13; (with_reducible refine (HAT3.out wc.drew HP10.out.s.drew).mono ?_); rintro _ wq ⟨rfl, rfl⟩)
                  | (go_at_call 13; (with_reducible refine (HAT3.out (wc.alloc (.cells #[.slice none 0 0, .slice none 0 0] 26)).drew (HP10.out.s.alloc (.cells #[.slice none 0 0, .slice none 0 0] 26)).drew).mono ?_); rintro _ wq ⟨rfl, rfl⟩)
                  | (go_at_call 25; have C := spec_cutLease p k cc _ _ _ wc.drew (HP10.out.whole.span ((Span.refl 0 0 wc).drew) (.inl (Nat.le_refl _))) HP10.out.v (by have := HK.out; omega) (by have := HCC4.out; omega); rw [← HCC.out] at C; (with_reducible refine C.mono ?_); clear C; intro e9 w9 h9; obtain ⟨Q3, idQ3, Y1, y3, Y2, y4, rfl, hQ2, hv2, hp2, s9⟩ := h9.ok (fun q r hq => (HP10.out.v.cut hq).1); rw [← HD.out]; have HV2 := Lib.hid hv2; have HQ2' := Lib.hid hQ2; have HP2a := Lib.hid hp2; have S9a := Lib.hid (show Span 0 0 wc w9 from s9.undrawn' (n := 1)); have HT9 := Lib.hid (HP10.out.keep (S9a.out.after (Span.refl 0 0 wc))); have k2 := HT9.out.b.two; have k3 := fun o => (HT9.out.b.alloc o).two; have k5 : w9.drew.cell? ⟨T, 0, none⟩ = some (.slice A1 p.1.length q1) ∧ w9.drew.cell? ⟨T, 1, none⟩ = some (.slice A2 p.2.length q2) := HT9.out.b.two; have k6 := fun (x y : Value) => ((HT9.out.b.other (a := ⟨wc.heap.size, 0, none⟩) (Nat.ne_of_gt HP10.out.b.1) x).other (a := ⟨wc.heap.size, 1, none⟩) (Nat.ne_of_gt HP10.out.b.1) y).two; clear h9 hQ2 hv2 hp2 s9)
                  | (go_at_call 25; have C := spec_cutLease p k cc _ _ _ (wc.alloc (.cells #[.slice none 0 0, .slice none 0 0] 26)).drew (HP10.out.whole.span (((Span.refl 0 0 wc).alloc (.cells #[.slice none 0 0, .slice none 0 0] 26)).drew) (.inl (Nat.le_refl _))) HP10.out.v (by have := HK.out; omega) (by have := HCC4.out; omega); rw [← HCC.out] at C; (with_reducible refine C.mono ?_); clear C; intro e9 w9 h9; obtain ⟨Q3, idQ3, Y1, y3, Y2, y4, rfl, hQ2, hv2, hp2, s9⟩ := h9.ok (fun q r hq => (HP10.out.v.cut hq).1); rw [← HD.out]; have HV2 := Lib.hid hv2; have HQ2' := Lib.hid hQ2; have HP2b := Lib.hid hp2; have S9b := Lib.hid (show Span 0 0 (wc.alloc (.cells #[.slice none 0 0, .slice none 0 0] 26)) w9 from s9.undrawn' (n := 1)); have HT9 := Lib.hid (HP10.out.keep (S9b.out.after ((Span.refl 0 0 wc).alloc (.cells #[.slice none 0 0, .slice none 0 0] 26)))); have k2 := HT9.out.b.two; have k3 := fun o => (HT9.out.b.alloc o).two; have k5 : w9.drew.cell? ⟨T, 0, none⟩ = some (.slice A1 p.1.length q1) ∧ w9.drew.cell? ⟨T, 1, none⟩ = some (.slice A2 p.2.length q2) := HT9.out.b.two; have k6 := fun (x y : Value) => ((HT9.out.b.other (a := ⟨wc.heap.size, 0, none⟩) (Nat.ne_of_gt HP10.out.b.1) x).other (a := ⟨wc.heap.size, 1, none⟩) (Nat.ne_of_gt HP10.out.b.1) y).two; have XN := Lib.hid (HPN.out.b.keep S9b.out); have xn := XN.out.cells; have xf := XN.out.thaw; clear h9 hQ2 hv2 hp2 s9)))
              all_goals
                go_wp2_with fail
                go_meet
                first
                  | exact ⟨rfl, HT9.out.keep ((Span.refl 0 0 w9).alloc _), HC10.out.keep (S9a.out.alloc _)⟩
                  | exact ⟨rfl, HP10.out.keep ((S9b.out.after ((Span.refl 0 0 wc).alloc _)).set2 (Nat.le_refl _) _ _), HC10.out.keep ((S9b.out.after ((Span.refl 0 0 wc).alloc _)).set2 (Nat.le_refl _) _ _)⟩
            case rest =>
              obtain ⟨rfl, hp, hq⟩ := hcut
              have HP11 := Lib.hid hp
              have HC11 := Lib.hid hq
              clear hp hq HP10 HC10 t0 t1
              obtain ⟨t0, t1⟩ := HP11.out.b.two
              have HID2 : Hid (id2 ≤ 16) := by
                unfold Hid
                cases hc : cutP p k cc with
                | none => rw [HQ2.out.2 hc]; omega
                | some qr =>
                  obtain ⟨q, r⟩ := qr
                  obtain ⟨rfl, rfl⟩ := HQ2.out.1 q r hc
                  obtain ⟨-, a, b', -, hb', -⟩ := cutP_win hc
                  have := winP_lt hb'
                  have := HC11.out.v.most
                  omega
              have hdd : (d != d) = false := by cases d <;> rfl
              go_upto_region 21 with fail
              go_wp2_with fail
              refine (spec_windowOf p k _ _ _ _ HP11.out.whole HP11.out.v (by have := HK.out; omega)).mono ?_
              intro e9 w9 h9
              obtain ⟨W1, m1, g1, bb1, rfl, hW1, s9⟩ := h9.form
              have HW1 := Lib.hid hW1
              have HC12 := Lib.hid (HC11.out.keep s9)
              clear h9 hW1 s9 t0 t1 HP11 HC11 hdd
              obtain ⟨t0, t1⟩ := HC12.out.b.two
              go_wp2_with fail
              refine (impl_windowOf Q2 k _ _ _ w9 HC12.out.whole HC12.out.v (by have := HK.out; omega)).mono ?_
              intro e10 w10 h10
              obtain ⟨W2, m2, g2, bb2, rfl, hW2, s10⟩ := h10.form
              have HW2 := Lib.hid hW2
              have HC13 := Lib.hid (HC12.out.keep s10)
              have S10 := Lib.hid s10
              clear h10 hW2 s10 t0 t1 HC12
              obtain ⟨t0, t1⟩ := HC13.out.b.two
              go_wp2_with fail
              refine (impl_windowOf Q2 id2 _ _ _ w10 HC13.out.whole HC13.out.v (by have := HID2.out; omega)).mono ?_
              intro e11 w11 h11
              obtain ⟨W3, m3, g3, bb3, rfl, hW3, s11⟩ := h11.form
              have HW3 := Lib.hid hW3
              have HC14 := Lib.hid (HC13.out.keep s11)
              have S11 := Lib.hid s11
              clear h11 hW3 s11 t0 t1 HC13
              obtain ⟨t0, t1⟩ := HC14.out.b.two
              cases d with
              | false => as_aux_lemma =>
                go_wp2_with fail
                go_ret
                exact ⟨rfl, HC14.out.s.to_below (.inl (Nat.le_refl _))⟩
              | true => as_aux_lemma =>
                obtain ⟨QQ, hQQ⟩ : ∃ qr, cutP p k cc = some qr := Option.isSome_iff_exists.1 HD.out.symm
                obtain ⟨q', r'⟩ := QQ
                obtain ⟨rfl, rfl⟩ := HQ2.out.1 _ _ hQQ
                obtain ⟨hrk, ys, zs, hy, hz, hyz⟩ := cutP_win hQQ
                obtain ⟨e1, e1n⟩ := HW1.out _ hyz
                obtain ⟨e2, e2n⟩ := HW2.out _ hy
                obtain ⟨e3, e3n⟩ := HW3.out _ hz
                have HLE : Hid (ys.length ≤ 256 ∧ zs.length ≤ 256) := ⟨winP_le HC14.out.v hy, winP_le HC14.out.v hz⟩
                have HE1 := Lib.hid ((e1.span S10.out (.inl (Nat.le_refl _))).span S11.out (.inl (Nat.le_refl _)))
                have HE2 := Lib.hid (e2.span S11.out (.inl (Nat.le_refl _)))
                have HE3 := Lib.hid e3
                rw [hy, hz]
                subst e1n e2n e3n
                have irk : ¬ (r' : Int) = (k : Int) := by omega
                have IRK := Lib.hid irk
                clear hrk hy hz hyz e1 e2 e3 hQQ HW1 HW2 HW3
                go_wp2_with fail
                refine (spec_isPool_true q' _ _ _ w11 HC14.out.whole HC14.out.v).mono ?_
                rintro _ w12 ⟨rfl, s12⟩
                have SF := Lib.hid (s12.after HC14.out.s)
                have HF1 := Lib.hid (HE1.out.span s12 (.inl (Nat.le_refl _)))
                have HF2 := Lib.hid (HE2.out.span s12 (.inl (Nat.le_refl _)))
                have HF3 := Lib.hid (HE3.out.span s12 (.inl (Nat.le_refl _)))
                have HOA := Lib.hid (World.ownsRow_made (base := w12.heap.size) (e := 48) (size := 1) w12 #[] 0 (Nat.le_refl _) (Nat.zero_le _) rfl)
                clear s12 t0 t1 HE1 HE2 HE3 HC14
                go_wp2_with (first
                  | (at_builtin; go_loud (refine wpList_append_anyG (val := cxV) (fun _ => rfl) ?hw (.tmp 189) (.tmp 190) 23 rfl w12.heap.size 48 ip (.complex .f32 0 0) 8 Try.underlying23 hip hzp hsp hbp rfl _ _ _ rfl HOA.out (HF2.out.alloc (.cells #[] 48)) rfl ?c3 ?c4 ?c5 ?_; (case hw => first | rfl | (simp [Region.wanted, yielded]; done) | go_simp); (case c3 => have := HLE.out; unfold maxLen; omega); (case c4 => have := HLE.out; omega); (case c5 => simp); intro v13 w13 ho13 hg13 _; rw [Nat.zero_add, List.nil_append] at ho13; obtain ⟨A13, q13, rfl⟩ := ownsRow_slice ho13; have HO13 := Lib.hid ho13; have S13 := Lib.hid (((Span.refl 0 0 w12).alloc (.cells #[] 48)).grown hg13 (fun j hj => .inr (HOA.out.lt j hj).1)); have HG3 := Lib.hid (HF3.out.span S13.out (.inl (Nat.le_refl _))); clear ho13 hg13))
                  | (at_builtin; go_loud (refine wpList_append_anyG (val := cxV) (fun _ => rfl) ?hw (.tmp 191) (.tmp 192) 23 rfl w12.heap.size 48 ip (.complex .f32 0 0) 8 Try.underlying23 hip hzp hsp hbp rfl _ _ _ rfl HO13.out HG3.out rfl ?c3 ?c4 ?c5 ?_; (case hw => first | rfl | (simp [Region.wanted, yielded]; done) | go_simp); (case c3 => have := HLE.out; unfold maxLen; omega); (case c4 => have := HLE.out; omega); (case c5 => exact S13.out.size); intro v14 w14 ho14 hg14 _; obtain ⟨A14, q14, rfl⟩ := ownsRow_slice ho14; have HO14 := Lib.hid ho14; have S14 := Lib.hid (S13.out.grown hg14 (fun j hj => .inr (HO13.out.lt j hj).1)); clear ho14 hg14)))
                have ho := HO14.out
                rw [← List.map_append, ← List.length_append] at ho
                obtain ⟨b14, hb14, -, -⟩ := ownsRow_hasS ho
                rw [List.length_append] at hb14
                have h1 := HF1.out.span S14.out (.inl (Nat.le_refl _))
                rw [List.length_append] at h1
                have HX1 := Lib.hid hb14
                have HX2 := Lib.hid h1
                clear ho hb14 h1
                refine (makeSame_self (ys ++ zs) _ _ _ _ _ _ _ _ _ _ _ HX1.out HX2.out (by rw [List.length_append]; have := HLE.out; omega)).mono ?_
                rintro _ _ ⟨m, rfl, rfl⟩
                go_wp2_with fail
                go_ret
                exact ⟨congrArg (fun b => Ending.returned (Value.bool b)) (bne_iff_ne.2 IRK.out), ((S14.out.after SF.out).drewN m).to_below (.inl (Nat.le_refl _))⟩
  · have hn' : (1048576 : Int) < (n : Int) := by omega
    go_enter Try.func4, Try.ntmps4
    go_wp2
    go_ret
    exact ⟨rfl, Below.refl _ _⟩
end Go.Proofs.Ytlhocjoncblocaa
