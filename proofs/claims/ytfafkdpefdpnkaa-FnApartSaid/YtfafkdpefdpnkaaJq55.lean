/- The model's pools: LendRoom. -/
import Derived.Test.YtfafkdpefdpnkaaJq54
namespace Go.Proofs.Ytfafkdpefdpnkaa
open Go.RowKit

theorem roomAt_some7 {p : Pl} {room k : Nat} (hk : k < p.1.length) (h : runTo p.2 (k + 1) = room) (hn : ∀ j, j < k → runTo p.2 (j + 1) ≠ room) : roomAt p room = some k := by
  unfold roomAt
  rw [List.find?_range_eq_some]
  exact ⟨by simpa using h, by simpa using hk, fun j hj => by simpa using hn j hj⟩

theorem roomAt_none {p : Pl} {room : Nat} (hn : ∀ j, j < p.1.length → runTo p.2 (j + 1) ≠ room) : roomAt p room = none := by
  unfold roomAt
  rw [List.find?_range_eq_none]
  exact fun j hj => by simpa using hn j hj

theorem replicate_snoc (j : Nat) : List.replicate (j + 1) ((0, 0) : Cx) = List.replicate j (0, 0) ++ [(0, 0)] := List.replicate_succ'

theorem wrap_two_sub {x y : Nat} (hx : x ≤ 4194304) (hy : y ≤ 4194304) : wrap64 ((x : Int) - (y : Int)) = (x : Int) - (y : Int) := IntWalk.wrap64_in _ (by omega)

set_option maxRecDepth 100000 in
set_option maxHeartbeats 4000000 in
theorem spec_lendRoom (p : Pl) (room : Nat) (lo hi : Nat) (v : Value) (w : World) (hx : HasP lo hi w v p) (hp : VP p) (hr1 : 1 ≤ room) (hr2 : room ≤ 4194304) :
    Calls Try.prog 51 #[v, .int .i64 (room : Int)] w (GivesQ3 (lendP p room) w) := by
  have HX := Lib.hid hx
  have HV := Lib.hid hp
  obtain ⟨AS, cS, AL, cL, rfl⟩ := hx.form
  obtain ⟨n, hn⟩ : ∃ n, n = p.1.length := ⟨_, rfl⟩
  have HN := Lib.hid hn
  have hn256 : n ≤ 256 := by rw [hn]; exact hp.size
  have hm16 : p.2.length ≤ 16 := hp.most
  rw [← hn] at HX ⊢
  have X0 := Lib.hid ((Box.new w (.slice AS n cS) (.slice AL p.2.length cL) 45).alloc (.cells #[.slice none 0 0, .slice none 0 0] 45))
  have X1 := Lib.hid (Box.new (w.alloc (.cells #[.slice AS n cS, .slice AL p.2.length cL] 45)) (.slice none 0 0) (.slice none 0 0) 45)
  rw [show (w.alloc (.cells #[.slice AS n cS, .slice AL p.2.length cL] 45)).heap.size = w.heap.size + 1 by simp] at X1
  have HS := Lib.hid (((Span.refl 0 0 w).alloc (.cells #[.slice AS n cS, .slice AL p.2.length cL] 45)).alloc (.cells #[.slice none 0 0, .slice none 0 0] 45))
  have r0 : ¬ (room : Int) < 1 := by omega
  clear hx hp hn
  go_enter Try.func51, Try.ntmps51
  go_wp2_with fail
  refine (spec_isPool_true p lo hi _ _ (HX.out.span HS.out (.inl (Nat.le_refl _))) HV.out).mono ?_
  rintro _ w1 ⟨rfl, s1⟩
  have Y0 := Lib.hid (X0.out.span s1 (.inl (Nat.le_refl _)))
  have Y1 := Lib.hid (X1.out.span s1 (.inl (Nat.le_refl _)))
  have S1 := Lib.hid (s1.after HS.out)
  obtain ⟨_, x0, x1, _, _⟩ := Y0.out
  clear s1 X0 X1 HS
  go_wp2_with fail
  refine (l3Taken_valid p lo hi _ _ (HX.out.span S1.out (.inl (Nat.le_refl _))) HV.out).mono ?_
  rintro _ w2 ⟨g, rfl, hf, -, s2⟩
  rw [← HN.out] at hf ⊢
  have HF := Lib.hid hf
  have Z0 := Lib.hid (Y0.out.span s2 (.inl (Nat.le_refl _)))
  have Z1 := Lib.hid (Y1.out.span s2 (.inl (Nat.le_refl _)))
  have S2 := Lib.hid (s2.after S1.out)
  clear s2 x0 x1 Y0 Y1 S1 hf
  go_wp2_with fail
  go_loopw [9, 28] (fun q c wr => ∃ k : Nat, k ≤ n ∧ c = .int .i64 k ∧ q = .int .i64 (runTo p.2 k : Int) ∧ (∀ j, j < k → runTo p.2 (j + 1) ≠ room) ∧ w2 = wr) (fun _ c _ => n - (intOf c).toNat)
  case atStart => exact ⟨0, Nat.zero_le _, rfl, rfl, fun j hj => absurd hj (by omega), rfl⟩
  case round =>
    obtain ⟨k, hk, rfl, rfl, hno, rfl⟩ := hrel
    have HNO := Lib.hid hno
    clear hno
    by_cases hlt : k < n
    · have cf := HF.out.at_ hlt
      have hrl : runTo p.2 k ≤ k := runTo_le p.2 k
      have k0 : (0 : Int) ≤ (k : Int) := by omega
      have k1 : (k : Int) < (n : Int) := by omega
      by_cases hc : 0 < cnt p.2 k
      · have hci : (0 : Int) < (cnt p.2 k : Int) := by omega
        have hz : Hid (runTo p.2 (k + 1) = 0) := by unfold Hid; rw [runTo, if_pos hc]
        have h0 : ¬ (0 : Int) = (room : Int) := by omega
        go_wp2_with fail
        go_roundw
        case rel =>
          refine ⟨k + 1, by omega, by go_num, by rw [hz.out]; rfl, fun j hj => ?_, by first | rfl | trivial⟩
          by_cases e : j = k
          · subst e; rw [hz.out]; omega
          · exact HNO.out j (by omega)
        case measure => simp [intOf]; omega
      · have hci : ¬ (0 : Int) < (cnt p.2 k : Int) := by omega
        have hz : Hid (runTo p.2 (k + 1) = runTo p.2 k + 1) := by unfold Hid; rw [runTo, if_neg hc]
        by_cases he : runTo p.2 k + 1 = room
        · have hei : (runTo p.2 k : Int) + 1 = (room : Int) := by omega
          have HRA := Lib.hid (roomAt_some7 (p := p) (room := room) (k := k) (by rw [← HN.out]; exact hlt) (by rw [hz.out]; exact he) HNO.out)
          obtain ⟨_, x0, x1, _, _⟩ := Z0.out
          have hrk : room ≤ k + 1 := by omega
          obtain ⟨s, hs⟩ : ∃ s, s = k + 1 - room := ⟨_, rfl⟩
          have hsk : s + room = k + 1 := by omega
          have HSK := Lib.hid hs
          clear hs hc
          go_wp2_with fail
          clear hci
          refine (l3Copy_any p lo hi _ _ (HX.out.span S2.out (.inl (Nat.le_refl _))) (by rw [← HN.out]; omega) (by omega)).mono ?_
          rintro _ w3 ⟨A1, q1, A2, q2, rfl, ho1, ho2, s3⟩
          have HRB : Hid (w.heap.size + 1 < w2.heap.size) := Z1.out.1
          have HO := Lib.hid (Own.new (Z1.out.span s3 (.inl (Nat.le_refl _))) ho1 ho2 (s3.after S2.out))
          clear ho1 ho2 s3 x0 x1
          have HOL : Hid (∀ j, j ≤ room → (overlay p.1 s (List.replicate j (0, 0))).length = n) := by
            intro j hj
            rw [overlay_length (by rw [List.length_replicate, ← HN.out]; omega), ← HN.out]
          rw [← HN.out]
          obtain ⟨g1, cap1, hv1, -, -⟩ := HO.out.hs.form (by rw [← HN.out]; omega)
          injection hv1 with e1 e2 e3
          clear e2
          subst e1 e3
          rw [← HN.out] at HO
          have hsi : (k : Int) - (room : Int) + 1 = (s : Int) := by omega
          have HWK : Hid (wrap64 ((k : Int) - (room : Int)) = (k : Int) - (room : Int)) := wrap_two_sub (by omega) (by omega)
          go_wp2_with fail
          clear hrl
          go_loopw [12] (fun q wr => ∃ j : Nat, j ≤ room ∧ q = .int .i64 ((s + j : Nat) : Int) ∧ Own (w.heap.size + 1) w3.heap.size w2.heap.size w (overlay p.1 s (List.replicate j (0, 0))) p.2 (some ⟨g1, 0, none⟩) q1 A2 q2 wr) (fun q _ => s + room - (intOf q).toNat)
          case atStart => exact ⟨0, Nat.zero_le _, by first | rfl | (congr 1), by rw [show List.replicate 0 ((0, 0) : Cx) = [] from rfl, overlay_nil6]; exact HO.out⟩
          case round =>
            clear HO
            obtain ⟨j, hj, rfl, ho⟩ := hrel
            have HO := Lib.hid ho
            obtain ⟨_, t0, t1, _, _⟩ := ho.t
            rw [HOL.out j hj] at t0
            by_cases hjl : j < room
            · have hs := ho.hs
              have sc := hs.cellAt (s + j) (by rw [HOL.out j hj]; omega)
              obtain ⟨y, hy⟩ := getElem?_some (xs := overlay p.1 s (List.replicate j (0, 0))) (j := s + j) (by rw [HOL.out j hj]; omega)
              rw [List.getElem?_map, hy] at sc
              have sf := hs.frozenAt (s + j)
              have hset := ho.setS HRB.out (by have := HRB.out; omega) (s + j) (0, 0)
              have hst : (overlay p.1 s (List.replicate j (0, 0))).set (s + j) (0, 0) = overlay p.1 s (List.replicate (j + 1) (0, 0)) := by
                have := overlay_step (S := p.1) (ys := List.replicate j (0, 0)) (i := s) (z := (0, 0)) (by rw [List.length_replicate, ← HN.out]; omega)
                rw [List.length_replicate] at this
                rw [this, replicate_snoc]
              rw [hst] at hset
              have HSET := Lib.hid hset
              unfold cxV at HSET
              simp only at HSET
              have HJ : Hid (j + 1 ≤ room) := hjl
              have j0 : (0 : Int) ≤ ((s + j : Nat) : Int) := by omega
              have j1 : ((s + j : Nat) : Int) < (n : Int) := by omega
              have j2 : ((s + j : Nat) : Int) ≤ (k : Int) := by omega
              clear ho hs hset hst hy
              go_wp2_with fail
              go_roundw
              case rel => exact ⟨j + 1, HJ.out, by go_num, HSET.out⟩
              case measure => have := HJ.out; simp [intOf]; omega
            · have hje : j = room := by omega
              subst hje
              have j2 : ¬ ((s + j : Nat) : Int) ≤ (k : Int) := by omega
              obtain ⟨lo', hi', hb1, hb2⟩ := block_of (.slice A2 p.2.length q2)
              have C := l3Put_own (some ⟨g1, 0, none⟩) n q1 p.2 A2 q2 ⟨s, 0, j, false⟩ w2.heap.size lo' hi' wr HO.out.hl (Nat.le_of_lt (Nat.lt_of_le_of_lt (HO.out.hs.lt g1 rfl).1 (HO.out.hs.lt g1 rfl).2)) hm16 hb1
              have e : lsV ⟨s, 0, j, false⟩ = .agg #[.int .i64 (s : Int), .int .i64 0, .int .i64 (j : Int), .bool false] := rfl
              rw [e] at C
              have HC2 := Lib.hid C
              have HB2 := Lib.hid hb2
              have HLO := Lib.hid (HOL.out j (Nat.le_refl _))
              have HRA2 : Hid (lendP p j = (putL p.2 ⟨s, 0, j, false⟩).map fun q => ((overlay p.1 s (List.replicate j (0, 0)), q.1), q.2)) := by
                unfold Hid lendP; rw [HRA.out, HSK.out]; rfl
              clear C e hb1 hb2 ho hjl hj
              go_wp2_with fail
              cases hpu : putL p.2 ⟨s, 0, j, false⟩ with
              | none =>
                have HG : Hid (lendP p j = none) := by unfold Hid; rw [HRA2.out, hpu]; rfl
                rw [hpu] at HC2
                refine HC2.out.mono ?_
                rintro _ w4 ⟨rfl, sp⟩
                obtain ⟨hr, hs⟩ := HO.out.away HRB.out (by omega) HB2.out sp
                have hr2 := hr
                obtain ⟨_, y0, y1, y2, y3⟩ := hr2
                have HB := Lib.hid (box_stored (u' := .slice none 0 0) (v' := .slice none 0 0) hr)
                have HSF := Lib.hid ((hs.setCell (p := ⟨w.heap.size + 1, 0, none⟩) (.inr (by simp only; omega)) (.slice none 0 0)).setCell (p := ⟨w.heap.size + 1, 1, none⟩) (.inr (by simp only; omega)) (.slice none 0 0))
                clear hpu sp hr hs t0 t1
                go_wp2_with fail
                refine bodyPost_ret (v := .tuple #[.agg #[.slice none 0 0, .slice none 0 0], .int .i64 0, .bool false]) (by simp [results, Try.results51, go_sem, HB.out.1, HB.out.2]) rfl ?_
                rw [HG.out]
                exact ⟨rfl, HSF.out⟩
              | some LL =>
                obtain ⟨L', id'⟩ := LL
                have HG : Hid (lendP p j = some ((overlay p.1 s (List.replicate j (0, 0)), L'), id')) := by unfold Hid; rw [HRA2.out, hpu]; rfl
                rw [hpu] at HC2
                refine HC2.out.mono ?_
                rintro _ w4 ⟨⟨A5, q5, rfl, ho⟩, sp⟩
                obtain ⟨hr, hh, hs⟩ := HO.out.put HRB.out (by omega) HB2.out ho sp
                rw [HLO.out] at hh hs
                have hr2 := hr
                obtain ⟨_, y0, y1, y2, y3⟩ := hr2
                have HB := Lib.hid (box_stored (u' := .slice (some ⟨g1, 0, none⟩) n q1) (v' := .slice A5 L'.length q5) hr)
                have HH := Lib.hid hh
                have HSF := Lib.hid hs
                clear hpu ho sp hr hh hs t0 t1
                go_wp2_with fail
                refine bodyPost_ret (v := .tuple #[.agg #[.slice (some ⟨g1, 0, none⟩) n q1, .slice A5 L'.length q5], .int .i64 (id' : Int), .bool true]) (by simp [results, Try.results51, go_sem, HB.out.1, HB.out.2]) rfl ?_
                rw [HG.out]
                exact ⟨⟨_, rfl, HH.out⟩, HSF.out⟩
        · have he2 : ¬ (runTo p.2 k : Int) + 1 = (room : Int) := by omega
          clear hc
          go_wp2_with fail
          go_roundw
          case rel =>
            refine ⟨k + 1, by omega, by go_num, by rw [hz.out]; go_num, fun j hj => ?_, by first | rfl | trivial⟩
            by_cases e : j = k
            · subst e; rw [hz.out]; exact he
            · exact HNO.out j (by omega)
          case measure => simp [intOf]; omega
    · have hke : n = k := by omega
      subst hke
      have HG : Hid (lendP p room = none) := by unfold Hid lendP; rw [roomAt_none (by rw [← HN.out]; exact HNO.out)]; rfl
      obtain ⟨_, y0, y1, y2, y3⟩ := Z1.out
      have HB := Lib.hid (box_stored (u' := .slice none 0 0) (v' := .slice none 0 0) Z1.out)
      have HSF := Lib.hid ((S2.out.setCell (p := ⟨w.heap.size + 1, 0, none⟩) (.inr (by simp only; omega)) (.slice none 0 0)).setCell (p := ⟨w.heap.size + 1, 1, none⟩) (.inr (by simp only; omega)) (.slice none 0 0))
      clear hk hlt
      go_wp2_with fail
      refine bodyPost_ret (v := .tuple #[.agg #[.slice none 0 0, .slice none 0 0], .int .i64 0, .bool false]) (by simp [results, Try.results51, go_sem, HB.out.1, HB.out.2]) rfl ?_
      rw [HG.out]
      exact ⟨rfl, HSF.out⟩
end Go.Proofs.Ytfafkdpefdpnkaa
