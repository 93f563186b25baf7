/- The program's pools: a lease is put in the first free place. -/
import Derived.Test.YtlhocjoncblocaaJq28
import Derived.Test.YtlhocjoncblocaaJq40
namespace Go.Proofs.Ytlhocjoncblocaa
open Go.RowKit

set_option maxRecDepth 100000 in
set_option maxHeartbeats 4000000 in
theorem addLease_own (AS : Option Addr) (n cS : Nat) (L : List Ls) (A : Option Addr) (q : Nat) (x : Ls) (B lo hi : Nat) (w : World) (hL : w.ownsRow B 30 4 (.slice A L.length q) L.length (flat L)) (hB : B ≤ w.heap.size) (hl : L.length ≤ 16)
    (hb : ∀ k, (Value.slice A L.length q).ownBlock = some k → lo ≤ k ∧ k < hi) :
    Calls Try.prog 57 #[.agg #[.slice AS n cS, .slice A L.length q], lsV x] w (PutsL AS n cS (putL L x) B lo hi w) := by
  obtain ⟨il, hil, hzl, hsl, hbl⟩ := info_parts info_lease
  obtain ⟨ll, hll⟩ : ∃ n, n = L.length := ⟨_, rfl⟩
  have HLL := Lib.hid hll
  have HOW := Lib.hid hL
  have HBB := Lib.hid hb
  have HB0 := Lib.hid hB
  rw [← hll] at hl hL ⊢
  have hl16 : (ll : Int) ≤ 16 := by omega
  obtain ⟨s, c, r, fr⟩ := x
  unfold lsV
  simp only
  have X2 := Lib.hid (((Box.new w (.slice AS n cS) (.slice A ll q) 26).alloc (.cells #[.int .i64 (s : Int), .int .i64 (c : Int), .int .i64 (r : Int), .bool fr] 30)).alloc (.cells #[.slice none 0 0, .slice none 0 0] 26))
  have X3 : Hid (LsAt (((w.alloc (.cells #[.slice AS n cS, .slice A ll q] 26)).alloc (.cells #[.int .i64 (s : Int), .int .i64 (c : Int), .int .i64 (r : Int), .bool fr] 30)).alloc (.cells #[.slice none 0 0, .slice none 0 0] 26)) (w.heap.size + 1) 0 ⟨s, c, r, fr⟩) := by
    have := (lsBox (w.alloc (.cells #[.slice AS n cS, .slice A ll q] 26)) ⟨s, c, r, fr⟩ 30).span ((Span.refl 0 0 _).alloc (.cells #[.slice none 0 0, .slice none 0 0] 26)) (.inl (Nat.le_refl _))
    rw [show (w.alloc (.cells #[.slice AS n cS, .slice A ll q] 26)).heap.size = w.heap.size + 1 by simp] at this
    exact this
  have X4 := Lib.hid (Box.new ((w.alloc (.cells #[.slice AS n cS, .slice A ll q] 26)).alloc (.cells #[.int .i64 (s : Int), .int .i64 (c : Int), .int .i64 (r : Int), .bool fr] 30)) (.slice none 0 0) (.slice none 0 0) 26)
  rw [show ((w.alloc (.cells #[.slice AS n cS, .slice A ll q] 26)).alloc (.cells #[.int .i64 (s : Int), .int .i64 (c : Int), .int .i64 (r : Int), .bool fr] 30)).heap.size = w.heap.size + 1 + 1 by simp] at X4
  have HO := Lib.hid (((hL.alloc (.cells #[.slice AS n cS, .slice A ll q] 26)).alloc (.cells #[.int .i64 (s : Int), .int .i64 (c : Int), .int .i64 (r : Int), .bool fr] 30)).alloc (.cells #[.slice none 0 0, .slice none 0 0] 26))
  have HS := Lib.hid ((((Span.refl lo hi w).alloc (.cells #[.slice AS n cS, .slice A ll q] 26)).alloc (.cells #[.int .i64 (s : Int), .int .i64 (c : Int), .int .i64 (r : Int), .bool fr] 30)).alloc (.cells #[.slice none 0 0, .slice none 0 0] 26))
  clear hL hB hb hll hl
  obtain ⟨_, x0, x1, _, _⟩ := X2.out
  go_enter Try.func57, Try.ntmps57
  go_wp2_with fail
  clear x0 x1
  generalize ((w.alloc (.cells #[.slice AS n cS, .slice A ll q] 26)).alloc (.cells #[.int .i64 (s : Int), .int .i64 (c : Int), .int .i64 (r : Int), .bool fr] 30)).alloc (.cells #[.slice none 0 0, .slice none 0 0] 26) = w0 at *
  go_loopw [11] (fun c wr => ∃ k : Nat, k ≤ ll ∧ c = .int .i64 k ∧ (∀ j y, j < k → L[j]? = some y → y.free = false) ∧ w0 = wr) (fun c _ => ll - (intOf c).toNat)
  case atStart => exact ⟨0, Nat.zero_le _, rfl, fun j y hj => absurd hj (by omega), rfl⟩
  case round =>
    obtain ⟨k, hk, rfl, hno, rfl⟩ := hrel
    have HNO := Lib.hid hno
    obtain ⟨_, x0, x1, x2, x3⟩ := X2.out
    clear hno
    by_cases hlt : k < ll
    · obtain ⟨y, hy⟩ := getElem?_some (xs := L) (j := k) (by rw [← HLL.out]; exact hlt)
      obtain ⟨g, cap, hv, hgb, hgl⟩ := HO.out.form (by omega)
      injection hv with e1 e2 e3
      clear e2
      subst e1 e3
      obtain ⟨b, hbl', -, hob⟩ := ownsRow_hasL HO.out
      have hbg : b = g := by
        have := hob (by rw [← HLL.out]; omega)
        simp [Value.ownBlock] at this; exact this.symm
      subst hbg
      obtain ⟨-, hb2, off, e4, l0, l1, l2, l3⟩ := hbl'.at_ hy
      injection e4 with e4
      injection e4 with e4 e5
      subst e5
      simp only [Nat.zero_add] at l0 l1 l2 l3
      clear e4 hob hbl' hb2
      have HY := Lib.hid hy
      have k0 : (0 : Int) ≤ (k : Int) := by omega
      have k1 : (k : Int) < (ll : Int) := by omega
      clear hy
      cases hf : y.free with
      | false =>
        rw [hf] at l3
        have HF := Lib.hid hf
        clear hf
        go_wp2_with fail
        go_roundw
        case rel =>
          refine ⟨k + 1, by omega, by go_num, fun j z hj hz => ?_, by first | rfl | trivial⟩
          by_cases e : j = k
          · subst e; rw [HY.out] at hz; cases hz; exact HF.out
          · exact HNO.out j z (by omega) hz
        case measure => simp [intOf]; omega
      | true =>
        rw [hf] at l3
        have HPU : Hid (putL L ⟨s, c, r, fr⟩ = some (L.set k ⟨s, c, r, fr⟩, k)) := by
          unfold putL; rw [findFree_some HY.out hf HNO.out]; rfl
        obtain ⟨m0, m1, m2, m3⟩ := X3.out
        simp only [Nat.zero_add] at m0 m1 m2 m3
        have f0 := HO.out.frozenAt (k * 4)
        have f1 := HO.out.frozenAt (k * 4 + 1)
        have f2 := HO.out.frozenAt (k * 4 + 2)
        have f3 := HO.out.frozenAt (k * 4 + 3)
        clear hf
        have hbw : b < w.heap.size := (HOW.out.lt b rfl).2
        have HBW := Lib.hid hbw
        have HLH := Lib.hid (HBB.out b rfl)
        go_upto_region 6 with fail
        clear m0 m1 m2 m3 f0 f1 f2 f3 l0 l1 l2 l3 x0 x1 x2 x3
        obtain ⟨wS, hwS⟩ : ∃ wS, wS = (((w0.setCell ⟨b, k * 4, none⟩ (.int .i64 (s : Int))).setCell ⟨b, k * 4 + 1, none⟩ (.int .i64 (c : Int))).setCell ⟨b, k * 4 + 2, none⟩ (.int .i64 (r : Int))).setCell ⟨b, k * 4 + 3, none⟩ (.bool fr) := ⟨_, rfl⟩
        rw [← hwS]
        have sp : Span b (b + 1) w0 wS := by rw [hwS]; exact set4_span w0 b (k * 4) ⟨s, c, r, fr⟩
        have HOS : Hid (wS.ownsRow B 30 4 (.slice (some ⟨b, 0, none⟩) (L.set k ⟨s, c, r, fr⟩).length q) (L.set k ⟨s, c, r, fr⟩).length (flat (L.set k ⟨s, c, r, fr⟩))) := by
          rw [hwS]
          have h0 := HO.out
          rw [HLL.out] at h0
          exact own_stored4 h0 ⟨s, c, r, fr⟩ (by rw [← HLL.out]; exact hlt)
        have Y2 := Lib.hid (X2.out.span sp (.inr (.inr HBW.out)))
        have Y4 := Lib.hid (X4.out.span sp (.inr (.inr (by have := HBW.out; omega))))
        have YS := Lib.hid (HS.out.onto sp HLH.out)
        have HSL : Hid ((L.set k ⟨s, c, r, fr⟩).length = ll) := by unfold Hid; rw [List.length_set]; exact HLL.out.symm
        clear hwS sp
        obtain ⟨_, x0, x1, _, _⟩ := Y2.out
        obtain ⟨_, y0, y1, y2, y3⟩ := Y4.out
        have HB := Lib.hid (box_stored (u' := .slice AS n cS) (v' := .slice (some ⟨b, 0, none⟩) ll q) Y4.out)
        have HSF := Lib.hid ((YS.out.setCell (p := ⟨w.heap.size + 1 + 1, 0, none⟩) (.inr (by simp only; omega)) (.slice AS n cS)).setCell (p := ⟨w.heap.size + 1 + 1, 1, none⟩) (.inr (by simp only; omega)) (.slice (some ⟨b, 0, none⟩) ll q))
        have HOF := Lib.hid (ownsRow_setCell_off (ownsRow_setCell_off HOS.out (a := ⟨w.heap.size + 1 + 1, 0, none⟩) (by simp [Value.ownBlock]; have := HBW.out; omega) (.slice AS n cS)) (a := ⟨w.heap.size + 1 + 1, 1, none⟩) (by simp [Value.ownBlock]; have := HBW.out; omega) (.slice (some ⟨b, 0, none⟩) ll q))
        go_wp2_with fail
        refine bodyPost_ret (v := .tuple #[.agg #[.slice AS n cS, .slice (some ⟨b, 0, none⟩) ll q], .int .i64 (k : Int), .bool true]) (by simp [results, Try.results57, go_sem, HB.out.1, HB.out.2]) rfl ?_
        rw [HPU.out]
        exact ⟨⟨_, q, by rw [HSL.out], HOF.out⟩, HSF.out⟩
    · have hke : ll = k := by omega
      subst hke
      have hnone : L.findIdx? (·.free) = none := findFree_none (by rw [← HLL.out]; exact HNO.out)
      obtain ⟨_, y0, y1, y2, y3⟩ := X4.out
      clear hk hlt
      by_cases h16 : ll = 16
      · have HPU : Hid (putL L ⟨s, c, r, fr⟩ = none) := by
          unfold Hid putL; rw [hnone]; simp only []; rw [if_neg (by rw [← HLL.out]; omega)]
        have h16' : (16 : Int) ≤ (ll : Int) := by omega
        have HB := Lib.hid (box_stored (u' := .slice none 0 0) (v' := .slice none 0 0) X4.out)
        have HSF := Lib.hid ((HS.out.setCell (p := ⟨w.heap.size + 1 + 1, 0, none⟩) (.inr (by simp only; omega)) (.slice none 0 0)).setCell (p := ⟨w.heap.size + 1 + 1, 1, none⟩) (.inr (by simp only; omega)) (.slice none 0 0))
        clear hnone h16
        go_wp2_with fail
        refine bodyPost_ret (v := .tuple #[.agg #[.slice none 0 0, .slice none 0 0], .int .i64 0, .bool false]) (by simp [results, Try.results57, go_sem, HB.out.1, HB.out.2]) rfl ?_
        rw [HPU.out]
        exact ⟨rfl, HSF.out⟩
      · have HPU : Hid (putL L ⟨s, c, r, fr⟩ = some (L ++ [⟨s, c, r, fr⟩], ll)) := by
          unfold Hid putL; rw [hnone]; simp only []; rw [if_pos (by rw [← HLL.out]; omega), ← HLL.out]
        have h16' : ¬ (16 : Int) ≤ (ll : Int) := by omega
        have HL16 : Hid (ll < 16) := by unfold Hid; omega
        obtain ⟨m0, m1, m2, m3⟩ := X3.out
        simp only [Nat.zero_add] at m0 m1 m2 m3
        clear hnone h16
        go_upto_region 10 with fail
        go_wp2_with (first
          | (at_builtin; refine wpList_append_own_at _ rfl _ _ 24 rfl B 30 il (.agg #[.int .i64 0, .int .i64 0, .int .i64 0, .bool false]) 4 32 Try.underlying24 hil hzl hsl hbl rfl (by decide) _ _ _ rfl (HO.out.alloc _) ⟨w0.heap.size, 0, none⟩ 1 1 (lsC ⟨s, c, r, fr⟩) rfl rfl ?c1 ?c2 ?c3 ?c4 ?c5 ?_; (case c1 => exact World.news_of_block (heap_alloc_new _ _)); (case c2 => exact fun u hu => flat_one' (L := [⟨s, c, r, fr⟩]) u (by rw [flat_one]; exact hu)); (case c3 => have := HL16.out; unfold maxLen; omega); (case c4 => have := HL16.out; omega); (case c5 => have := HB0.out; have := HS.out.size; simp; omega); intro v1 w5 ho hgr _ hat; obtain ⟨A3, q3, rfl⟩ := ownsRow_slice ho; obtain ⟨d0, d1, d2, D2, D4, DO, DS⟩ := put_grown HS.out (fun k hk => ⟨HBB.out k (by rw [← HLL.out]; exact hk), (HOW.out.lt k (by rw [← HLL.out]; exact hk)).2⟩) X2.out X4.out (by omega) hgr ho hat; have HD2 := Lib.hid D2; have HD4 := Lib.hid D4; have HDO := Lib.hid DO; have HDS := Lib.hid DS; have HNE : Hid ((Value.slice A3 (ll + 1) q3).ownBlock ≠ some (w.heap.size + 1 + 1)) := (by unfold Hid; rcases hat with h | h; (rw [h]; intro hh; have := (HOW.out.lt _ (by rw [← HLL.out]; exact hh)).2; omega); (rw [h]; have h4 := X4.out.1; simp; omega)); clear D2 D4 DO DS ho hgr hat))
        clear d0 d1 d2 m0 m1 m2 m3 y0 y1 y2 y3 x0 x1 x2 x3
        obtain ⟨m1, hm1⟩ : ∃ m1, m1 = ll + 1 := ⟨_, rfl⟩
        rw [← hm1] at HD2 HD4 HDO HDS HNE
        rw [← hm1]
        have HM1 := Lib.hid hm1
        have hw : IntKind.i64.wrap ((m1 : Int) - 1) = (m1 : Int) - 1 := IntWalk.i64_in _ (by omega)
        have HSL : Hid ((L ++ [(⟨s, c, r, fr⟩ : Ls)]).length = m1) := by unfold Hid; rw [List.length_append, ← HLL.out]; exact hm1.symm
        have HVV : Hid ((m1 : Int) - 1 = (ll : Int)) := by unfold Hid; omega
        clear hm1
        obtain ⟨_, d0, d1, _, _⟩ := HD2.out
        obtain ⟨_, e0, e1, e2, e3⟩ := HD4.out
        have HB := Lib.hid (box_stored (u' := .slice AS n cS) (v' := .slice A3 m1 q3) HD4.out)
        generalize hwT : w5.setCell ⟨w.heap.size, 1, none⟩ (.slice A3 m1 q3) = wT at *
        clear hwT
        have HSF := Lib.hid ((HDS.out.setCell (p := ⟨w.heap.size + 1 + 1, 0, none⟩) (.inr (by simp only; omega)) (.slice AS n cS)).setCell (p := ⟨w.heap.size + 1 + 1, 1, none⟩) (.inr (by simp only; omega)) (.slice A3 m1 q3))
        have sp : Span (w.heap.size + 1 + 1) (w.heap.size + 1 + 1 + 1) wT ((wT.setCell ⟨w.heap.size + 1 + 1, 0, none⟩ (.slice AS n cS)).setCell ⟨w.heap.size + 1 + 1, 1, none⟩ (.slice A3 m1 q3)) := ((Span.refl _ _ wT).setCell (p := ⟨w.heap.size + 1 + 1, 0, none⟩) (.inl ⟨Nat.le_refl _, Nat.lt_succ_self _⟩) _).setCell (p := ⟨w.heap.size + 1 + 1, 1, none⟩) (.inl ⟨Nat.le_refl _, Nat.lt_succ_self _⟩) _
        obtain ⟨_, z0, z1, _, _⟩ := HD2.out.span sp (.inr (.inl (by omega)))
        have HOF := Lib.hid (ownsRow_setCell_off (ownsRow_setCell_off HDO.out (a := ⟨w.heap.size + 1 + 1, 0, none⟩) HNE.out (.slice AS n cS)) (a := ⟨w.heap.size + 1 + 1, 1, none⟩) HNE.out (.slice A3 m1 q3))
        clear sp
        go_region_held3 (fun w' => w'.cell? ⟨w.heap.size, 0, none⟩ = some (.slice AS n cS) ∧ w'.cell? ⟨w.heap.size, 1, none⟩ = some (.slice A3 m1 q3))
          (first
            | exact ⟨d0, d1⟩
            | exact ⟨z0, z1⟩)
          ((fail))
        all_goals
          go_wp2_with fail
          refine bodyPost_ret (v := .tuple #[.agg #[.slice AS n cS, .slice A3 m1 q3], .int .i64 ((m1 : Int) - 1), .bool true]) (by simp [results, Try.results57, go_sem, HB.out.1, HB.out.2]) rfl ?_
          rw [HPU.out]
          refine ⟨⟨A3, q3, by rw [HSL.out, HVV.out], ?_⟩, HSF.out.drewN 1⟩
          rw [HSL.out, flat_append, flat_one]
          exact HOF.out.drew
end Go.Proofs.Ytlhocjoncblocaa
