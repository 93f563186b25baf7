/- FnSummed. -/
import Derived.Test.YtmdmfkdmgmcbpaaF3
import Derived.Test.YtmdmfkdmgmcbpaaF2
import Derived.Test.YtmdmfkdmgmcbpaaI6
import Derived.Deep.DeepCutAuto
import Derived.Outline
namespace Go.Proofs.Ytmdmfkdmgmcbpaa
open Go.RowKit

theorem fe_nan {k : FloatKind} {a b : Nat} (h : FE k a b) (hn : nanB k b = true) : nanB k a = true := by
  rcases h with rfl | ⟨h, _⟩
  · exact hn
  · exact h

/-- A sum against one that is the same but for the bits of NaN. -/
theorem sum_test {a p x : Nat} (w0 : World) (h : ∀ w, FE .f32 a (fAr .add .f32 p x w)) :
    (∃ z, (∀ w, fAr .add .f32 p x w = z) ∧ fDr .add .f32 p x = 0 ∧ a = z ∧ FloatKind.f32.format.order z z = some .eq) ∨
    (FloatKind.f32.format.order a a = none ∧ (∀ w, FloatKind.f32.format.order a (fAr .add .f32 p x w) = none) ∧ (∀ w, FloatKind.f32.format.order (fAr .add .f32 p x w) (fAr .add .f32 p x w) = none)) := by
  have key : (∀ w, nanB .f32 (fAr .add .f32 p x w) = true) → FloatKind.f32.format.order a a = none ∧ (∀ w, FloatKind.f32.format.order a (fAr .add .f32 p x w) = none) ∧ (∀ w, FloatKind.f32.format.order (fAr .add .f32 p x w) (fAr .add .f32 p x w) = none) := by
    intro hn
    exact ⟨order_nan_left (fe_nan (h w0) (hn w0)), fun w => order_nan_right (hn w), fun w => order_nan_left (hn w)⟩
  cases hf : floatBits .add .f32 p x with
  | some z =>
    obtain ⟨c1, c2⟩ := ar_of hf
    cases hn : nanB .f32 z with
    | false =>
      left
      refine ⟨z, c1, c2, ?_, by rw [order_self, hn]; rfl⟩
      have := h w0
      rw [c1 w0] at this
      exact fe_eq this hn
    | true => exact .inr (key fun w => by rw [c1 w]; exact hn)
  | none => exact .inr (key fun w => fAr_nan w hf)

/-- More fuel makes no difference. -/
theorem pairsN_fuel : ∀ (n m : Nat) (xs : List Nat), xs.length ≤ n → xs.length ≤ m → pairsN n xs = pairsN m xs := by
  intro n
  induction n with
  | zero =>
    intro m xs h1 _
    have h0 : xs.length = 0 := by omega
    cases m with
    | zero => rfl
    | succ m => unfold pairsN; rw [if_pos h0]
  | succ n ih =>
    intro m xs h1 h2
    cases m with
    | zero =>
      have h0 : xs.length = 0 := by omega
      unfold pairsN; rw [if_pos h0]
    | succ m =>
      unfold pairsN
      by_cases h0 : xs.length = 0
      · rw [if_pos h0, if_pos h0]
      · rw [if_neg h0, if_neg h0]
        by_cases h3 : xs.length = 1
        · rw [if_pos h3, if_pos h3]
        · rw [if_neg h3, if_neg h3, ih m (xs.take (xs.length / 2)) (by rw [List.length_take]; omega) (by rw [List.length_take]; omega), ih m (xs.drop (xs.length / 2)) (by rw [List.length_drop]; omega) (by rw [List.length_drop]; omega)]

theorem pairs_halves {xs : List Nat} (h : 2 ≤ xs.length) : pairsN xs.length xs = fC .add .f32 (pairsN (xs.take (xs.length / 2)).length (xs.take (xs.length / 2))) (pairsN (xs.drop (xs.length / 2)).length (xs.drop (xs.length / 2))) := by
  obtain ⟨n, hn⟩ : ∃ n, xs.length = n + 1 := ⟨xs.length - 1, by omega⟩
  have e1 := pairsN_fuel n (xs.take (xs.length / 2)).length (xs.take (xs.length / 2)) (by rw [List.length_take]; omega) (Nat.le_refl _)
  have e2 := pairsN_fuel n (xs.drop (xs.length / 2)).length (xs.drop (xs.length / 2)) (by rw [List.length_drop]; omega) (Nat.le_refl _)
  rw [← e1, ← e2]
  conv => lhs; rw [hn]
  rw [pairsN, if_neg (by omega), if_neg (by omega)]

theorem flt_cells {xs : List Nat} : ∀ u ∈ xs.map fltV, u.oneCell' = true := by
  intro u hu
  obtain ⟨x, _, rfl⟩ := List.mem_map.1 hu
  rfl

theorem HasBy.drewN' {B : Nat} {w : World} {A : Option Addr} {n : Nat} (h : HasBy B w A n) (m : Nat) : HasBy B (w.drewN m) A n := h

theorem HBySz {B : Nat} {w : World} {A : Option Addr} {n : Nat} (h : HasBy B w A n) (hB : B ≤ w.heap.size) : HasBy w.heap.size w A n := fun hp => by
  obtain ⟨b, off, rfl, hb, hc⟩ := h hp
  exact ⟨b, off, rfl, by omega, hc⟩

theorem ownsRow_below {w w' : World} {B : Nat} {e : TypeId} {s : Nat} {v : Value} {n : Nat} {xs : List Value} (h : w.ownsRow B e s v n xs) (hb : Below w.heap.size w w') : w'.ownsRow B e s v n xs := by
  obtain ⟨hl, h | ⟨g, cap, cur, rfl, hg, hh, h1, h2, h3, h4⟩⟩ := h
  · exact ⟨hl, .inl h⟩
  · have hlt : g < w.heap.size := by
      by_cases hg : g < w.heap.size
      · exact hg
      · rw [Array.getElem?_eq_none (by omega)] at hh; cases hh
    exact ⟨hl, .inr ⟨g, cap, cur, rfl, hg, (hb.block g hlt).trans hh, h1, h2, h3, h4⟩⟩

set_option maxRecDepth 100000 in
set_option maxHeartbeats 8000000 in
theorem law_summed (A : Option Addr) (n c : Nat) (w : World) (h : HasBy w.heap.size w A n) : Calls Try.prog 4 #[.slice A n c] w (Says w) := by
  by_cases hn : n ≤ 1048576
  · have HN := Lib.hid hn
    have HBy := Lib.hid h
    clear h hn
    have hn' : (n : Int) ≤ 1048576 := by have := HN.out; omega
    obtain ⟨ip, hip, hzp, hsp, hbp⟩ := info_parts info_f32
    have HO0 : Hid ((w.alloc (.cells #[] 25)).ownsRow w.heap.size 25 1 (.slice (some ⟨w.heap.size, 0, none⟩) 0 0) 0 (([] : List Nat).map fltV)) :=
      World.ownsRow_made (base := w.heap.size) (e := 25) (size := 1) w #[] 0 (Nat.le_refl _) (Nat.zero_le _) rfl
    have HB0 := Lib.hid ((Below.refl w.heap.size w).alloc (Nat.le_refl _) (.cells #[] 25))
    go_enter Try.func4, Try.ntmps4
    go_wp2_with fail
    go_loopw [3, 4] (fun u q wr => ∃ (i : Nat) (xs : List Nat), i ≤ 20 ∧ xs.length = i ∧ q = .int .i64 i ∧ (∃ ad q', u = .slice (some ad) i q') ∧ wr.ownsRow w.heap.size 25 1 u i (xs.map fltV) ∧ Below w.heap.size w wr) (fun _ q _ => 30 - (intOf q).toNat)
    case atStart => exact ⟨0, [], by omega, rfl, rfl, ⟨_, _, rfl⟩, HO0.out, HB0.out⟩
    case round =>
      clear HO0 HB0
      obtain ⟨i, xs, hi, hl, rfl, ⟨ad, q', rfl⟩, ho, hb⟩ := hrel
      have HLx := Lib.hid hl
      have HO := Lib.hid ho
      have HB := Lib.hid hb
      have HBy1 := Lib.hid (HBy.out.below hb)
      clear hl ho hb
      go_wp2_with fail
      refine (at_any w.heap.size A n c 1 wr (by omega) (by omega) HN.out HBy1.out).mono ?_
      rintro _ _ ⟨⟨v, rfl, v0, v1⟩, rfl⟩
      by_cases hlt : (i : Int) < v % 20
      · have i1 : (i : Int) < 20 := by omega
        have i2 : (3 : Int) + (i : Int) ≤ 1000 := by omega
        go_wp2_with fail
        refine (fresh_any A n c (3 + (i : Int)) wr (by omega) (by omega) HN.out (by exact HBySz HBy1.out HB.out.size)).mono ?_
        rintro _ w2 ⟨A2, n2, c2, rfl, hn2, hby2, hb2⟩
        have HBy2 := Lib.hid hby2
        have HB2 := Lib.hid (HB.out.trans (hb2.mono HB.out.size))
        have HO2 := Lib.hid (ownsRow_below HO.out hb2)
        clear hby2 hb2
        go_wp2_with fail
        refine (makeFloat_any A2 n2 c2 w2 (by omega) HBy2.out).mono ?_
        rintro _ w3 ⟨r, rfl, hr, hb3⟩
        have HR := Lib.hid hr
        have HB3 := Lib.hid (HB2.out.trans (hb3.mono (by have := HB2.out.size; exact this)))
        have HO3 := Lib.hid (ownsRow_below HO2.out hb3)
        clear hr hb3
        go_wp2_with (at_builtin; go_loud ((refine wpList_append_own _ rfl _ _ 23 rfl w.heap.size 25 ip (.float .f32 0) 1 4 Try.underlying23 hip hzp hsp hbp rfl (by decide) _ _ _ rfl (HO3.out.alloc _) ⟨w3.heap.size, 0, none⟩ 1 1 [fltV r] rfl rfl ?c1 ?c2 ?c3 ?c4 ?c5 ?_); (case c1 => exact one_new _ _ _); (case c2 => exact one_cell (by rfl)); (case c3 => unfold maxLen; omega); (case c4 => omega); (case c5 => have := HB3.out.size; simp; omega); intro v2 w4 ho4 hg4 hn4; have HO4 := Lib.hid ho4; have HG4 := Lib.hid hg4; have HN4 := Lib.hid hn4; clear ho4 hg4 hn4))
        go_roundw
        case rel =>
          have ow := HO3.out
          have hs4 : ∃ ad q', v2 = .slice (some ad) (i + 1) q' := by
            rcases HO4.out.2 with ⟨h, h0⟩ | ⟨g, cap, cur, h, _⟩
            · omega
            · exact ⟨_, _, h⟩
          refine ⟨i + 1, xs ++ [r], by omega, by rw [List.length_append, HLx.out]; rfl, by go_num, hs4, by have := HO4.out; simpa using this, (HB3.out.alloc HB3.out.size _).grown HG4.out (by have := HB3.out.size; simp; omega) (fun k' hk' => (ow.lt k' hk').1)⟩
        case measure => simp [intOf]; omega
      · obtain ⟨wa, rfl⟩ : ∃ wa : World, wa = wr := ⟨_, rfl⟩
        have hge : v % 20 ≤ (i : Int) := by omega
        go_wp2_with fail
        refine (fresh_any A n c 50 wa (by omega) (by omega) HN.out (by exact HBySz HBy1.out HB.out.size)).mono ?_
        rintro _ w2 ⟨A2, n2, c2, rfl, hn2, hby2, hb2⟩
        have HBy2 := Lib.hid hby2
        have HB2 := Lib.hid (HB.out.trans (hb2.mono HB.out.size))
        have HO2 := Lib.hid (ownsRow_below HO.out hb2)
        clear hby2 hb2
        go_wp2_with fail
        refine (makeFloat_any A2 n2 c2 w2 (by omega) HBy2.out).mono ?_
        rintro _ w3 ⟨x, rfl, hx, hb3⟩
        have HX := Lib.hid hx
        have HB3 := Lib.hid (HB2.out.trans (hb3.mono (by have := HB2.out.size; exact this)))
        have HO3 := Lib.hid (ownsRow_below HO2.out hb3)
        have HM := Lib.hid (World.ownsRow_made (base := w3.heap.size) (e := 25) (size := 1) w3 #[] 0 (Nat.le_refl _) (Nat.zero_le _) rfl)
        clear hx hb3
        obtain ⟨g, rfl⟩ : ∃ g, ad = ⟨g, 0, none⟩ := by
          rcases HO3.out.2 with ⟨h, h0⟩ | ⟨g, cap, cur, h, _⟩
          · cases h
          · injection h with h1; injection h1 with h1; exact ⟨g, h1⟩
        have HLC := Lib.hid ((HO3.out.alloc (.cells #[] 25)).cells (g := g) rfl)
        go_wp2_with (first
          | (at_builtin; refine wpList_append_own _ rfl (.tmp 40) (.tmp 41) 23 rfl w3.heap.size 25 ip (.float .f32 0) 1 4 Try.underlying23 hip hzp hsp hbp rfl (by decide) _ _ _ rfl HM.out ⟨g, 0, none⟩ i q' (xs.map fltV) rfl ?d1 ?d2 ?d3 ?d4 ?d5 ?d6 ?_; (case d1 => rw [List.length_map, HLx.out, Nat.mul_one]); (case d2 => exact HLC.out); (case d3 => exact flt_cells); (case d4 => unfold maxLen; omega); (case d5 => omega); (case d6 => simp); intro v4 w4 ho4 hg4 _; rw [Nat.zero_add, List.nil_append] at ho4; obtain ⟨A4, q4, rfl⟩ := ownsRow_slice ho4; have HO4 := Lib.hid ho4; have HG4 := Lib.hid hg4; clear ho4 hg4)
          | (at_builtin; refine wpList_append_own _ rfl (.tmp 42) (.tmp 44) 23 rfl w3.heap.size 25 ip (.float .f32 0) 1 4 Try.underlying23 hip hzp hsp hbp rfl (by decide) _ _ _ rfl (HO4.out.alloc _) ⟨w4.heap.size, 0, none⟩ 1 1 [fltV x] rfl rfl ?e1 ?e2 ?e3 ?e4 ?e5 ?_; (case e1 => exact one_new _ _ _); (case e2 => exact one_cell (by rfl)); (case e3 => unfold maxLen; omega); (case e4 => omega); (case e5 => have := HG4.out.size; simp at this ⊢; omega); intro v5 w5 ho5 hg5 _; obtain ⟨A5, q5, rfl⟩ := ownsRow_slice ho5; have HO5 := Lib.hid ho5; have HG5 := Lib.hid hg5; clear ho5 hg5))
        have g4 := HG4.out
        have g5 := HG5.out
        have hs4 := g4.size
        have hs5 := g5.size
        have hlist : w5.ownsRow w.heap.size 25 1 (.slice (some ⟨g, 0, none⟩) i q') i (xs.map fltV) := by
          have l3 := HO3.out.lt g rfl
          have l4 := (HO3.out.alloc (.cells #[] 25)).kept g4 (.inr (by intro e; have e' : some g = some w3.heap.size := e; injection e' with e'; omega))
          exact (l4.alloc _).kept g5 (.inr (by intro e; have e' : some g = _ := e; have := (HO4.out.lt g e'.symm).1; omega))
        have HF := Lib.hid hlist
        have HB5 : Hid (Below w.heap.size w w5) := by
          have z3 := HB3.out.size
          have b4 := (HB3.out.alloc z3 (.cells #[] 25)).grown g4 (by simp; omega) (fun k hk => by have e' : some w3.heap.size = some k := hk; injection e' with e'; omega)
          have z4 := b4.size
          exact (b4.alloc z4 _).grown g5 (by simp; omega) (fun k hk => by have := (HO4.out.lt k hk).1; omega)
        clear g4 g5 hs4 hs5 hlist
        have HM5 : Hid (w5.ownsRow w3.heap.size 25 1 (.slice A5 (i + 1) q5) (i + 1) ((xs ++ [x]).map fltV)) := by
          have := HO5.out
          unfold Hid
          rw [List.map_append]
          exact this
        have HFL : Hid (HasF w5 (.slice (some ⟨g, 0, none⟩) i q') xs) := by
          obtain ⟨b', h1, -, -⟩ := ownsRow_hasS HF.out
          exact hasF_of h1
        have HFM : Hid (HasF w5 (.slice A5 (i + 1) q5) (xs ++ [x])) := by
          obtain ⟨b', h1, -, -⟩ := ownsRow_hasS HM5.out
          exact hasF_of h1
        have hq' : Hid (i ≤ q') := by
          rcases HF.out.2 with ⟨h, h0⟩ | ⟨g', cap, cur, h, _, _, h2, _⟩
          · cases h
          · injection h with _ _ h3; unfold Hid; omega
        have HBy5 : Hid (HasBy w.heap.size w5 A n) := HBy.out.below HB5.out
        clear HO3 HM HLC HO4 HG4 HO5 HG5 HB2 HO2 HBy2 HO HB HBy1 hge v0 v1
        refine (impl_sumForward (xs ++ [x]) _ _ HFM.out (by rw [List.length_append, HLx.out]; simp; omega)).mono ?_
        rintro _ _ ⟨ra, m1, rfl, rfl, hra⟩
        have HRA := Lib.hid hra
        clear hra
        go_wp2_with fail
        refine (impl_sumForward xs _ _ (HFL.out.drewN _) (by rw [HLx.out]; omega)).mono ?_
        rintro _ _ ⟨rb, m2, rfl, rfl, hrb⟩
        have HST := Lib.hid (sum_test (a := ra) (p := rb) (x := x) w (fun w => by
          have e : sumF (xs ++ [x]) = fC .add .f32 (sumF xs) x := by simp [sumF]
          have h1 := HRA.out
          rw [e] at h1
          exact h1.trans (FE.arC w hrb (FE.refl _ _)).symm))
        clear hrb HRA
        go_upto_region 12 with fail
        go_cut [64] (fun s64 wx => s64 = .bool false ∧ ∃ m, wx = w5.drewN m)
        case first =>
          rcases HST.out with ⟨z, c1, c2, rfl, o1⟩ | ⟨o1, o2, o3⟩
          · go_wp2_with fail
            go_meet
            exact ⟨rfl, _, rfl⟩
          · go_wp2_with fail
            go_meet
            exact ⟨rfl, _, rfl⟩
        case rest =>
          obtain ⟨rfl, m, rfl⟩ := hcut
          clear HST
          go_upto_if 68 with fail
          go_cut [] (fun wx => ∃ m, wx = w5.drewN m)
          case first =>
            by_cases hi1 : 1 < i
            · have hql : i ≤ q' := hq'.out
              have Hi1 := Lib.hid hi1
              go_wp2_with fail
              refine (impl_sumPairs xs.length xs _ _ (HFL.out.drewN _) (by rw [HLx.out]; omega) (Nat.le_refl _)).mono ?_
              rintro _ _ ⟨rc, m3, rfl, rfl, hrc⟩
              have HRC := Lib.hid hrc
              obtain ⟨hh, hhe⟩ : ∃ hh, hh = i / 2 := ⟨_, rfl⟩
              have HHE := Lib.hid hhe
              have hh1 : 1 ≤ hh := by omega
              have hh2 : hh < i := by omega
              have hw0 : (i : Int) / 2 = (hh : Int) := by omega
              have hw1 : IntKind.i64.wrap ((i : Int) / 2) = (hh : Int) := by rw [hw0]; exact IntWalk.i64_in _ (by omega)
              clear hhe
              have ht := Lib.hid (HFL.out.take (k := hh) (by omega))
              have hd0 := HFL.out.drop (k := hh) (by omega)
              rw [Nat.zero_add] at hd0
              have hd := Lib.hid hd0
              clear hd0
              have Iht := Lib.hid (fun w' h => impl_sumPairs (xs.take hh).length (xs.take hh) (.slice (some ⟨g, 0, none⟩) hh q') w' h (by rw [List.length_take]; omega) (Nat.le_refl _))
              have Ihd := Lib.hid (fun w' h => impl_sumPairs (xs.drop hh).length (xs.drop hh) (.slice (some ⟨g, hh, none⟩) (i - hh) (q' - hh)) w' h (by rw [List.length_drop, HLx.out]; omega) (Nat.le_refl _))
              clear hrc
              go_upto_region 17 with fail
              go_cut [11] (fun s11 wx => ∃ p q w9 m, s11 = .float .f32 (fAr .add .f32 p q w9) ∧ FE .f32 p (pairsN (xs.take hh).length (xs.take hh)) ∧ FE .f32 q (pairsN (xs.drop hh).length (xs.drop hh)) ∧ wx = w5.drewN m)
              case first =>
                have ecap : ¬ q' = hh := by omega
                have j0 : (0 : Int) ≤ (hh : Int) := by omega
                have j1 : (hh : Int) ≤ (i : Int) := by omega
                have j2 : (hh : Int) ≤ (q' : Int) := by omega
                have j3 : hh ≤ q' := by omega
                have j4 : hh ≤ i := by omega
                have j5 : ¬ q' = 0 := by omega
                have j6 : 0 < q' := by omega
                have j7 : ¬ hh = q' := by omega
                have j8 : ¬ hh = 0 := by omega
                clear j3 j4 j5 j6 j7 j8
                have hw2 : IntKind.i64.wrap (hh : Int) = (hh : Int) := IntWalk.i64_in _ (by omega)
                go_region_with (first
                  | (go_at_call 12; (with_reducible refine (Iht.out _ ?_).mono ?_); (first | exact ht.out | exact ht.out.drewN _); rintro _ _ ⟨p, n1, rfl, rfl, hp⟩)
                  | (go_at_call 12; (with_reducible refine (Ihd.out _ ?_).mono ?_); (first | exact hd.out | exact hd.out.drewN _); rintro _ _ ⟨q, n2, rfl, rfl, hq⟩))
                all_goals
                  go_wp2_with fail
                  go_meet
                  exact ⟨p, q, _, _, rfl, hp, hq, rfl⟩
              case rest =>
                obtain ⟨p, q, w9, m4, rfl, hp, hq, rfl⟩ := hcut
                have HST := sum_test (a := rc) (p := p) (x := q) w (fun w => by
                  have h1 := HRC.out
                  have e := pairs_halves (xs := xs) (by rw [HLx.out]; exact Hi1.out)
                  rw [HLx.out] at h1 e
                  rw [e, ← HHE.out] at h1
                  exact h1.trans (FE.arC w hp hq).symm)
                clear hp hq
                rcases HST with ⟨z, c1, c2, rfl, o1⟩ | ⟨o1, o2, o3⟩
                · go_wp2_with fail
                  go_meet
                  exact ⟨_, rfl⟩
                · go_wp2_with fail
                  go_meet
                  exact ⟨_, rfl⟩
            · go_wp2_with fail
              go_meet
              exact ⟨_, rfl⟩
          case rest =>
            obtain ⟨m5, rfl⟩ := hcut
            go_wp2_with fail
            refine (spec_stepsOf x _).mono ?_
            rintro _ _ ⟨m6, rfl, rfl⟩
            by_cases hfin : rungOf Ieee.single x < 2139095040
            · rw [if_pos hfin]
              have HFIN := Lib.hid hfin
              have sb := stepsZ_bound2 hfin
              clear hfin
              obtain ⟨sx, hsx⟩ : ∃ sx, sx = stepsZ x := ⟨_, rfl⟩
              have HSX := Lib.hid hsx
              rw [← hsx] at sb ⊢
              clear hsx
              obtain ⟨sb1, sb2⟩ := sb
              go_wp2_with fail
              refine (at_any w.heap.size A n c 2 _ (by omega) (by omega) HN.out (HBy5.out.drewN' _)).mono ?_
              rintro _ _ ⟨⟨u, rfl, u0, u1⟩, rfl⟩
              go_wp2_with fail
              refine (spec_fromSteps _ _).mono ?_
              rintro _ _ ⟨m7, rfl, rfl⟩
              by_cases hin : -2139095039 ≤ sx + (u - 128) * 30000 ∧ sx + (u - 128) * 30000 ≤ 2139095039
              · rw [if_pos hin]
                obtain ⟨yp1, yp2⟩ := fromB_parts hin
                have hylt := fromB_lt hin
                obtain ⟨k, hk⟩ : ∃ k, k = sx + (u - 128) * 30000 := ⟨_, rfl⟩
                have hkx1 : k ≤ sx + 4194304 := by omega
                have hkx2 : sx ≤ k + 4194304 := by omega
                rw [← hk] at yp1 yp2 hylt hin ⊢
                have hkr : k.natAbs < 2139095040 := by omega
                clear hk
                obtain ⟨y, hy⟩ : ∃ y, y = fromB k := ⟨_, rfl⟩
                rw [← hy] at yp1 yp2 hylt ⊢
                clear hy
                have hyfin : rungOf Ieee.single y < 2139095040 := by rw [yp1]; exact hkr
                have ax := atu_fin HX.out HFIN.out
                have ay := atu_fin hylt hyfin
                have oxx := atu_order ax atu_zero
                have oyy := atu_order ay atu_zero
                have ux := uZ_steps (x := x)
                have uy := uZ_steps (x := y)
                rw [← HSX.out] at ux
                rw [yp2] at uy
                have HAX := Lib.hid ax
                have HAY := Lib.hid ay
                have HUX := Lib.hid ux
                have HUY := Lib.hid uy
                have HYF := Lib.hid (And.intro hylt hyfin)
                have HNE := Lib.hid (fun hp hn => near_diff (x := x) (y := y) HFIN.out hyfin (by rw [yp2, ← HSX.out]; omega) (by rw [yp2, ← HSX.out]; omega) hp hn)
                have HP2 := Lib.hid yp2
                clear yp1 yp2 hylt hkr hkx1 hkx2 ax ay ux uy hyfin
                have cx : compare (uZ x) 0 = .lt ∨ compare (uZ x) 0 = .eq ∨ compare (uZ x) 0 = .gt := by cases compare (uZ x) 0 <;> simp
                have cy : compare (uZ y) 0 = .lt ∨ compare (uZ y) 0 = .eq ∨ compare (uZ y) 0 = .gt := by cases compare (uZ y) 0 <;> simp
                rcases cx with cx | cx | cx <;> rcases cy with cy | cy | cy <;> rw [cx] at oxx <;> rw [cy] at oyy
                all_goals
                  have CX := Lib.hid cx
                  have CY := Lib.hid cy
                  clear cx cy hin
                  go_wp2_with fail
                  first
                  | (go_ret; exact ⟨rfl, Below.drewN HB5.out _⟩)
                  | (have hp : 0 < stepsZ x ↔ 0 < stepsZ y := by rw [HP2.out, ← HSX.out, ← HUX.out.1, ← HUY.out.1]; have h1 := CX.out; have h2 := CY.out; first | (have h1 := cmp_lt.1 h1; have h2 := cmp_lt.1 h2; omega) | (have h1 := cmp_eq.1 h1; have h2 := cmp_eq.1 h2; omega) | (have h1 := cmp_gt.1 h1; have h2 := cmp_gt.1 h2; omega)
                     have hn : stepsZ x < 0 ↔ stepsZ y < 0 := by rw [HP2.out, ← HSX.out, ← HUX.out.2, ← HUY.out.2]; have h1 := CX.out; have h2 := CY.out; first | (have h1 := cmp_lt.1 h1; have h2 := cmp_lt.1 h2; omega) | (have h1 := cmp_eq.1 h1; have h2 := cmp_eq.1 h2; omega) | (have h1 := cmp_gt.1 h1; have h2 := cmp_gt.1 h2; omega)
                     obtain ⟨an, _⟩ := atu_neg HYF.out.1 HYF.out.2
                     obtain ⟨t1, t2, t3⟩ := twoSum_near HAX.out an (HNE.out hp hn)
                     obtain ⟨zz, z1, z2⟩ := atu_add t2 HAY.out (by rw [Int.sub_add_cancel]; exact atu_rep HAX.out)
                     rw [Int.sub_add_cancel] at z2
                     have o1 : FloatKind.f32.format.order zz x = some .eq := by rw [atu_order z2 HAX.out, (cmp_eq).2 rfl]
                     have o2 := atu_order t3 atu_zero
                     rw [(cmp_eq).2 rfl] at o2
                     obtain ⟨d1, d2⟩ := ar_of z1
                     have n1 := Lib.hid (atu_nan t2)
                     have n2 := Lib.hid (atu_nan t3)
                     clear hp hn an t1 t2 t3 z1 z2 oxx oyy
                     refine (impl_twoSum _ _ _).mono ?_
                     rintro _ _ ⟨s', r', m9, rfl, rfl, hs', hr'⟩
                     have es : s' = fC .add .f32 x (Op.negFloat .f32 y) := fe_eq hs' n1.out
                     have er : r' = lostC x (Op.negFloat .f32 y) := fe_eq hr' n2.out
                     rw [es, er]
                     clear hs' hr' es er
                     generalize fC .add .f32 x (Op.negFloat .f32 y) = s8 at d1 d2
                     generalize lostC x (Op.negFloat .f32 y) = r8 at o2
                     go_wp2_with fail
                     go_ret
                     exact ⟨rfl, Below.drewN HB5.out _⟩)
              · rw [if_neg hin]
                go_wp2_with fail
                go_ret
                exact ⟨rfl, Below.drewN HB5.out _⟩
            · rw [if_neg hfin]
              clear hfin
              go_wp2_with fail
              refine (at_any w.heap.size A n c 2 _ (by omega) (by omega) HN.out (HBy5.out.drewN' _)).mono ?_
              rintro _ _ ⟨⟨u, rfl, u0, u1⟩, rfl⟩
              go_wp2_with fail
              refine (spec_fromSteps _ _).mono ?_
              rintro _ _ ⟨m7, rfl, rfl⟩
              rw [if_pos (by omega)]
              go_wp2_with fail
              go_ret
              exact ⟨rfl, Below.drewN HB5.out _⟩
  · have hgt : 1048576 < n := by omega
    clear h hn
    go_enter Try.func4, Try.ntmps4
    go_wp2_with fail
    go_ret
    exact ⟨rfl, Below.refl _ _⟩

end Go.Proofs.Ytmdmfkdmgmcbpaa
