/- FnDecided. -/
import Derived.Test.YtmdmfkdmgmcbpaaN11
import Derived.Outline
import Derived.Deep.QuietTactic
import Derived.BigQuiet
namespace Go.Proofs.Ytmdmfkdmgmcbpaa
open Go.RowKit

set_option maxHeartbeats 1000000 in
theorem ints_true (xs : List Int) (o o' : Bool) (b b' lo lo' hi hi' : Nat) (v v' : Value) (w : World) (hx : HasS intV o b lo hi w v xs) (hx' : HasS intV o' b' lo' hi' w v' xs) (hlen : xs.length ≤ 4194304) :
    Calls Try.prog 35 #[v, v'] w (SaysTrue w) := by
  obtain ⟨A, cap, rfl, hcap, hc⟩ := hx
  obtain ⟨A', cap', rfl, hcap', hc'⟩ := hx'
  obtain ⟨len, hl⟩ : ∃ len, len = xs.length := ⟨_, rfl⟩
  have HL := Lib.hid hl
  rw [← hl] at hlen hcap hcap' ⊢
  clear hl
  have HC := Lib.hid hc; clear hc
  have HC' := Lib.hid hc'; clear hc'
  go_enter Try.func35, Try.ntmps35
  go_wp2
  go_loopw [13] (fun i wr => ∃ (k m : Nat), k ≤ len ∧ i = .int .i64 k ∧ wr = w.drewN m) (fun i _ => len - (intOf i).toNat)
  case atStart => exact ⟨0, 0, Nat.zero_le _, rfl, rfl⟩
  case round =>
    obtain ⟨k, m, hk, rfl, rfl⟩ := hrel
    by_cases hlt : k < len
    · have hkx : k < xs.length := by rw [← HL.out]; exact hlt
      obtain ⟨off, rfl, _, _, _, hcell, _⟩ := HC.out (by omega)
      obtain ⟨off', rfl, _, _, _, hcell', _⟩ := HC'.out (by omega)
      obtain ⟨x, hx⟩ := getElem?_some hkx
      have hck : w.cell? ⟨b, off + k, none⟩ = some (.int .i64 x) := hcell k _ hx
      have hck' : w.cell? ⟨b', off' + k, none⟩ = some (.int .i64 x) := hcell' k _ hx
      clear hcell hcell' hkx hx
      have i0 : (0 : Int) ≤ (k : Int) := by omega
      have i1 : (k : Int) < (len : Int) := by omega
      go_wp2_with fail
      go_region
      all_goals
        go_wp2
        go_roundw
        case rel => exact ⟨k + 1, _, by omega, by go_num, rfl⟩
        case measure => simp [intOf]; omega
    · have hke : k = len := by omega
      have Hk := Lib.hid hke; clear hke
      go_wp2
      go_ret
      exact ⟨_, rfl, rfl⟩


theorem mod_small {v : Int} (h0 : 0 ≤ v) (m : Nat) (hm : 1 ≤ m) : ∃ l : Nat, (l : Int) = v % (m : Int) ∧ l < m := by
  have h1 := Int.emod_nonneg v (show (m : Int) ≠ 0 by omega)
  have h2 := Int.emod_lt_of_pos v (show (0 : Int) < (m : Int) by omega)
  exact ⟨(v % (m : Int)).toNat, by omega, by omega⟩

set_option maxRecDepth 100000 in
set_option maxHeartbeats 8000000 in
theorem law_decided (A : Option Addr) (n c : Nat) (w : World) (h : HasBy w.heap.size w A n) : Calls Try.prog 7 #[.slice A n c] w (Says w) := by
  by_cases hn : n ≤ 1048576
  · have HBy := Lib.hid h
    have HN := Lib.hid hn
    obtain ⟨il, hil, hzl, hsl, hbl⟩ := info_parts info_int
    obtain ⟨ip, hip, hzp, hsp, hbp⟩ := info_parts info_c64
    have hn' : (n : Int) ≤ 1048576 := by omega
    clear h hn
    go_enter Try.func7, Try.ntmps7
    go_wp2_with fail
    refine (at_any w.heap.size A n c 1 w (by omega) (by omega) HN.out HBy.out).mono ?_
    rintro _ _ ⟨⟨v, rfl, v0, v1⟩, rfl⟩
    go_wp2_with fail
    obtain ⟨s, hs, hs8⟩ : ∃ s : Nat, (s : Int) = 1 + v % 8 ∧ 1 ≤ s ∧ s ≤ 8 := ⟨(1 + v % 8).toNat, by omega, by omega⟩
    rw [← hs]
    clear hs v0 v1
    obtain ⟨s1', s8⟩ := hs8
    refine (impl_gridTable_in s s1' s8 w).mono ?_
    rintro _ w1 ⟨⟨v1, rfl, x1⟩, sp1⟩
    have HV := Lib.hid (grid_valid s8 s1')
    have m64 : s * s ≤ 8 * 8 := Nat.mul_le_mul s8 s8
    have m1 : 1 * 1 ≤ s * s := Nat.mul_le_mul s1' s1'
    obtain ⟨m, hm⟩ : ∃ m, m = s * s := ⟨_, rfl⟩
    have HM := Lib.hid hm
    have e1 : (gridT s).1.length = m := by rw [hm]; exact gridP_length _ _
    have e2 : (gridT s).2.length = m := by rw [hm]; exact gridL_length _
    have ms : (s : Int) * (s : Int) = (m : Int) := by rw [hm, Int.natCast_mul]
    rw [← hm] at m64 m1
    obtain ⟨A1, c1, B1, d1, rfl⟩ := x1.form
    rw [e1, e2] at x1 ⊢
    have HE1 := Lib.hid e1
    have HE2 := Lib.hid e2
    clear e1 e2 hm
    have m65 : (m : Int) ≤ 64 := by omega
    have m66 : (1 : Int) ≤ (m : Int) := by omega
    have X1 := Lib.hid (Box.new w1 (.slice A1 m c1) (.slice B1 m d1) 42)
    have HX1 := Lib.hid (x1.span ((Span.refl 0 0 w1).alloc (.cells #[.slice A1 m c1, .slice B1 m d1] 42)) (.inl (Nat.le_refl _)))
    have S1 := Lib.hid (sp1.alloc (.cells #[.slice A1 m c1, .slice B1 m d1] 42))
    clear x1
    go_wp2_with fail
    have HO : Hid (((w1.alloc (.cells #[.slice A1 m c1, .slice B1 m d1] 42)).alloc (.cells #[] 3)).ownsRow (w1.heap.size + 1) 3 1 (.slice (some ⟨w1.heap.size + 1, 0, none⟩) 0 0) 0 ((lI []).map intV)) := by
      have := World.ownsRow_made (base := w1.heap.size + 1) (e := 3) (size := 1) (w1.alloc (.cells #[.slice A1 m c1, .slice B1 m d1] 42)) #[] 0 (by simp) (Nat.zero_le _) rfl
      unfold Hid
      have e : (w1.alloc (.cells #[.slice A1 m c1, .slice B1 m d1] 42)).heap.size = w1.heap.size + 1 := by simp
      rw [e] at this
      exact this
    have ZW : w.heap.size ≤ w1.heap.size := sp1.size
    have HX1' := Lib.hid (HX1.out.span ((Span.refl 0 0 _).alloc (.cells #[] 3)) (.inl (Nat.le_refl _)))
    have X1' := Lib.hid (X1.out.alloc (.cells #[] 3))
    have S1' := Lib.hid (S1.out.alloc (.cells #[] 3))
    clear X1 HX1 S1 sp1
    go_loopw [6, 7] (fun u q wr => ∃ (i : Nat) (ls : List Nat), i ≤ 12 ∧ ls.length = i ∧ (∀ l ∈ ls, l < m) ∧ q = .int .i64 i ∧ wr.ownsRow (w1.heap.size + 1) 3 1 u i ((lI ls).map intV) ∧ Box w1.heap.size (.slice A1 m c1) (.slice B1 m d1) wr ∧ HasTab true w.heap.size w1.heap.size wr (.agg #[.slice A1 m c1, .slice B1 m d1]) (gridT s) ∧ Span 0 0 w wr) (fun _ q _ => 12 - (intOf q).toNat)
    case atStart => exact ⟨0, [], by omega, rfl, (fun _ h => by cases h), rfl, HO.out, X1'.out, HX1'.out, S1'.out⟩
    case round =>
      clear HO HX1' X1' S1'
      obtain ⟨i, ls, hi, hll, hls, rfl, ho, hb, hx, hs⟩ := hrel
      by_cases hlt : i < 12
      · have HLL := Lib.hid hll
        have HLS := Lib.hid hls
        have HOW := Lib.hid ho
        have HB := Lib.hid hb
        have HX := Lib.hid hx
        have HS := Lib.hid hs
        have i1 : ((i : Nat) : Int) < 12 := by omega
        clear hll hls ho hb hx hs
        go_wp2_with fail
        refine (at_any w.heap.size A n c (i : Int) wr (by omega) (by omega) HN.out (HBy.out.below (HS.out.to_below (.inl (Nat.le_refl _))))).mono ?_
        rintro _ _ ⟨⟨q, rfl, q0, q1⟩, rfl⟩
        obtain ⟨l, hl, hlm⟩ := mod_small q0 m (by omega)
        have HLM := Lib.hid hlm
        have hl' : q % (m : Int) = (l : Int) := hl.symm
        clear hl hlm
        go_wp2_with (at_builtin; go_loud ((refine wpList_append_own _ rfl _ _ 40 rfl (w1.heap.size + 1) 3 il (.int .i64 0) 1 8 Try.underlying40 hil hzl hsl hbl rfl (by decide) _ _ _ rfl (HOW.out.alloc _) ⟨wr.heap.size, 0, none⟩ 1 1 [intV (l : Int)] rfl rfl ?c1 ?c2 ?c3 ?c4 ?c5 ?_); (case c1 => exact one_new _ _ _); (case c2 => exact one_cell (by rfl)); (case c3 => unfold maxLen; omega); (case c4 => omega); (case c5 => have := HB.out.1; simp; omega); intro v2 w2 ho hgr _; have HO2 := Lib.hid ho; have HG2 := Lib.hid hgr; clear ho hgr))
        go_roundw
        case rel =>
          have ow := HOW.out
          have z1 := HB.out.1
          have z2 := HS.out.size
          have sp := ((Span.refl (w1.heap.size + 1) wr.heap.size wr).alloc (.cells #[.int .i64 (l : Int)] 3)).grown HG2.out (fun k hk => .inl (ow.lt k hk))
          have sq := (HS.out.alloc (.cells #[.int .i64 (l : Int)] 3)).grown HG2.out (fun k hk => .inr (by have := (ow.lt k hk).1; have := HX.out; omega))
          refine ⟨i + 1, ls ++ [l], by omega, by rw [List.length_append, HLL.out]; rfl, ?_, by go_num, ?_, HB.out.span sp (by omega), HX.out.span sp (by omega), sq⟩
          · intro x hx
            rcases List.mem_append.1 hx with h | h
            · exact HLS.out x h
            · rw [List.mem_singleton.1 h]; exact HLM.out
          · have := HO2.out
            simpa [lI] using this
        case measure => simp [intOf]; omega
      · obtain ⟨wa, rfl⟩ : ∃ wa : World, wa = wr := ⟨_, rfl⟩
        have hie : i = 12 := by omega
        subst hie
        clear hi hlt
        obtain ⟨A3, q3, rfl⟩ := ownsRow_slice ho
        obtain ⟨b3, hL, -, -⟩ := ownsRow_hasS ho
        have HLL := Lib.hid hll
        have hls' : ∀ l ∈ ls, l < s * s := by rw [← HM.out]; exact hls
        have HLS := Lib.hid hls'
        have HLT := Lib.hid hL
        have hl12 : (lI ls).length ≤ 300 := by simp [lI, HLL.out]
        have HL12 := Lib.hid hl12
        have HB := Lib.hid hb
        have HX := Lib.hid hx
        have HS := Lib.hid hs
        have ZR : w1.heap.size < wa.heap.size := hb.1
        obtain ⟨-, y0, y1, -, -⟩ := hb
        clear hll hls hls' ho hx hs hL hl12
        go_wp2_with fail
        clear y0 y1
        refine (encodeLabels_any (gridT s) (lI ls) (zsOf s ls) true true b3 _ _ _ _ _ _ wa HX.out HV.out HLT.out HL12.out (grid_encoded HLS.out)).mono ?_
        rintro _ w2 ⟨u2, b4, rfl, h2, s2⟩
        obtain ⟨A4, q4, rfl, -⟩ := id h2
        have e4 : (zsOf s ls).length = 12 := by simp [zsOf, HLL.out]
        rw [e4] at h2 ⊢
        clear e4
        have H2 := Lib.hid h2
        have HL2 := Lib.hid (HLT.out.span s2 (.inl (Nat.le_refl _)))
        have HB2 := Lib.hid (HB.out.span s2 (.inl (Nat.le_refl _)))
        have HX2 := Lib.hid (HX.out.span s2 (.inl (Nat.le_refl _)))
        have S2 := Lib.hid (s2.after HS.out)
        have Zr2 : wa.heap.size ≤ w2.heap.size := s2.size
        obtain ⟨-, y0, y1, -, -⟩ := HB2.out
        clear h2 s2 HB HX HS HLT
        go_wp2_with fail
        clear y0 y1
        refine (decidePoints_any (gridT s) (zsOf s ls) (lI ls) true true b4 _ _ _ _ _ _ w2 HX2.out HV.out H2.out (by simp [zsOf, HLL.out]) (grid_decided s8 s1' HLS.out)).mono ?_
        rintro _ w3 ⟨u3, b5, rfl, h3, s3⟩
        obtain ⟨A5, q5, rfl, -⟩ := id h3
        have e5 : (lI ls).length = 12 := by simp [lI, HLL.out]
        rw [e5] at h3 ⊢
        clear e5
        have H3 := Lib.hid h3
        have HL3 := Lib.hid (HL2.out.span s3 (.inl (Nat.le_refl _)))
        have HZ3 := Lib.hid (H2.out.span s3 (.inl (Nat.le_refl _)))
        have HB3 := Lib.hid (HB2.out.span s3 (.inl (Nat.le_refl _)))
        have HX3 := Lib.hid (HX2.out.span s3 (.inl (Nat.le_refl _)))
        have S3 := Lib.hid (s3.after S2.out)
        have Z23 : w2.heap.size ≤ w3.heap.size := s3.size
        clear h3 s3 HB2 HX2 S2 HL2 H2
        go_wp2_with fail
        refine (ints_true (lI ls) _ _ _ _ _ _ _ _ _ _ w3 H3.out HL3.out (by simp [lI, HLL.out])).mono ?_
        rintro _ _ ⟨n3, rfl, rfl⟩
        obtain ⟨-, y0, y1, -, -⟩ := HB3.out
        go_wp2_with fail
        clear y0 y1
        refine (turnTable_any (gridT s) (0, 1065353216) (turnP (gridP s (s * s))) true _ _ _ _ (HX3.out.span ((Span.refl 0 0 _).drewN n3) (.inl (Nat.le_refl _))) HV.out (grid_turned s8 s1') (turn_valid s8 s1') (by rw [HE1.out]; omega)).mono ?_
        rintro _ w4 ⟨⟨u4, rfl, x4⟩, s4⟩
        obtain ⟨A6, c6, B6, d6, rfl⟩ := x4.form
        have e6 : (turnP (gridP s (s * s)), (gridT s).2).1.length = m := by rw [HM.out]; exact turnP_length _ _
        have e7 : (turnP (gridP s (s * s)), (gridT s).2).2.length = m := HE2.out
        rw [e6, e7] at x4 ⊢
        clear e6 e7
        have S4 := Lib.hid (s4.after (S3.out.drewN n3))
        have HL4 := Lib.hid ((HL3.out.drewN n3).span s4 (.inl (Nat.le_refl _)))
        have HZ4 := Lib.hid ((HZ3.out.drewN n3).span s4 (.inl (Nat.le_refl _)))
        have HB4 := Lib.hid ((HB3.out.drewN n3).span s4 (.inl (Nat.le_refl _)))
        have HX4 := Lib.hid ((HX3.out.span ((Span.refl 0 0 _).drewN n3) (.inl (Nat.le_refl _))).span s4 (.inl (Nat.le_refl _)))
        have HU4 := Lib.hid x4
        have Z34 : w3.heap.size ≤ w4.heap.size := s4.size
        have ZB4 := Lib.hid (box2_alloc ⟨HB4.out.2.1, HB4.out.2.2.1⟩ HB4.out.1)
        have X4 := Lib.hid (Box.new w4 (.slice A6 m c6) (.slice B6 m d6) 42)
        clear x4 s4 HL3 HZ3 HB3 HX3 S3
        obtain ⟨off4, rfl⟩ := HZ4.out.addr (by simp [zsOf, HLL.out])
        go_wp2_with fail
        have t5 : Span 0 0 w4 ((w4.alloc (.cells #[.slice A6 m c6, .slice B6 m d6] 42)).alloc (.cells #[] 49)) := ((Span.refl 0 0 w4).alloc _).alloc _
        have HO5 : Hid (((w4.alloc (.cells #[.slice A6 m c6, .slice B6 m d6] 42)).alloc (.cells #[] 49)).ownsRow (w4.heap.size + 1) 49 1 (.slice (some ⟨w4.heap.size + 1, 0, none⟩) 0 0) 0 ((tsOf s (ls.take 0)).map cxV)) := by
          have := World.ownsRow_made (base := w4.heap.size + 1) (e := 49) (size := 1) (w4.alloc (.cells #[.slice A6 m c6, .slice B6 m d6] 42)) #[] 0 (by simp) (Nat.zero_le _) rfl
          unfold Hid
          have e : (w4.alloc (.cells #[.slice A6 m c6, .slice B6 m d6] 42)).heap.size = w4.heap.size + 1 := by simp
          rw [e] at this
          exact this
        have HX5 := Lib.hid (X4.out.alloc (.cells #[] 49))
        have HB5 := Lib.hid (HB4.out.span t5 (.inl (Nat.le_refl _)))
        have HG5 := Lib.hid (HX4.out.span t5 (.inl (Nat.le_refl _)))
        have HU5 := Lib.hid (HU4.out.span t5 (.inl (Nat.le_refl _)))
        have HL5 := Lib.hid (HL4.out.span t5 (.inl (Nat.le_refl _)))
        have HZ5 := Lib.hid (HZ4.out.span t5 (.inl (Nat.le_refl _)))
        have S5 := Lib.hid (t5.after S4.out)
        clear t5 X4 HB4 HX4 HU4 HL4 HZ4 S4 ZB4
        go_loopw [14, 92] (fun u q wr => ∃ k : Nat, k ≤ 12 ∧ q = .int .i64 k ∧ wr.ownsRow (w4.heap.size + 1) 49 1 u k ((tsOf s (ls.take k)).map cxV) ∧ Box w4.heap.size (.slice A6 m c6) (.slice B6 m d6) wr ∧ Box w1.heap.size (.slice A1 m c1) (.slice B1 m d1) wr ∧
          HasTab true w.heap.size w1.heap.size wr (.agg #[.slice A1 m c1, .slice B1 m d1]) (gridT s) ∧ HasTab true (w3.drewN n3).heap.size w4.heap.size wr (.agg #[.slice A6 m c6, .slice B6 m d6]) (turnP (gridP s (s * s)), (gridT s).2) ∧
          HasS intV true b3 (w1.heap.size + 1) wa.heap.size wr (.slice A3 12 q3) (lI ls) ∧ HasS cxV true b4 wa.heap.size w2.heap.size wr (.slice (some ⟨b4, off4, none⟩) 12 q4) (zsOf s ls) ∧ Span 0 0 w wr) (fun _ q _ => 12 - (intOf q).toNat)
        case atStart => exact ⟨0, by omega, rfl, HO5.out, HX5.out, HB5.out, HG5.out, HU5.out, HL5.out, HZ5.out, S5.out⟩
        case round =>
          clear HO5 HX5 HB5 HG5 HU5 HL5 HZ5 S5
          obtain ⟨k, hk, rfl, ho, hx5, hb5, hg5, hu5, hl5, hz5, hs5⟩ := hrel
          by_cases hlt : k < 12
          · obtain ⟨l, hl⟩ := getElem?_some (xs := ls) (j := k) (by rw [HLL.out]; exact hlt)
            have hlm := HLS.out l (List.mem_of_getElem? hl)
            have hck : wr.cell? ⟨b4, off4 + k, none⟩ = some (.complex .f32 ((gridP s (s * s)).getD l (0, 0)).1 ((gridP s (s * s)).getD l (0, 0)).2) := hz5.at_ (zsOf_get hl)
            have HMU := Lib.hid (turn_mul s8 s1' hlm)
            have HTS := Lib.hid (tsOf_snoc (n := s) hl)
            generalize (gridP s (s * s)).getD l (0, 0) = p at hck HMU HTS
            generalize turnB p = r at HMU HTS
            have HO6 := Lib.hid ho
            have HR6 := Lib.hid (And.intro hx5 (And.intro hb5 (And.intro hg5 (And.intro hu5 (And.intro hl5 (And.intro hz5 hs5))))))
            clear ho hx5 hb5 hg5 hu5 hl5 hz5 hs5 hl hlm
            go_wp2_with fail
            refine (impl_multiply_some p (0, 1065353216) r HMU.out _).mono ?_
            rintro _ _ ⟨rfl, rfl⟩
            go_wp2_with (at_builtin; go_loud ((refine wpList_append_own _ rfl _ _ 39 rfl (w4.heap.size + 1) 49 ip (.complex .f32 0 0) 1 8 Try.underlying39 hip hzp hsp hbp rfl (by decide) _ _ _ rfl (HO6.out.alloc _) ⟨wr.heap.size, 0, none⟩ 1 1 [cxV r] rfl rfl ?c1 ?c2 ?c3 ?c4 ?c5 ?_); (case c1 => exact one_new _ _ _); (case c2 => exact one_cell (by rfl)); (case c3 => unfold maxLen; omega); (case c4 => omega); (case c5 => have := HR6.out.1.1; simp; omega); intro v2 w7 ho hgr _; have HO7 := Lib.hid ho; have HG7 := Lib.hid hgr; clear ho hgr))
            go_roundw
            case rel =>
              obtain ⟨r1, r2, r3, r4, r5, r6, r7⟩ := HR6.out
              have z1 := r1.1
              have z2 := r7.size
              have z5 : (w3.drewN n3).heap.size = w3.heap.size := rfl
              have ow := HO6.out
              have sp := ((Span.refl (w4.heap.size + 1) wr.heap.size wr).alloc (.cells #[.complex .f32 r.1 r.2] 49)).grown HG7.out (fun k hk => .inl (ow.lt k hk))
              have sq := (r7.alloc (.cells #[.complex .f32 r.1 r.2] 49)).grown HG7.out (fun k hk => .inr (by have := (ow.lt k hk).1; omega))
              refine ⟨k + 1, by omega, by go_num, ?_, r1.span sp (by omega), r2.span sp (by omega), r3.span sp (by omega), r4.span sp (by omega), r5.span sp (by omega), r6.span sp (by omega), sq⟩
              have := HO7.out
              rw [HTS.out]
              simpa using this
            case measure => simp [intOf]; omega
          · obtain ⟨wb, rfl⟩ : ∃ wb : World, wb = wr := ⟨_, rfl⟩
            have hke : k = 12 := by omega
            subst hke
            clear hk hlt
            obtain ⟨A7, q7, rfl⟩ := ownsRow_slice ho
            obtain ⟨b7, hT, -, -⟩ := ownsRow_hasS ho
            rw [List.take_of_length_le (by rw [HLL.out]; exact Nat.le_refl _)] at hT
            have HT7 := Lib.hid hT
            have HB7 := Lib.hid hb5
            have HX7 := Lib.hid hg5
            have HL7 := Lib.hid hl5
            have S7 := Lib.hid hs5
            have Z4b : w4.heap.size < wb.heap.size := hx5.1
            have hu7 := Lib.hid hu5
            obtain ⟨off7, rfl⟩ := hT.addr (by simp [tsOf, HLL.out])
            obtain ⟨-, y0, y1, -, -⟩ := hx5
            clear ho hT hb5 hg5 hl5 hs5 hz5 hu5
            go_wp2_with fail
            clear y0 y1
            refine (decidePoints_any (turnP (gridP s (s * s)), (gridT s).2) (tsOf s ls) (lI ls) true true b7 _ _ _ _ _ _ wb hu7.out (turn_valid s8 s1') HT7.out (by simp [tsOf, HLL.out]) (turn_decided s8 s1' HLS.out)).mono ?_
            rintro _ w8 ⟨u8, b8, rfl, h8, s8'⟩
            obtain ⟨A8, q8, rfl, -⟩ := id h8
            have e8 : (lI ls).length = 12 := by simp [lI, HLL.out]
            rw [e8] at h8 ⊢
            clear e8
            have H8 := Lib.hid h8
            have HT8 := Lib.hid (HT7.out.span s8' (.inl (Nat.le_refl _)))
            have HB8 := Lib.hid (HB7.out.span s8' (.inl (Nat.le_refl _)))
            have HX8 := Lib.hid (HX7.out.span s8' (.inl (Nat.le_refl _)))
            have HL8 := Lib.hid (HL7.out.span s8' (.inl (Nat.le_refl _)))
            have S8 := Lib.hid (s8'.after S7.out)
            clear h8 s8' HT7 HB7 HX7 HL7 S7 hu7
            obtain ⟨-, y0, y1, -, -⟩ := HB8.out
            go_wp2_with fail
            clear y0 y1
            refine (decidePoints_any (gridT s) (tsOf s ls) (bkOf s ls) true true b7 _ _ _ _ _ _ w8 HX8.out HV.out HT8.out (by simp [tsOf, HLL.out]) (back_decided s8 s1' HLS.out)).mono ?_
            rintro _ w9 ⟨u9, b9, rfl, h9, s9⟩
            obtain ⟨A9, q9, rfl, -⟩ := id h9
            have e9 : (bkOf s ls).length = 12 := by simp [bkOf, HLL.out]
            obtain ⟨off9, rfl⟩ := h9.addr (by rw [e9]; omega)
            rw [e9] at h9 ⊢
            clear e9
            have H9 := Lib.hid h9
            have H89 := Lib.hid (H8.out.span s9 (.inl (Nat.le_refl _)))
            have HT9 := Lib.hid (HT8.out.span s9 (.inl (Nat.le_refl _)))
            have HB9 := Lib.hid (HB8.out.span s9 (.inl (Nat.le_refl _)))
            have HX9 := Lib.hid (HX8.out.span s9 (.inl (Nat.le_refl _)))
            have HL9 := Lib.hid (HL8.out.span s9 (.inl (Nat.le_refl _)))
            have S9 := Lib.hid (s9.after S8.out)
            clear h9 s9 H8 HT8 HB8 HX8 HL8 S8
            obtain ⟨bP, hP⟩ := HX9.out.points
            obtain ⟨offP, rfl⟩ := hP.addr (by rw [HE1.out]; omega)
            have HP := Lib.hid hP
            clear hP
            go_wp2_with fail
            go_loopw [21] (fun q wr => ∃ k e : Nat, k ≤ 12 ∧ q = .int .i64 k ∧ wr = w9.drewN e) (fun q _ => 12 - (intOf q).toNat)
            case atStart => exact ⟨0, 0, by omega, rfl, rfl⟩
            case round =>
              obtain ⟨k, e, hk, rfl, rfl⟩ := hrel
              by_cases hlt : k < 12
              · obtain ⟨l, hl⟩ := getElem?_some (xs := ls) (j := k) (by rw [HLL.out]; exact hlt)
                have hlm := HLS.out l (List.mem_of_getElem? hl)
                have hbk := back_lt s1' hlm
                rw [← HM.out] at hbk
                have c1 : w9.cell? ⟨b9, off9 + k, none⟩ = some (.int .i64 ((back s l : Nat) : Int)) := H9.out.at_ (bkOf_get hl)
                have c2 : w9.cell? ⟨b7, off7 + k, none⟩ = some (.complex .f32 (turnB ((gridP s (s * s)).getD l (0, 0))).1 (turnB ((gridP s (s * s)).getD l (0, 0))).2) := HT9.out.at_ (tsOf_get hl)
                have c3 : w9.cell? ⟨bP, offP + back s l, none⟩ = some (.complex .f32 ((gridP s (s * s)).getD (back s l) (0, 0)).1 ((gridP s (s * s)).getD (back s l) (0, 0)).2) := HP.out.at_ (grid_at (by rw [← HM.out]; exact hbk))
                have c4 := back_equal s8 s1' hlm
                obtain ⟨-, y0, y1, -, -⟩ := HB9.out
                generalize (gridP s (s * s)).getD (back s l) (0, 0) = p at c3 c4
                generalize turnB ((gridP s (s * s)).getD l (0, 0)) = r at c2 c4
                generalize back s l = j at hbk c1 c3
                have C4 := Lib.hid c4
                have i1 : decide ((12 : Int) ≤ (k : Int)) = false := by rw [decide_eq_false_iff_not]; omega
                have i2 : decide ((j : Int) < 0) = false := by rw [decide_eq_false_iff_not]; omega
                have i3 : decide ((m : Int) ≤ (j : Int)) = false := by rw [decide_eq_false_iff_not]; omega
                have i4 : (k : Int) < 12 := by omega
                have i5 : (j : Int) < (m : Int) := by omega
                clear c4 hl hlm
                go_wp2_with fail
                go_quiet (fail)
                go_wp2_with fail
                go_region_with (go_at_call 38; go_loud ((refine (impl_equalPoints p r _).mono ?_; rintro _ _ ⟨rfl, rfl⟩; rw [C4.out])))
                all_goals
                  go_wp2_with fail
                  go_roundw
                  case rel => exact ⟨k + 1, _, by omega, by go_num, rfl⟩
                  case measure => simp [intOf]; omega
              · have hk12 : 12 = k := by omega
                subst hk12
                go_wp2_with fail
                refine (ints_true (lI ls) _ _ _ _ _ _ _ _ _ _ _ (H89.out.drewN e) (HL9.out.drewN e) (by simp [lI, HLL.out])).mono ?_
                rintro _ _ ⟨n4, rfl, rfl⟩
                go_wp2_with fail
                go_ret
                exact ⟨rfl, Below.drewN (S9.out.to_below (.inl (Nat.le_refl _))) _⟩
  · have hgt : 1048576 < n := by omega
    clear h hn
    go_enter Try.func7, Try.ntmps7
    go_wp2_with fail
    go_ret
    exact ⟨rfl, Below.refl _ _⟩

end Go.Proofs.Ytmdmfkdmgmcbpaa
