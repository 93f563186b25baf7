/- The law FnMeter. -/
import Derived.Test.YtocmppilihiehaaZ6
import Derived.Test.YtocmppilihiehaaZ5
import Derived.Test.YtocmppilihiehaaF3
import Derived.Outline
namespace Go.Proofs.Ytocmppilihiehaa
open Go.RowKit

theorem hbyUp {B : Nat} {w : World} {A : Option Addr} {n : Nat} (h : HasBy B w A n) (hB : B ≤ w.heap.size) : HasBy w.heap.size w A n := fun hp => by
  obtain ⟨b, off, rfl, hb, hc⟩ := h hp
  exact ⟨b, off, rfl, by omega, hc⟩

/-- The greater one behind j of the four. -/
def mst (l p q : Nat) : Nat → Nat
  | 0 => l
  | 1 => updN l p
  | 2 => updN (updN l p) q
  | 3 => updN (updN (updN l p) q) (Op.negFloat .f32 p)
  | _ => updN (updN (updN (updN l p) q) (Op.negFloat .f32 p)) (Op.negFloat .f32 q)

theorem one_hasS (w : World) (x y : Nat) : HasS cxV false w.heap.size 0 (w.heap.size + 1) (w.alloc (.cells #[.complex .f32 x y] 30)) (.slice (some ⟨w.heap.size, 0, none⟩) 1 1) [(x, y)] := by
  refine ⟨_, 1, rfl, Nat.le_refl _, fun _ => ⟨0, rfl, Nat.zero_le _, Nat.lt_succ_self _, by simp, fun j z hj => ?_, fun h => by cases h⟩⟩
  cases j with
  | zero =>
    simp at hj
    subst hj
    rw [World.cell?_alloc_new]
    rfl
  | succ j => simp at hj

set_option maxRecDepth 100000 in
set_option maxHeartbeats 8000000 in
theorem law_meter (A : Option Addr) (n c : Nat) (w : World) (h : HasBy w.heap.size w A n) : Calls Try.prog 5 #[.slice A n c] w (Says w) := by
  by_cases hn : n ≤ 1048576
  · have Hn := Lib.hid hn
    have Hby := Lib.hid h
    obtain ⟨ip, hip, hzp, hsp, hbp⟩ := info_parts info_c64
    have i0 : decide ((1048576 : Int) < (n : Int)) = false := by rw [decide_eq_false_iff_not]; omega
    clear hn h
    go_enter Try.func5, Try.ntmps5
    go_wp2_with fail
    refine (makeSamples_any 30 (by omega) (by omega) A n c w Hn.out Hby.out).mono ?_
    rintro _ w1 ⟨v, xs, rfl, hl, hs, ho, hb⟩
    have HL := Lib.hid hl
    have HS := Lib.hid hs
    have HO1 := Lib.hid ho
    have HB1 := Lib.hid hb
    have HY1 := Lib.hid (hbyUp (Hby.out.below hb) hb.size)
    clear hl hs ho hb
    go_wp2_with fail
    refine (fresh_any A n c 3 w1 (by omega) (by omega) Hn.out HY1.out).mono ?_
    rintro _ w2 ⟨A3, n3, c3, rfl, hn3, hy3, hb2⟩
    have HO2 := Lib.hid (ownsRow_keep HO1.out (Span.of_below hb2))
    have HB2 := Lib.hid ((Span.of_below hb2).below HB1.out (.inl (Nat.le_refl _)) HB1.out.size)
    have HY2 := Lib.hid (hbyUp (HY1.out.below hb2) hb2.size)
    have H3 := Lib.hid hn3
    have HY3 := Lib.hid hy3
    clear hn3 hy3 hb2 HO1 HB1 HY1
    go_wp2_with fail
    refine (makeFloat_any A3 n3 c3 w2 (by have := H3.out; omega) HY3.out).mono ?_
    rintro _ w3 ⟨p, rfl, hp, hb3⟩
    have HP := Lib.hid hp
    have HO3 := Lib.hid (ownsRow_keep HO2.out (Span.of_below hb3))
    have HB3 := Lib.hid ((Span.of_below hb3).below HB2.out (.inl (Nat.le_refl _)) HB2.out.size)
    have HY4 := Lib.hid (hbyUp (HY2.out.below hb3) hb3.size)
    clear hp hb3 HO2 HB2 HY2 H3 HY3
    go_wp2_with fail
    refine (fresh_any A n c 5 w3 (by omega) (by omega) Hn.out HY4.out).mono ?_
    rintro _ w4 ⟨A5, n5, c5, rfl, hn5, hy5, hb4⟩
    have HO4 := Lib.hid (ownsRow_keep HO3.out (Span.of_below hb4))
    have HB4 := Lib.hid ((Span.of_below hb4).below HB3.out (.inl (Nat.le_refl _)) HB3.out.size)
    have H5 := Lib.hid hn5
    have HY5 := Lib.hid hy5
    clear hn5 hy5 hb4 HO3 HB3 HY4
    go_wp2_with fail
    refine (makeFloat_any A5 n5 c5 w4 (by have := H5.out; omega) HY5.out).mono ?_
    rintro _ w5 ⟨q, rfl, hq, hb5⟩
    have HQ := Lib.hid hq
    have HO5 := Lib.hid (ownsRow_keep HO4.out (Span.of_below hb5))
    have HB5 := Lib.hid ((Span.of_below hb5).below HB4.out (.inl (Nat.le_refl _)) HB4.out.size)
    clear hq hb5 HO4 HB4 H5 HY5
    go_wp2_with (at_builtin; go_loud ((refine wpList_append_own _ rfl _ _ 23 rfl w.heap.size 30 ip (.complex .f32 0 0) 1 8 Try.underlying23 hip hzp hsp hbp rfl (by decide) _ _ _ rfl (HO5.out.alloc _) ⟨w5.heap.size, 0, none⟩ 1 1 [.complex .f32 p q] rfl rfl ?c1 ?c2 ?c3 ?c4 ?c5 ?_); (case c1 => exact one_new _ _ _); (case c2 => exact one_cell (by rfl)); (case c3 => have := HL.out; unfold maxLen; omega); (case c4 => have := HL.out; omega); (case c5 => have := HB5.out.size; simp; omega); intro v2 w6 ho6 hg6 _; have HO6 := Lib.hid ho6; have HG6 := Lib.hid hg6; clear ho6 hg6))
    have ow := HO5.out
    have HB6 := Lib.hid ((HB5.out.alloc HB5.out.size (.cells #[.complex .f32 p q] 30)).grown HG6.out (by have := HB5.out.size; simp; omega) (fun k' hk' => (ow.lt k' hk').1))
    obtain ⟨L, hLd⟩ : ∃ L : List Cx, L = xs ++ [(p, q)] := ⟨_, rfl⟩
    have hO : w6.ownsRow w.heap.size 30 1 v2 L.length (L.map cxV) := by
      have := HO6.out
      rw [hLd]
      simpa [cxV] using this
    have HSm : Hid (∀ z ∈ L, smallS z) := by
      unfold Hid
      rw [hLd]
      intro z hz
      rcases List.mem_append.1 hz with h | h
      · exact HS.out z h
      · rw [List.mem_singleton.1 h]; exact ⟨HP.out, HQ.out⟩
    have hlen : 1 ≤ L.length ∧ L.length ≤ 31 := by have := HL.out; rw [hLd, List.length_append, List.length_singleton]; omega
    obtain ⟨A2, q2, rfl⟩ := ownsRow_slice hO
    obtain ⟨gb, hS6, -, -⟩ := ownsRow_hasS hO
    obtain ⟨len, hle⟩ : ∃ len, len = L.length := ⟨_, rfl⟩
    have HLE := Lib.hid hle
    rw [← hle] at hS6 hlen ⊢
    have HS6 := Lib.hid hS6
    have hgb := hS6.lt (by omega)
    have HGB := Lib.hid hgb
    have HLN := Lib.hid hlen
    have i1 : (len : Int) ≤ 31 := by omega
    clear ow hLd hO hlen hle hS6 hgb HO5 HO6 HG6 HB5
    go_wp2_with fail
    refine (newMeter_is _).mono ?_
    rintro _ w7 ⟨rfl, s7⟩
    have X8 := Bx.new w7 #[.int .i64 7, .complex .f32 0 0, .complex .f32 0 0, .float .f32 0, .slice none 0 0, .int .i64 0, .int .i64 0, .slice none 0 0, .slice none 0 0, .int .i64 0, .int .i64 0] 44
    have s8 := s7.alloc (.cells #[.int .i64 7, .complex .f32 0 0, .complex .f32 0 0, .float .f32 0, .slice none 0 0, .int .i64 0, .int .i64 0, .slice none 0 0, .slice none 0 0, .int .i64 0, .int .i64 0] 44)
    have HS8 := Lib.hid (HS6.out.span s8 (.inl (Nat.le_refl _)))
    have HB8 := Lib.hid (s8.below HB6.out (.inl (Nat.le_refl _)) HB6.out.size)
    have HGB8 := Lib.hid (show gb < w7.heap.size from Nat.lt_of_lt_of_le HGB.out s7.size)
    have HW8 := Lib.hid (show w.heap.size ≤ w7.heap.size from Nat.le_trans HB6.out.size s7.size)
    have HX8 := Lib.hid X8
    obtain ⟨b4, hb4⟩ : ∃ b, b = w7.heap.size := ⟨_, rfl⟩
    clear s7 s8 X8 HS6 HGB HB6
    go_wp2_with fail
    rw [← hb4] at HGB8 HW8 HX8 ⊢
    generalize w7.alloc (.cells #[.int .i64 7, .complex .f32 0 0, .complex .f32 0 0, .float .f32 0, .slice none 0 0, .int .i64 0, .int .i64 0, .slice none 0 0, .slice none 0 0, .int .i64 0, .int .i64 0] 44) = w8 at *
    clear hb4
    go_loopw [5, 7, 8, 9, 10, 12, 33] (fun most _ _ _ _ _ i wr => ∃ (k l : Nat), k ≤ len ∧ l ≤ 2139095040 ∧ i = .int .i64 k ∧ most = .float .f32 l ∧ Bx b4 #[.int .i64 7, .complex .f32 0 0, .complex .f32 0 0, .float .f32 l, .slice none 0 0, .int .i64 0, .int .i64 0, .slice none 0 0, .slice none 0 0, .int .i64 0, .int .i64 0] wr ∧ Span b4 (b4 + 1) w8 wr) (fun _ _ _ _ _ _ i _ => len - (intOf i).toNat)
    case atStart => exact ⟨0, 0, Nat.zero_le _, Nat.zero_le _, rfl, rfl, HX8.out, Span.refl _ _ _⟩
    case round =>
      obtain ⟨k, l, hk, hl, rfl, rfl, hx, hs⟩ := hrel
      by_cases hlt : k < len
      · have hkx : k < L.length := by rw [← HLE.out]; exact hlt
        obtain ⟨⟨z1, z2⟩, hz⟩ := getElem?_some hkx
        have hsm : smallS (z1, z2) := HSm.out _ (List.mem_of_getElem? hz)
        have hSr := HS8.out.span hs (.inr (.inr (.inr (.inl HGB8.out))))
        obtain ⟨A', cap', e, _, hc⟩ := hSr
        injection e with e1 e2 e3
        subst e1
        obtain ⟨off, rfl, _, _, _, hcell, _⟩ := hc (by omega)
        have hck : wr.cell? ⟨gb, off + k, none⟩ = some (.complex .f32 z1 z2) := hcell k _ hz
        have cx := hx.cells
        have HX := Lib.hid hx
        have HSp := Lib.hid hs
        have ST := Lib.hid (stepModule_meter l z1 z2 hl hsm.1 hsm.2)
        have HL2 := Lib.hid hl
        have HSM := Lib.hid hsm
        have i2 : (0 : Int) ≤ (k : Int) := by omega
        have i3 : (k : Int) < (len : Int) := by omega
        clear hkx hz hsm hc e2 e3 hcell hx hs hl
        go_wp2_with fail
        refine (ST.out _).mono ?_
        rintro _ wa ⟨rfl, sa⟩
        have HXa := Lib.hid (HX.out.keep sa)
        have HSa := Lib.hid (HSp.out.trans (sa.wide (fun _ _ h => by omega)))
        clear sa HX HSp ST cx hck
        go_wp2_with fail
        have g1 := (one_hasS (wa.alloc (.cells #[.int .i64 7, .complex .f32 0 0, .complex .f32 0 0, .float .f32 (raiseN (raiseN l z1) z2), .slice none 0 0, .int .i64 0, .int .i64 0, .slice none 0 0, .slice none 0 0, .int .i64 0, .int .i64 0] 44)) z1 z2).alloc (.cells #[.complex .f32 z1 z2] 30)
        have g2 := one_hasS ((wa.alloc (.cells #[.int .i64 7, .complex .f32 0 0, .complex .f32 0 0, .float .f32 (raiseN (raiseN l z1) z2), .slice none 0 0, .int .i64 0, .int .i64 0, .slice none 0 0, .slice none 0 0, .int .i64 0, .int .i64 0] 44)).alloc (.cells #[.complex .f32 z1 z2] 30)) z1 z2
        rw [show (wa.alloc (.cells #[.int .i64 7, .complex .f32 0 0, .complex .f32 0 0, .float .f32 (raiseN (raiseN l z1) z2), .slice none 0 0, .int .i64 0, .int .i64 0, .slice none 0 0, .slice none 0 0, .int .i64 0, .int .i64 0] 44)).heap.size = wa.heap.size + 1 by simp] at g1
        rw [show ((wa.alloc (.cells #[.int .i64 7, .complex .f32 0 0, .complex .f32 0 0, .float .f32 (raiseN (raiseN l z1) z2), .slice none 0 0, .int .i64 0, .int .i64 0, .slice none 0 0, .slice none 0 0, .int .i64 0, .int .i64 0] 44)).alloc (.cells #[.complex .f32 z1 z2] 30)).heap.size = wa.heap.size + 1 + 1 by simp] at g2
        refine (makeSame_self [(z1, z2)] _ _ _ _ _ _ _ _ _ _ _ g1 g2 (by simp)).mono ?_
        rintro _ _ ⟨nd, rfl, rfl⟩
        have HXb := Lib.hid ((((HXa.out.alloc (.cells #[.int .i64 7, .complex .f32 0 0, .complex .f32 0 0, .float .f32 (raiseN (raiseN l z1) z2), .slice none 0 0, .int .i64 0, .int .i64 0, .slice none 0 0, .slice none 0 0, .int .i64 0, .int .i64 0] 44)).alloc (.cells #[.complex .f32 z1 z2] 30)).alloc (.cells #[.complex .f32 z1 z2] 30)).drewN nd)
        have HNb := Lib.hid ((((Bx.new wa #[.int .i64 7, .complex .f32 0 0, .complex .f32 0 0, .float .f32 (raiseN (raiseN l z1) z2), .slice none 0 0, .int .i64 0, .int .i64 0, .slice none 0 0, .slice none 0 0, .int .i64 0, .int .i64 0] 44).alloc (.cells #[.complex .f32 z1 z2] 30)).alloc (.cells #[.complex .f32 z1 z2] 30)).drewN nd)
        have HSb := Lib.hid ((((HSa.out.alloc (.cells #[.int .i64 7, .complex .f32 0 0, .complex .f32 0 0, .float .f32 (raiseN (raiseN l z1) z2), .slice none 0 0, .int .i64 0, .int .i64 0, .slice none 0 0, .slice none 0 0, .int .i64 0, .int .i64 0] 44)).alloc (.cells #[.complex .f32 z1 z2] 30)).alloc (.cells #[.complex .f32 z1 z2] 30)).drewN nd)
        have HB48 := Lib.hid HXa.out.1
        clear g1 g2
        generalize (((wa.alloc (.cells #[.int .i64 7, .complex .f32 0 0, .complex .f32 0 0, .float .f32 (raiseN (raiseN l z1) z2), .slice none 0 0, .int .i64 0, .int .i64 0, .slice none 0 0, .slice none 0 0, .int .i64 0, .int .i64 0] 44)).alloc (.cells #[.complex .f32 z1 z2] 30)).alloc (.cells #[.complex .f32 z1 z2] 30)).drewN nd = wb at *
        obtain ⟨b8, hb8⟩ : ∃ b, b = wa.heap.size := ⟨_, rfl⟩
        rw [← hb8] at HNb HB48 ⊢
        clear hb8 HXa HSa
        go_wp2_with fail
        have BF := Bx.new wb #[.float .f32 z1, .float .f32 z2, .float .f32 (Op.negFloat .f32 z1), .float .f32 (Op.negFloat .f32 z2)] 36
        have HXc := Lib.hid (HXb.out.alloc (.cells #[.float .f32 z1, .float .f32 z2, .float .f32 (Op.negFloat .f32 z1), .float .f32 (Op.negFloat .f32 z2)] 36))
        have HNc := Lib.hid (HNb.out.alloc (.cells #[.float .f32 z1, .float .f32 z2, .float .f32 (Op.negFloat .f32 z1), .float .f32 (Op.negFloat .f32 z2)] 36))
        have HSc := Lib.hid (HSb.out.alloc (.cells #[.float .f32 z1, .float .f32 z2, .float .f32 (Op.negFloat .f32 z1), .float .f32 (Op.negFloat .f32 z2)] 36))
        generalize wb.alloc (.cells #[.float .f32 z1, .float .f32 z2, .float .f32 (Op.negFloat .f32 z1), .float .f32 (Op.negFloat .f32 z2)] 36) = wc at *
        obtain ⟨bf, hbf⟩ : ∃ b, b = wb.heap.size := ⟨_, rfl⟩
        rw [← hbf] at BF ⊢
        clear hbf HXb HNb HSb
        have cf := BF.cells
        clear BF
        have HFour := Lib.hid (show mst l z1 z2 4 = raiseN (raiseN l z1) z2 from upd_four HL2.out HSM.out.1 HSM.out.2)
        go_loopw [5, 12, 66] (fun most _ i wr => wr = wc ∧ ∃ j : Nat, j ≤ 4 ∧ i = .int .i64 j ∧ most = .float .f32 (mst l z1 z2 j)) (fun _ _ i _ => 4 - (intOf i).toNat)
        case atStart => exact ⟨by first | rfl | trivial, 0, by omega, by first | rfl | simp, by first | rfl | simp⟩
        case round =>
          obtain ⟨rfl, j, hj, rfl, rfl⟩ := hrel
          have hj5 : j = 0 ∨ j = 1 ∨ j = 2 ∨ j = 3 ∨ j = 4 := by omega
          clear hj
          rcases hj5 with rfl | rfl | rfl | rfl | rfl
          · obtain ⟨m, hm⟩ : ∃ m, m = mst l z1 z2 0 := ⟨_, rfl⟩
            have HN := Lib.hid (show mst l z1 z2 1 = updN m z1 by rw [hm]; rfl)
            rw [← hm]
            clear hm
            by_cases ho : FloatKind.f32.format.order z1 m = some .gt
            · have HU := Lib.hid (show updN m z1 = z1 from if_pos ho)
              go_wp2_with fail
              go_roundw
              case rel => exact ⟨by first | rfl | trivial, 1, by omega, by first | rfl | go_num | simp, by rw [HN.out, HU.out]⟩
              case measure => simp [intOf]
            · have HU := Lib.hid (show updN m z1 = m from if_neg ho)
              have ho' : (FloatKind.f32.format.order z1 m == some .gt) = false := by simpa using ho
              clear ho
              go_wp2_with fail
              go_roundw
              case rel => exact ⟨by first | rfl | trivial, 1, by omega, by first | rfl | go_num | simp, by rw [HN.out, HU.out]⟩
              case measure => simp [intOf]
          · obtain ⟨m, hm⟩ : ∃ m, m = mst l z1 z2 1 := ⟨_, rfl⟩
            have HN := Lib.hid (show mst l z1 z2 2 = updN m z2 by rw [hm]; rfl)
            rw [← hm]
            clear hm
            by_cases ho : FloatKind.f32.format.order z2 m = some .gt
            · have HU := Lib.hid (show updN m z2 = z2 from if_pos ho)
              go_wp2_with fail
              go_roundw
              case rel => exact ⟨by first | rfl | trivial, 2, by omega, by first | rfl | go_num | simp, by rw [HN.out, HU.out]⟩
              case measure => simp [intOf]
            · have HU := Lib.hid (show updN m z2 = m from if_neg ho)
              have ho' : (FloatKind.f32.format.order z2 m == some .gt) = false := by simpa using ho
              clear ho
              go_wp2_with fail
              go_roundw
              case rel => exact ⟨by first | rfl | trivial, 2, by omega, by first | rfl | go_num | simp, by rw [HN.out, HU.out]⟩
              case measure => simp [intOf]
          · obtain ⟨m, hm⟩ : ∃ m, m = mst l z1 z2 2 := ⟨_, rfl⟩
            have HN := Lib.hid (show mst l z1 z2 3 = updN m (Op.negFloat .f32 z1) by rw [hm]; rfl)
            rw [← hm]
            clear hm
            by_cases ho : FloatKind.f32.format.order (Op.negFloat .f32 z1) m = some .gt
            · have HU := Lib.hid (show updN m (Op.negFloat .f32 z1) = (Op.negFloat .f32 z1) from if_pos ho)
              go_wp2_with fail
              go_roundw
              case rel => exact ⟨by first | rfl | trivial, 3, by omega, by first | rfl | go_num | simp, by rw [HN.out, HU.out]⟩
              case measure => simp [intOf]
            · have HU := Lib.hid (show updN m (Op.negFloat .f32 z1) = m from if_neg ho)
              have ho' : (FloatKind.f32.format.order (Op.negFloat .f32 z1) m == some .gt) = false := by simpa using ho
              clear ho
              go_wp2_with fail
              go_roundw
              case rel => exact ⟨by first | rfl | trivial, 3, by omega, by first | rfl | go_num | simp, by rw [HN.out, HU.out]⟩
              case measure => simp [intOf]
          · obtain ⟨m, hm⟩ : ∃ m, m = mst l z1 z2 3 := ⟨_, rfl⟩
            have HN := Lib.hid (show mst l z1 z2 4 = updN m (Op.negFloat .f32 z2) by rw [hm]; rfl)
            rw [← hm]
            clear hm
            by_cases ho : FloatKind.f32.format.order (Op.negFloat .f32 z2) m = some .gt
            · have HU := Lib.hid (show updN m (Op.negFloat .f32 z2) = (Op.negFloat .f32 z2) from if_pos ho)
              go_wp2_with fail
              go_roundw
              case rel => exact ⟨by first | rfl | trivial, 4, by omega, by first | rfl | go_num | simp, by rw [HN.out, HU.out]⟩
              case measure => simp [intOf]
            · have HU := Lib.hid (show updN m (Op.negFloat .f32 z2) = m from if_neg ho)
              have ho' : (FloatKind.f32.format.order (Op.negFloat .f32 z2) m == some .gt) = false := by simpa using ho
              clear ho
              go_wp2_with fail
              go_roundw
              case rel => exact ⟨by first | rfl | trivial, 4, by omega, by first | rfl | go_num | simp, by rw [HN.out, HU.out]⟩
              case measure => simp [intOf]
          · rw [HFour.out]
            have cN := HNc.out.cells
            have cX := HXc.out.cells
            have fX := HXc.out.thaw
            clear cf
            go_wp2_with fail
            have HXd := Lib.hid (HXc.out.set11 (.int .i64 7) (.complex .f32 0 0) (.complex .f32 0 0) (.float .f32 (raiseN (raiseN l z1) z2)) (.slice none 0 0) (.int .i64 0) (.int .i64 0) (.slice none 0 0) (.slice none 0 0) (.int .i64 0) (.int .i64 0))
            have HSd := Lib.hid (HSc.out.put11 (b := b4) ⟨Nat.le_refl _, Nat.lt_succ_self _⟩ (.int .i64 7) (.complex .f32 0 0) (.complex .f32 0 0) (.float .f32 (raiseN (raiseN l z1) z2)) (.slice none 0 0) (.int .i64 0) (.int .i64 0) (.slice none 0 0) (.slice none 0 0) (.int .i64 0) (.int .i64 0))
            have HRl := Lib.hid (raiseN_le (p := z2) (raiseN_le (p := z1) HL2.out))
            go_roundw
            case rel => exact ⟨k + 1, raiseN (raiseN l z1) z2, by omega, HRl.out, by go_num, rfl, HXd.out, HSd.out⟩
            case measure => simp [intOf]; omega
      · have hke : k = len := by omega
        have Hk := Lib.hid hke
        have cx := hx.cells
        have TM := Lib.hid (tellModule_meter l hl)
        have o1 : FloatKind.f32.format.order l l = some .eq := by rw [order_bits hl hl, (cmp_eq).2 rfl]
        have o2 : FloatKind.f32.format.order 0 0 = some .eq := by decide +kernel
        have HBr := Lib.hid (hs.below HB8.out (.inr HW8.out) HB8.out.size)
        clear hke hx hs hl
        go_wp2_with fail
        refine (TM.out _).mono ?_
        rintro _ wt ⟨rfl, st⟩
        have HBt := Lib.hid (st.below HBr.out (.inl (Nat.le_refl _)) HBr.out.size)
        clear st
        go_wp2_with fail
        go_ret
        exact ⟨rfl, HBt.out⟩
  · have i0 : decide ((1048576 : Int) < (n : Int)) = true := by rw [decide_eq_true_iff]; omega
    clear hn h
    go_enter Try.func5, Try.ntmps5
    go_wp2_with fail
    go_ret
    exact ⟨rfl, Below.refl _ _⟩

end Go.Proofs.Ytocmppilihiehaa
