/- The nearest point, as the document's own functions find it. -/
import Derived.Test.YtfafkdpefdpnkaaGreatJq45
import Derived.Test.YtfafkdpefdpnkaaGreatJq29
import Derived.Test.YtfafkdpefdpnkaaGreatJq43
import Derived.Outline
namespace Go.Proofs.YtfafkdpefdpnkaaGreat
open Go.RowKit

set_option maxHeartbeats 400000 in
theorem spec_distanceS (a b : Cx) (w : World) : Calls Tryz.prog 34 #[.complex .f32 a.1 a.2, .complex .f32 b.1 b.2] w (GivesF w .f32 (distC a b)) := by
  obtain ⟨a1, a2⟩ := a
  obtain ⟨b1, b2⟩ := b
  simp only
  go_enter Tryz.func34, Tryz.ntmps34
  go_wp2
  go_ret
  refine ⟨_, _, rfl, rfl, ?_⟩
  unfold distC
  repeat' first | exact FE.refl _ _ | refine FE.arC _ ?_ ?_

/-- The place that is told: -1 where there is none. -/
def idxO (s : Option (Nat × Nat)) : Int := match s with | none => -1 | some (i, _) => (i : Int)

set_option maxRecDepth 100000 in
set_option maxHeartbeats 4000000 in
theorem l2Nearest_any (t : Tab) (z : Cx) (o : Bool) (lo hi : Nat) (v : Value) (w : World) (hx : HasTab o lo hi w v t) (hlen : t.1.length ≤ 64) :
    Calls Tryz.prog 20 #[v, .complex .f32 z.1 z.2] w (Num0 (idxO (nearC t.1 z)) w) := by
  obtain ⟨b1, b2, vP, vL, rfl, -, g1, g2⟩ := hx
  have G1 := Lib.hid g1
  obtain ⟨A, cap, rfl, -, -⟩ := g1
  obtain ⟨A', cap', rfl, -, -⟩ := g2
  obtain ⟨Q, L⟩ := t
  simp only at *
  obtain ⟨len, hl⟩ : ∃ len, len = Q.length := ⟨_, rfl⟩
  have HL := Lib.hid hl
  have G1' : Hid (HasS cxV o b1 lo hi w (.slice A len cap) Q) := by unfold Hid; rw [hl]; exact G1.out
  rw [← hl] at hlen ⊢
  have hl6 : (len : Int) ≤ 64 := by omega
  clear hl G1
  go_enter Tryz.func20, Tryz.ntmps20
  go_wp2_with fail
  have HQ := Lib.hid (G1'.out.alloc (.cells #[.slice A len cap, .slice A' L.length cap'] 26))
  have HS := Lib.hid ((Span.refl 0 0 w).alloc (.cells #[.slice A len cap, .slice A' L.length cap'] 26))
  generalize w.alloc (.cells #[.slice A len cap, .slice A' L.length cap'] 26) = w0 at *
  go_loopw [5, 6, 13] (fun a q c wr => ∃ (k n : Nat) (s : Option (Nat × Nat)), k ≤ len ∧ nearC (Q.take k) z = s ∧ c = .int .i64 k ∧ a = .int .i64 (idxO s) ∧ q = .float .f32 ((s.map (·.2)).getD 0) ∧ wr = w0.drewN n) (fun _ _ c _ => len - (intOf c).toNat)
  case atStart => exact ⟨0, 0, none, Nat.zero_le _, rfl, rfl, rfl, rfl, rfl⟩
  case round =>
    obtain ⟨k, n, s, hk, hs, rfl, rfl, rfl, rfl⟩ := hrel
    by_cases hlt : k < len
    · obtain ⟨off, rfl⟩ := HQ.out.addr (by rw [← HL.out]; omega)
      obtain ⟨p, hp⟩ := getElem?_some (xs := Q) (j := k) (by rw [← HL.out]; exact hlt)
      have hck : w0.cell? ⟨b1, off + k, none⟩ = some (.complex .f32 p.1 p.2) := HQ.out.at_ hp
      have hst : nearC (Q.take (k + 1)) z = nearStep z s k p := by
        rw [take_snoc_of hp, nearC_snoc, hs, List.length_take, Nat.min_eq_left (by rw [← HL.out]; omega)]
      clear hp hs
      cases hn : nanB .f32 (distC p z) with
      | true =>
        have HST : Hid (nearC (Q.take (k + 1)) z = s) := by unfold Hid; rw [hst]; unfold nearStep; rw [hn]; rfl
        have HN := Lib.hid hn
        clear hst hn
        go_wp2_with fail
        refine (spec_distanceS p z _).mono ?_
        rintro _ _ ⟨r, m, rfl, rfl, hr⟩
        have hrn : nanB .f32 r = true := by
          rcases hr with rfl | h
          · exact HN.out
          · exact h.1
        have hro : FloatKind.f32.format.order r r = none := order_nan_left hrn
        clear hr hrn
        go_wp2_with fail
        go_roundw
        case rel => exact ⟨k + 1, _, s, by omega, HST.out, by go_num, rfl, rfl, rfl⟩
        case measure => simp [intOf]; omega
      | false =>
        have HN := Lib.hid hn
        have HST := Lib.hid hst
        clear hst hn
        cases s with
        | none =>
          simp only [Option.map_none, Option.getD_none, idxO]
          go_wp2_with fail
          refine (spec_distanceS p z _).mono ?_
          rintro _ _ ⟨r, m, rfl, rfl, hr⟩
          obtain rfl : r = distC p z := by
            rcases hr with h | h
            · exact h
            · have := HN.out; rw [h.2] at this; cases this
          have hro : FloatKind.f32.format.order (distC p z) (distC p z) = some .eq := by rw [order_self, HN.out]; rfl
          clear hr
          go_wp2_with fail
          go_roundw
          case rel => exact ⟨k + 1, _, some (k, distC p z), by omega, by rw [HST.out]; unfold nearStep; rw [HN.out]; rfl, by go_num, rfl, rfl, rfl⟩
          case measure => simp [intOf]; omega
        | some jm =>
          obtain ⟨j, mm⟩ := jm
          simp only [Option.map_some, Option.getD_some, idxO]
          have hj0 : decide ((j : Int) < 0) = false := by rw [decide_eq_false_iff_not]; omega
          cases ho : FloatKind.f32.format.order (distC p z) mm == some .lt with
          | true =>
            have HO := Lib.hid ho
            go_wp2_with fail
            refine (spec_distanceS p z _).mono ?_
            rintro _ _ ⟨r, m, rfl, rfl, hr⟩
            obtain rfl : r = distC p z := by
              rcases hr with h | h
              · exact h
              · have := HN.out; rw [h.2] at this; cases this
            have hro : FloatKind.f32.format.order (distC p z) (distC p z) = some .eq := by rw [order_self, HN.out]; rfl
            clear hr
            go_wp2_with fail
            go_roundw
            case rel => exact ⟨k + 1, _, some (k, distC p z), by omega, by rw [HST.out]; unfold nearStep; rw [HN.out]; simp only [HO.out]; rfl, by go_num, rfl, rfl, rfl⟩
            case measure => simp [intOf]; omega
          | false =>
            have HO := Lib.hid ho
            go_wp2_with fail
            refine (spec_distanceS p z _).mono ?_
            rintro _ _ ⟨r, m, rfl, rfl, hr⟩
            obtain rfl : r = distC p z := by
              rcases hr with h | h
              · exact h
              · have := HN.out; rw [h.2] at this; cases this
            have hro : FloatKind.f32.format.order (distC p z) (distC p z) = some .eq := by rw [order_self, HN.out]; rfl
            clear hr
            go_wp2_with fail
            go_roundw
            case rel => exact ⟨k + 1, _, some (j, mm), by omega, by rw [HST.out]; unfold nearStep; rw [HN.out]; simp only [HO.out]; rfl, by go_num, rfl, rfl, rfl⟩
            case measure => simp [intOf]; omega
    · have hke : k = len := by omega
      have HK := Lib.hid hke
      have HSS := Lib.hid hs
      clear hke hs
      go_wp2_with fail
      go_ret
      refine ⟨?_, HS.out.drewN _⟩
      have := HSS.out
      rw [HK.out, HL.out, List.take_length] at this
      rw [this]
      rfl

/-- A nearest point is told. -/
def TellsP (s : Option (Nat × Nat)) (w : World) (e : Ending) (w' : World) : Prop := e = .returned (.tuple #[.int .i64 (((s.map (·.1)).getD 0 : Nat) : Int), .bool s.isSome]) ∧ Span 0 0 w w'

set_option maxRecDepth 100000 in
set_option maxHeartbeats 1000000 in
theorem spec_nearestPoint (t : Tab) (z : Cx) (o : Bool) (lo hi : Nat) (v : Value) (w : World) (hx : HasTab o lo hi w v t) (ht : Valid t) :
    Calls Tryz.prog 9 #[v, .complex .f32 z.1 z.2] w (TellsP (nearC t.1 z) w) := by
  obtain ⟨A, c, A', c', rfl⟩ := hx.form
  have HX := Lib.hid hx
  have HT := Lib.hid ht
  have LN := Lib.hid (fun w h => l2Nearest_any t z o lo hi (.agg #[.slice A t.1.length c, .slice A' t.2.length c']) w h ht.most)
  unfold TellsP
  generalize nearC t.1 z = s at LN ⊢
  generalize t.1.length = n1 at HX LN ⊢
  generalize t.2.length = n2 at HX LN ⊢
  clear hx ht
  go_enter Tryz.func9, Tryz.ntmps9
  go_wp2_with fail
  have HS := Lib.hid ((Span.refl 0 0 w).alloc (.cells #[.slice A n1 c, .slice A' n2 c'] 26))
  obtain ⟨y1, y2⟩ := box2_new w (.slice A n1 c) (.slice A' n2 c') 26
  have hb : w.heap.size < (w.alloc (.cells #[.slice A n1 c, .slice A' n2 c'] 26)).heap.size := by simp
  generalize w.alloc (.cells #[.slice A n1 c, .slice A' n2 c'] 26) = w0 at *
  refine (spec_isTable_true t o lo hi _ _ (HX.out.span HS.out (.inl (Nat.le_refl _))) HT.out).mono ?_
  rintro _ w1 ⟨rfl, s1⟩
  obtain ⟨x1, x2⟩ := s1.box2 hb (.inl (Nat.le_refl _)) ⟨y1, y2⟩
  have S1 := Lib.hid (HS.out.trans s1)
  clear s1 y1 y2 hb
  go_wp2_with fail
  refine (LN.out _ (HX.out.span S1.out (.inl (Nat.le_refl _)))).mono ?_
  rintro _ w2 ⟨rfl, s2⟩
  have S2 := Lib.hid (S1.out.trans s2)
  clear s2
  cases s with
  | none =>
    simp only [idxO, Option.map_none, Option.getD_none, Option.isSome_none]
    go_wp2_with fail
    go_ret2
    exact ⟨rfl, S2.out⟩
  | some im =>
    obtain ⟨i, m⟩ := im
    simp only [idxO, Option.map_some, Option.getD_some, Option.isSome_some]
    have h0 : (0 : Int) ≤ (i : Int) := by omega
    have h1 : max (i : Int) 0 = (i : Int) := by omega
    go_wp2_with fail
    go_ret2
    exact ⟨rfl, S2.out⟩
end Go.Proofs.YtfafkdpefdpnkaaGreat
