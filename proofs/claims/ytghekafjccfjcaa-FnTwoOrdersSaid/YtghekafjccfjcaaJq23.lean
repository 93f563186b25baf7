/- A valid table is found valid. -/
import Derived.Test.YtghekafjccfjcaaJq22
namespace Go.Proofs.Ytghekafjccfjcaa
open Go.RowKit

def finX (x : Nat) : Prop := x < 4294967296 ∧ rungOf Ieee.single x < 2139095040
def finC (z : Cx) : Prop := finX z.1 ∧ finX z.2
structure Valid (t : Tab) : Prop where
  len : t.2.length = t.1.length
  most : t.1.length ≤ 64
  fin : ∀ z ∈ t.1, finC z
  apart : Apart t.1

theorem impl_isFinite_true (z : Cx) (h : finC z) (w : World) : Calls Try.prog 94 #[.complex .f32 z.1 z.2] w (SaysTrue w) := by
  obtain ⟨⟨h1, h2⟩, ⟨h3, h4⟩⟩ := h
  have H2 := Lib.hid h2
  have H4 := Lib.hid h4
  clear h2 h4
  go_enter Try.func94, Try.ntmps94
  go_wp2_with fail
  refine (impl_stepsOf z.1 h1 _).mono ?_
  rintro _ _ ⟨n, rfl, rfl⟩
  rw [if_pos H2.out]
  go_wp2_with fail
  refine (impl_stepsOf z.2 h3 _).mono ?_
  rintro _ _ ⟨m, rfl, rfl⟩
  rw [if_pos H4.out]
  go_wp2_with fail
  go_ret
  exact ⟨_, rfl, rfl⟩

set_option maxRecDepth 100000 in
set_option maxHeartbeats 1000000 in
theorem impl_isTable_true (t : Tab) (o : Bool) (lo hi : Nat) (v : Value) (w : World) (hx : HasTab o lo hi w v t) (ht : Valid t) :
    Calls Try.prog 92 #[v] w (True0 w) := by
  obtain ⟨b1, b2, vP, vL, rfl, hne, g1, g2⟩ := hx
  have G1 := Lib.hid g1
  obtain ⟨A, cap, rfl, hcap, hc⟩ := g1
  obtain ⟨A', cap', rfl, hcap', _⟩ := g2
  have HV := Lib.hid ht
  obtain ⟨len, hl⟩ : ∃ len, len = t.1.length := ⟨_, rfl⟩
  rw [ht.len] at hcap' ⊢
  have h64 := ht.most
  have HL := Lib.hid hl
  have G2 : Hid (HasS cxV o b1 lo hi w (.slice A len cap) t.1) := by unfold Hid; rw [hl]; exact G1.out
  rw [← hl] at hcap hcap' h64 ⊢
  clear hl ht G1
  have HC := Lib.hid hc; clear hc
  have i1 : decide ((64 : Int) < (len : Int)) = false := by rw [decide_eq_false_iff_not]; omega
  have hmu : Try.prog.underlying 153 = some (.map (Try.prog.mapKeyOf 153) (Try.prog.mapElemOf 153)) := by kernel_rfl
  have HMU := Lib.hid hmu
  clear hmu
  go_enter Try.func92, Try.ntmps92
  go_wp2_with fail
  obtain ⟨y1, y2⟩ := box2_new w (.slice A len cap) (.slice A' len cap') 35
  have HS := Lib.hid ((Span.refl 0 0 w).alloc (.cells #[.slice A len cap, .slice A' len cap'] 35))
  generalize w.alloc (.cells #[.slice A len cap, .slice A' len cap'] 35) = w0 at *
  have HB : Hid (w.heap.size < w0.heap.size) := by
    unfold Hid
    exact World.block_lt_of_cell? w0 ⟨w.heap.size, 0, none⟩ y1
  go_loopw [21] (fun c wr => ∃ (k m : Nat), k ≤ len ∧ c = .int .i64 k ∧ wr = w0.drewN m) (fun c _ => len - (intOf c).toNat)
  case atStart => exact ⟨0, 0, Nat.zero_le _, rfl, rfl⟩
  case round =>
    obtain ⟨k, m, hk, rfl, rfl⟩ := hrel
    by_cases hlt : k < len
    · obtain ⟨off, rfl, _, _, hb, hcell, _⟩ := HC.out (by rw [← HL.out]; omega)
      obtain ⟨z, hz⟩ := getElem?_some (xs := t.1) (j := k) (by rw [← HL.out]; exact hlt)
      have hck : w0.cell? ⟨b1, off + k, none⟩ = some (.complex .f32 z.1 z.2) := (HS.out.cells (Nat.le_refl _)).1 b1 _ hb |>.trans (hcell k z hz)
      have hfz := Lib.hid (HV.out.fin z (List.mem_of_getElem? hz))
      clear hcell hz
      go_wp2_with fail
      refine (impl_isFinite_true z hfz.out _).mono ?_
      rintro _ _ ⟨m2, rfl, rfl⟩
      go_wp2_with fail
      go_roundw
      case rel => exact ⟨k + 1, _, by omega, by go_num, rfl⟩
      case measure => simp [intOf]; omega
    · have hke : k = len := by omega
      have HK := Lib.hid hke
      clear hke
      go_wp2_with fail
      go_region_with (go_at_call 95; go_loud ((refine (placesOf_any t.1 o b1 lo hi _ _ ((G2.out.span HS.out (.inl (Nat.le_refl _))).drewN _) HV.out.most HV.out.apart).mono ?_; rintro _ w1 ⟨r, rfl, hr, hm, hs⟩; have y3 := hs.box2 (b := w.heap.size) (u := .slice A len cap) (v := .slice A' len cap') HB.out (.inl (Nat.le_refl _)) ⟨y1, y2⟩; obtain ⟨y4, y5⟩ := y3; have hlen := run_len_map (P := Try.prog) w1 153 3 r _ _ HMU.out hm; rw [entries_size, ← HL.out] at hlen; clear hm; have HS1 := Lib.hid hs; clear hs)))
      all_goals
        go_wp2_with fail
        go_ret
        first | exact ⟨rfl, HS1.out.after (HS.out.drewN _)⟩ | exact ⟨rfl, (HS1.out.after (HS.out.drewN _)).drewN _⟩ | exact ⟨rfl, (HS1.out.after (HS.out.drewN _)).drew⟩ | exact ⟨by simp, HS1.out.after (HS.out.drewN _)⟩ | exact ⟨by simp, (HS1.out.after (HS.out.drewN _)).drewN _⟩
end Go.Proofs.Ytghekafjccfjcaa
