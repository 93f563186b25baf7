/- FnSums: the list that is drawn. -/
import Derived.Test.YtmdmfkdmgmcbpaaI5
import Derived.Test.YtmdmfkdmgmcbpaaN11
namespace Go.Proofs.Ytmdmfkdmgmcbpaa
open Go.RowKit

theorem Cur.grownOther {B : Nat} {w w' : World} {a : Addr} {row : Option Nat} (h : Cur B w a) (hg : w.grownBy w' row) (hr : ∀ k, row = some k → B ≤ k ∧ k ≠ a.block) : Cur B w' a := by
  obtain ⟨g, A, n, c, i, x, rfl, hB, hh, hi, hn, hby⟩ := h
  have hlt : g < w.heap.size := by
    by_cases h : g < w.heap.size
    · exact h
    · rw [Array.getElem?_eq_none (by omega)] at hh; cases hh
  refine ⟨g, A, n, c, i, x, rfl, hB, ?_, hi, hn, ?_⟩
  · rw [hg.block g hlt (fun e => (hr g e.symm).2 rfl)]; exact hh
  · intro hn0
    obtain ⟨b, off, rfl, hb, hc⟩ := hby hn0
    refine ⟨b, off, rfl, hb, fun j hj => ?_⟩
    obtain ⟨u, u0, u1, hu⟩ := hc j hj
    exact ⟨u, u0, u1, hg.cell hu (fun e => by have := (hr b e.symm).1; omega)⟩

def fltV (x : Nat) : Value := .float .f32 x

theorem hasF_of {w : World} {o : Bool} {b lo hi : Nat} {v : Value} {xs : List Nat} (h : HasS fltV o b lo hi w v xs) : HasF w v xs := by
  obtain ⟨A, cap, rfl, hcap, hc⟩ := h
  refine ⟨A, cap, rfl, hcap, fun hp => ?_⟩
  obtain ⟨off, rfl, _, _, _, hcell, _⟩ := hc hp
  refine ⟨b, off, rfl, fun j hj => ?_⟩
  obtain ⟨x, hx⟩ := getElem?_some hj
  rw [hcell j x hx, List.getD_eq_getElem?_getD, hx]; rfl

/-- A list of small whole numbers. -/
def MakesList (w : World) (e : Ending) (w' : World) : Prop := ∃ v qs b, e = .returned v ∧ Small qs ∧ HasS fltV true b w.heap.size w'.heap.size w' v (fis qs) ∧ Below w.heap.size w w'

set_option maxRecDepth 100000 in
set_option maxHeartbeats 2000000 in
theorem makeList_any (A : Option Addr) (n c : Nat) (w : World) (hn : n ≤ 1048576) (h : HasBy w.heap.size w A n) :
    Calls Try.prog 9 #[.slice A n c] w (MakesList w) := by
  have Hn := Lib.hid hn
  have Hby := Lib.hid h
  obtain ⟨ip, hip, hzp, hsp, hbp⟩ := info_parts info_f32
  clear hn h
  go_enter Try.func9, Try.ntmps9
  go_wp2_with fail
  refine (l01New_any A n c w Hn.out Hby.out).mono ?_
  rintro _ w1 ⟨a, rfl, ha, hc, hb⟩
  have hlt := Cur.lt hc
  have HA : Hid (a.block = w.heap.size) := ha
  have ZB : w.heap.size ≤ a.block := by omega
  have HO : Hid ((w1.alloc (.cells #[] 25)).ownsRow w1.heap.size 25 1 (.slice (some ⟨w1.heap.size, 0, none⟩) 0 0) 0 ((fis []).map fltV)) :=
    World.ownsRow_made (base := w1.heap.size) (e := 25) (size := 1) w1 #[] 0 (Nat.le_refl _) (Nat.zero_le _) rfl
  have HC := Lib.hid (hc.alloc (.cells #[] 25))
  have HB := Lib.hid (hb.alloc hb.size (.cells #[] 25))
  have ZS : w.heap.size ≤ w1.heap.size := hb.size
  clear ha hc hb
  go_wp2_with fail
  refine (l01Below_any w.heap.size a 20 _ HC.out (by omega) (by omega)).mono ?_
  rintro _ w2 ⟨k0, rfl, k1, k2, hc2, hg2⟩
  have HO2 := Lib.hid (HO.out.kept hg2 (.inr (by simp only [Value.ownBlock]; intro e; injection e; omega)))
  have HB2 := Lib.hid (HB.out.grown hg2 (by simp; omega) (fun k hk => by injection hk with hk; omega))
  have HC2 := Lib.hid hc2
  have Z2 : Hid (w1.heap.size < w2.heap.size) := by unfold Hid; have := hg2.size; simp at this; omega
  obtain ⟨k0', rfl⟩ := Int.eq_ofNat_of_zero_le k1
  clear hc2 hg2 HO HC HB
  go_wp2_with fail
  go_loopw [4, 5] (fun u q wr => ∃ (k : Nat) (qs : List Int), qs.length + k ≤ 20 ∧ (∀ q ∈ qs, q.natAbs ≤ 1000) ∧ q = .int .i64 k ∧ wr.ownsRow w1.heap.size 25 1 u qs.length ((fis qs).map fltV) ∧ Cur w.heap.size wr a ∧ Below w.heap.size w wr ∧ w1.heap.size < wr.heap.size) (fun _ q _ => (intOf q).toNat)
  case atStart => exact ⟨k0', [], by simp; omega, (fun _ h => by cases h), rfl, HO2.out, HC2.out, HB2.out, Z2.out⟩
  case round =>
    clear HO2 HC2 HB2 Z2
    obtain ⟨k, qs, hk, hq, rfl, ho, hc, hb, hz⟩ := hrel
    have HK := Lib.hid hk
    have HQ := Lib.hid hq
    have HO := Lib.hid ho
    have HC := Lib.hid hc
    have HB := Lib.hid hb
    have HZ := Lib.hid hz
    have i0 : (k : Int) ≤ 20 := by omega
    clear hk hq ho hc hb hz
    by_cases hlt2 : 0 < k
    · go_wp2_with fail
      refine (l01Below_any w.heap.size a 2001 _ HC.out (by omega) (by omega)).mono ?_
      rintro _ w3 ⟨r, rfl, r1, r2, hc3, hg3⟩
      have HO3 := Lib.hid (HO.out.kept hg3 (.inr (fun e => by have := (HO.out.lt _ e).1; omega)))
      have HB3 := Lib.hid (HB.out.grown hg3 HB.out.size (fun k hk => by injection hk with hk; omega))
      have HC3 := Lib.hid hc3
      have HZ3 : Hid (w1.heap.size < w3.heap.size) := by unfold Hid; have := hg3.size; have := HZ.out; omega
      clear hc3 hg3
      go_wp2_with (at_builtin; go_loud ((refine wpList_append_own _ rfl _ _ 23 rfl w1.heap.size 25 ip (.float .f32 0) 1 4 Try.underlying23 hip hzp hsp hbp rfl (by decide) _ _ _ rfl (HO3.out.alloc _) ⟨w3.heap.size, 0, none⟩ 1 1 [fltV (fi (r - 1000))] rfl rfl ?c1 ?c2 ?c3 ?c4 ?c5 ?_); (case c1 => exact one_new _ _ _); (case c2 => exact one_cell (by rfl)); (case c3 => have := HK.out; unfold maxLen; omega); (case c4 => have := HK.out; omega); (case c5 => have := HZ3.out; simp; omega); intro v2 w4 ho4 hg4 _; have HO4 := Lib.hid ho4; have HG4 := Lib.hid hg4; clear ho4 hg4))
      go_roundw
      case rel =>
        have ow := HO3.out
        have hrow : ∀ k', _ = some k' → w.heap.size ≤ k' ∧ k' ≠ a.block := fun k' hk' => by have := (ow.lt k' hk').1; omega
        have hz4 := HG4.out.size
        have hz3 := HZ3.out
        refine ⟨k - 1, qs ++ [r - 1000], by rw [List.length_append, List.length_singleton]; have := HK.out; omega, ?_, congrArg (Value.int .i64) (by omega), ?_, (HC3.out.alloc _).grownOther HG4.out hrow, (HB3.out.alloc HB3.out.size _).grown HG4.out (by have := HB3.out.size; simp; omega) (fun k' hk' => (hrow k' hk').1), by simp at hz4; omega⟩
        · intro q hq
          rcases List.mem_append.1 hq with h | h
          · exact HQ.out q h
          · rw [List.mem_singleton.1 h]; omega
        · have := HO4.out
          simpa [fis] using this
      case measure => simp [intOf]; omega
    · have hk0 : k = 0 := by omega
      subst hk0
      obtain ⟨A1, q1, rfl⟩ := ownsRow_slice HO.out
      go_wp2_with fail
      go_ret
      obtain ⟨b', h1, -, -⟩ := ownsRow_hasS HO.out
      exact ⟨_, qs, b', rfl, ⟨by have := HK.out; omega, HQ.out⟩, h1.weak ZS (.inl (Nat.le_refl _)), HB.out⟩

end Go.Proofs.Ytmdmfkdmgmcbpaa
