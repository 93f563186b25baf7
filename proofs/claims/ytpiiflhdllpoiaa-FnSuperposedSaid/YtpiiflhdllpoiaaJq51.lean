/- Codes that follow from a code. -/
import Derived.Test.YtpiiflhdllpoiaaJq10
import Derived.Test.YtpiiflhdllpoiaaJq12
import Derived.Test.YtpiiflhdllpoiaaJq9
namespace Go.Proofs.Ytpiiflhdllpoiaa
open Go.RowKit

def byV (x : Int) : Value := .int .u8 x
theorem wrap_u8 (x : Int) : 0 ≤ IntKind.u8.wrap x ∧ IntKind.u8.wrap x ≤ 255 := by
  have h : IntKind.u8.wrap x = x % 256 := rfl
  rw [h]; omega

theorem info_u8 : (Try.prog.info? 5).map (fun i => (i.zero, i.size, i.bytes)) = some (some (.int .u8 0), 1, 1) := by kernel_rfl

/-- A code in new memory. -/
def MakesCode (w : World) (e : Ending) (w' : World) : Prop := ∃ A n c, e = .returned (.slice A n c) ∧ n ≤ 1000 ∧ HasBy w'.heap.size w' A n ∧ Below w.heap.size w w'

theorem hasBy_of {w : World} {o : Bool} {b lo hi : Nat} {A : Option Addr} {n c : Nat} {xs : List Int} (h : HasS byV o b lo hi w (.slice A n c) xs) (hx : ∀ x ∈ xs, 0 ≤ x ∧ x ≤ 255) : HasBy w.heap.size w A n := by
  obtain ⟨A', cap, e, hcap, hc⟩ := h
  injection e with e1 e2 e3
  subst e1
  subst e2
  intro hp
  obtain ⟨off, rfl, _, _, hb, hcell, _⟩ := hc hp
  refine ⟨b, off, rfl, hb, fun j hj => ?_⟩
  obtain ⟨x, hj'⟩ := getElem?_some hj
  have := hx x (List.mem_of_getElem? hj')
  exact ⟨x, this.1, this.2, hcell j x hj'⟩

set_option maxRecDepth 100000 in
set_option maxHeartbeats 2000000 in
theorem fresh_any (A : Option Addr) (n c : Nat) (salt : Int) (w : World) (h0 : 0 ≤ salt) (h1 : salt ≤ 1000) (hn : n ≤ 1048576) (h : HasBy w.heap.size w A n) :
    Calls Try.prog 16 #[.slice A n c, .int .i64 salt] w (MakesCode w) := by
  have Hby := Lib.hid h
  have hn' : (n : Int) ≤ 1048576 := by omega
  obtain ⟨ip, hip, hzp, hsp, hbp⟩ := info_parts info_u8
  clear h hn
  go_enter Try.func16, Try.ntmps16
  go_wp2_with fail
  have HO0 : Hid ((w.alloc (.cells #[.int .u8 (salt % 256)] 5)).ownsRow w.heap.size 5 1 (.slice (some ⟨w.heap.size, 0, none⟩) 1 1) 1 ([salt % 256].map byV)) :=
    World.ownsRow_lit (base := w.heap.size) (e := 5) (size := 1) w #[.int .u8 (salt % 256)] 1 (Nat.le_refl _) (by unfold maxLen; omega) rfl
  have HB0 := Lib.hid ((Below.refl w.heap.size w).alloc (Nat.le_refl _) (.cells #[.int .u8 (salt % 256)] 5))
  go_loopw [5, 6] (fun u q wr => ∃ (i : Nat) (xs : List Int), i ≤ 600 ∧ xs.length = i + 1 ∧ (∀ x ∈ xs, 0 ≤ x ∧ x ≤ 255) ∧ q = .int .i64 i ∧ wr.ownsRow w.heap.size 5 1 u (i + 1) (xs.map byV) ∧ Below w.heap.size w wr) (fun _ q _ => 700 - (intOf q).toNat)
  case atStart => exact ⟨0, [salt % 256], by omega, rfl, (fun x hx => by rw [List.mem_singleton.1 hx]; omega), rfl, HO0.out, HB0.out⟩
  case round =>
    clear HO0 HB0
    obtain ⟨i, xs, hi, hl, hx, rfl, ho, hb⟩ := hrel
    have HLx := Lib.hid hl
    have HXS := Lib.hid hx
    have HO := Lib.hid ho
    have HB := Lib.hid hb
    clear hl hx ho hb
    by_cases hlt : i < n
    · by_cases hlt2 : i < 600
      · obtain ⟨b, off, rfl, hbB, hcell⟩ := Hby.out (by omega)
        obtain ⟨y, y0, y1, hy⟩ := hcell i hlt
        have hy' : wr.cell? ⟨b, off + i, none⟩ = some (.int .u8 y) := (HB.out.cell (p := ⟨b, off + i, none⟩) hbB).trans hy
        have i1 : decide ((i : Int) < 600) = true := by rw [decide_eq_true_eq]; omega
        clear hcell hy
        go_wp2_with (at_builtin; go_loud ((refine wpList_append_own _ rfl _ _ 22 rfl w.heap.size 5 ip (.int .u8 0) 1 1 Try.underlying22 hip hzp hsp hbp rfl (by decide) _ _ _ rfl (HO.out.alloc _) ⟨wr.heap.size, 0, none⟩ 1 1 [byV (wrap64 (y * 3 + wrap64 (salt * ((i : Int) % 7 + 1))) % 256)] rfl rfl ?c1 ?c2 ?c3 ?c4 ?c5 ?_); (case c1 => exact one_new _ _ _); (case c2 => exact one_cell (by rfl)); (case c3 => unfold maxLen; omega); (case c4 => omega); (case c5 => have := HB.out.size; simp; omega); intro v2 w4 ho4 hg4 _; have HO4 := Lib.hid ho4; have HG4 := Lib.hid hg4; clear ho4 hg4))
        go_roundw
        case rel =>
          have ow := HO.out
          refine ⟨i + 1, xs ++ [wrap64 (y * 3 + wrap64 (salt * ((i : Int) % 7 + 1))) % 256], by omega, by rw [List.length_append, HLx.out]; rfl, ?_, by go_num, by have := HO4.out; rw [List.map_append]; exact this, (HB.out.alloc HB.out.size _).grown HG4.out (by have := HB.out.size; simp; omega) (fun k' hk' => (ow.lt k' hk').1)⟩
          intro x hx
          rcases List.mem_append.1 hx with h | h
          · exact HXS.out x h
          · rw [List.mem_singleton.1 h]; omega
        case measure => simp [intOf]; omega
      · have i1 : decide ((i : Int) < 600) = false := by rw [decide_eq_false_iff_not]; omega
        obtain ⟨A1, q1, rfl⟩ := ownsRow_slice HO.out
        clear hlt2
        go_wp2_with fail
        go_ret
        obtain ⟨b', h1, -, -⟩ := ownsRow_hasS HO.out
        exact ⟨A1, i + 1, q1, rfl, by omega, hasBy_of h1 HXS.out, HB.out⟩
    · obtain ⟨A1, q1, rfl⟩ := ownsRow_slice HO.out
      have hle : n ≤ i := by omega
      go_wp2_with fail
      go_ret
      obtain ⟨b', h1, -, -⟩ := ownsRow_hasS HO.out
      exact ⟨A1, i + 1, q1, rfl, by omega, hasBy_of h1 HXS.out, HB.out⟩
end Go.Proofs.Ytpiiflhdllpoiaa
