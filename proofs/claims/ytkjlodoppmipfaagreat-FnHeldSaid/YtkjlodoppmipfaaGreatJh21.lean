/- The order of a rack's modules. -/
import Derived.Test.YtkjlodoppmipfaaGreatJh20
import Derived.Test.YtkjlodoppmipfaaGreatJh2
import Derived.Test.YtkjlodoppmipfaaGreatJh13
import Derived.Outline
namespace Go.Proofs.YtkjlodoppmipfaaGreat
open Go.RowKit

theorem run_make_room {P : Program} (w : World) (t e : TypeId) (z : Value) (bytes : Nat) (ht : P.underlying t = some (.slice e)) (hi : (P.info? e).map (fun i => (i.zero, i.size, i.bytes)) = some (some z, 1, bytes)) (hz : z.cells = #[z])
    (n : Nat) (hb : bytes * n ≤ 281474976710656) (h63 : n ≤ 9223372036854775807) :
    (Instr.makeSlice t (.int .i64 0) (.int .i64 (n : Int))).run P w = .ok (.slice (some ⟨w.heap.size, 0, none⟩) 0 n) (w.alloc (.cells (zerosV z n) e)) := by
  obtain ⟨i, h1, h2, h3, h4⟩ := info_parts hi
  have hb' : (i.bytes : Int) * (n : Int) ≤ 281474976710656 := by
    rw [h4]
    have h : ((bytes * n : Nat) : Int) ≤ 281474976710656 := by omega
    rwa [Int.natCast_mul] at h
  have := run_make (P := P) w t e i z ht h1 h2 .i64 .i64 0 n (by omega) (by omega) hb' (by omega)
  rw [this, h3, hz]
  simp only [Int.toNat_natCast, Nat.mul_one, Int.toNat_zero]
  congr 3
  unfold madeCells zerosV
  apply Array.ext
  · simp
  · intro j h1 h2
    simp [Nat.mod_one]

theorem ownsRow_farK {w w' : World} {B lo hi : Nat} {e : TypeId} {s : Nat} {v : Value} {n : Nat} {xs : List Value} (h : w.ownsRow B e s v n xs) (sp : Span lo hi w w') (hd : hi ≤ lo ∨ hi ≤ B) : w'.ownsRow B e s v n xs := by
  obtain ⟨hl, h | ⟨g, cap, cur, rfl, hg, hh, hr⟩⟩ := h
  · exact ⟨hl, .inl h⟩
  · exact ⟨hl, .inr ⟨g, cap, cur, rfl, hg, (sp.block g (Array.getElem?_eq_some_iff.1 hh).1 (by omega)).trans hh, hr⟩⟩

theorem hasS_falses (w : World) (n : Nat) : HasS boolV true w.heap.size w.heap.size (w.heap.size + 1) (w.alloc (.cells (zerosV (.bool false) n) 4)) (.slice (some ⟨w.heap.size, 0, none⟩) n n) (List.replicate n false) := by
  refine ⟨_, n, by simp, by simp, fun hp => ⟨0, rfl, Nat.le_refl _, Nat.lt_succ_self _, by simp, fun j x hj => ?_, fun _ j _ => World.frozen?_alloc_new ..⟩⟩
  rw [World.cell?_alloc_new, Nat.zero_add]
  rw [List.getElem?_replicate] at hj
  split at hj
  · rename_i hlt
    cases hj
    simp [zerosV, boolV, hlt]
  · cases hj

theorem firstNo_range : ∀ P : List Bool, firstNo P = -1 ∨ ∃ i : Nat, i < P.length ∧ firstNo P = (i : Int)
  | [] => .inl rfl
  | false :: l => .inr ⟨0, by simp, rfl⟩
  | true :: l => by
    rcases firstNo_range l with h | ⟨i, h1, h2⟩
    · left; unfold firstNo; rw [h, if_pos (by decide)]
    · right; exact ⟨i + 1, by simp; omega, by unfold firstNo; rw [h2, if_neg (by omega)]; omega⟩

/-- One more module in the order. -/
def ordStep (K : List Int) (Cs : List (Nat × Nat)) (s : List Bool × List Int) : Option (List Bool × List Int) :=
  if firstNo (passed K Cs s.1) < 0 then none else some (s.1.set (firstNo (passed K Cs s.1)).toNat true, s.2 ++ [firstNo (passed K Cs s.1)])
def ordIt (K : List Int) (Cs : List (Nat × Nat)) : Nat → List Bool × List Int → Option (List Bool × List Int)
  | 0, s => some s
  | j + 1, s => (ordIt K Cs j s).bind (ordStep K Cs)
/-- The order of n modules, if there is one. -/
def orderC (K : List Int) (Cs : List (Nat × Nat)) (n : Nat) : Option (List Int) := (ordIt K Cs n (List.replicate n false, [])).map (·.2)
theorem ordIt_none {K : List Int} {Cs : List (Nat × Nat)} {s : List Bool × List Int} {j : Nat} (h : ordIt K Cs j s = none) : ∀ n, j ≤ n → ordIt K Cs n s = none
  | 0, hn => by have : j = 0 := by omega
                subst this; exact h
  | n + 1, hn => by
    by_cases e : j = n + 1
    · rw [← e]; exact h
    · show (ordIt K Cs n s).bind _ = none
      rw [ordIt_none h n (by omega)]; rfl

def GivesOrd (o : Option (List Int)) (w : World) (e : Ending) (w' : World) : Prop :=
  (match o with
    | some os => ∃ v b, e = .returned (.tuple #[v, .bool true]) ∧ HasS intV true b w.heap.size w'.heap.size w' v os
    | none => e = .returned (.tuple #[.slice none 0 0, .bool false])) ∧ Span 0 0 w w'

set_option maxRecDepth 100000 in
set_option maxHeartbeats 8000000 in
theorem orderOf_any {w : World} {bM bC lo hi : Nat} {AM : Option Addr} {n cM : Nat} {AC : Option Addr} {m cC : Nat} {Ms : List Mw} {Cs : List (Nat × Nat)} (hr : RkAt w bM bC lo hi AM n cM AC m cC Ms Cs) :
    Calls Tryz.prog 56 #[.agg #[.slice AM n cM, .slice AC m cC]] w (GivesOrd (orderC (Ms.map Mw.k) Cs n) w) := by
  have HR := Lib.hid hr
  have h16 : n ≤ 16 := hr.most.1
  have i3 : (n : Int) ≤ 16 := by omega
  obtain ⟨il, hil, hzl, hsl, hbl⟩ := info_parts info_int
  clear hr
  go_enter Tryz.func56, Tryz.ntmps56
  go_wp2_with fail
  obtain ⟨G, hG⟩ : ∃ b, b = w.heap.size := ⟨_, rfl⟩
  have BX := Lib.hid (Bx.new w #[.slice AM n cM, .slice AC m cC] 37)
  have HS := Lib.hid ((Span.refl 0 0 w).alloc (.cells #[.slice AM n cM, .slice AC m cC] 37))
  rw [← hG] at BX ⊢
  generalize w.alloc (.cells #[.slice AM n cM, .slice AC m cC] 37) = w0 at *
  refine (hasValidParts_true (HR.out.keep HS.out)).mono ?_
  rintro _ w1 ⟨rfl, s1⟩
  have BX1 := Lib.hid (BX.out.keep s1)
  have S1 := Lib.hid (HS.out.trans s1)
  have cB := BX1.out.cells
  have cBA := BX1.out.cellsA
  have cBB : ∀ o o' i, ((w1.alloc o).alloc o').cell? ⟨G, i, none⟩ = #[.slice AM n cM, .slice AC m cC][i]? := fun o => (BX1.out.alloc o).cellsA
  have hmk1 := run_make_zeros (P := Tryz.prog) w1 123 4 (.bool false) 1 Tryz.underlying123 info_bool rfl n (by omega) (by omega)
  have hmk2 := run_make_room (P := Tryz.prog) (w1.alloc (.cells (zerosV (.bool false) n) 4)) 28 3 (.int .i64 0) 8 Tryz.underlying28 info_int rfl n (by omega) (by omega)
  have HF := Lib.hid ((hasS_falses w1 n).alloc (.cells (zerosV (.int .i64 0) n) 3))
  have e1 : (w1.alloc (.cells (zerosV (.bool false) n) 4)).heap.size = w1.heap.size + 1 := by simp
  have HO := Lib.hid (World.ownsRow_made (base := w1.heap.size + 1) (e := 3) (size := 1) (w1.alloc (.cells (zerosV (.bool false) n) 4)) (zerosV (.int .i64 0) n) n (by rw [e1]; exact Nat.le_refl _) (by unfold maxLen; omega) (by simp [zerosV]))
  rw [e1] at HO hmk2
  have SF := Lib.hid ((S1.out.alloc (.cells (zerosV (.bool false) n) 4)).alloc (.cells (zerosV (.int .i64 0) n) 3))
  have BF := Lib.hid ((BX1.out.alloc (.cells (zerosV (.bool false) n) 4)).alloc (.cells (zerosV (.int .i64 0) n) 3))
  have ZG : Hid (G < w1.heap.size ∧ w.heap.size ≤ w1.heap.size) := ⟨BX1.out.1, S1.out.size⟩
  clear s1 BX HS BX1 S1 e1 hG
  go_wp2_with fail
  clear cB cBA cBB hmk1 hmk2
  generalize (w1.alloc (.cells (zerosV (.bool false) n) 4)).alloc (.cells (zerosV (.int .i64 0) n) 3) = wF at *
  obtain ⟨L, hL⟩ : ∃ b, b = w1.heap.size := ⟨_, rfl⟩
  rw [← hL] at HF HO ZG ⊢
  clear hL
  go_loopw [5, 21] (fun u q wr => ∃ (k : Nat) (xs : List Bool) (os : List Int), k ≤ n ∧ q = .int .i64 k ∧ ordIt (Ms.map Mw.k) Cs k (List.replicate n false, []) = some (xs, os) ∧ xs.length = n ∧ HasS boolV true L L (L + 1) wr (.slice (some ⟨L, 0, none⟩) n n) xs ∧ wr.ownsRow (L + 1) 3 1 u k (os.map intV) ∧ Bx G #[.slice AM n cM, .slice AC m cC] wr ∧ Span 0 0 w wr) (fun _ q _ => n - (intOf q).toNat)
  case atStart => exact ⟨0, _, [], Nat.zero_le _, rfl, rfl, by simp, HF.out, HO.out, BF.out, SF.out⟩
  case round =>
    clear HF HO BF SF
    obtain ⟨k, xs, os, hk, rfl, hord, hxl, hL, ho, hb, hs⟩ := hrel
    by_cases hlt : k < n
    · have NX := Lib.hid (nextInOrder_any (HR.out.keep hs) xs hxl L _ _ _ _ hL)
      have cb := hb.cells
      have HSR := Lib.hid hs
      have HLR := Lib.hid hL
      have HOR := Lib.hid ho
      have HBR := Lib.hid hb
      have HXL := Lib.hid hxl
      have HOD := Lib.hid hord
      have hpl : (passed (Ms.map Mw.k) Cs xs).length = n := by rw [passed_len]; exact hxl
      have hst : Hid (ordIt (Ms.map Mw.k) Cs (k + 1) (List.replicate n false, []) = ordStep (Ms.map Mw.k) Cs (xs, os)) := by
        unfold Hid; show (ordIt _ _ k _).bind _ = _; rw [hord]; rfl
      unfold ordStep at hst
      simp only at hst
      have hrg := firstNo_range (passed (Ms.map Mw.k) Cs xs)
      rw [hpl] at hrg
      clear hs hL ho hb hord hxl hpl
      generalize firstNo (passed (Ms.map Mw.k) Cs xs) = fn at *
      rcases hrg with rfl | ⟨i, hi, rfl⟩
      · have HN : Hid (orderC (Ms.map Mw.k) Cs n = none) := by
          have h := hst.out
          rw [if_pos (by decide)] at h
          unfold Hid orderC
          rw [ordIt_none h n (by omega)]; rfl
        clear hst
        go_wp2_with fail
        refine NX.out.mono ?_
        rintro _ wa ⟨rfl, sa⟩
        have SA := Lib.hid (HSR.out.trans sa)
        clear sa cb
        go_wp2_with fail
        go_ret2
        rw [HN.out]
        exact ⟨rfl, SA.out⟩
      · have HST : Hid (ordIt (Ms.map Mw.k) Cs (k + 1) (List.replicate n false, []) = some (xs.set i true, os ++ [(i : Int)])) := by
          have h := hst.out
          rw [if_neg (by omega)] at h
          exact h
        clear hst
        have j1 : (0 : Int) ≤ (i : Int) := by omega
        have j2 : (i : Int) < (n : Int) := by omega
        have j3 : decide ((i : Int) < 0) = false := by rw [decide_eq_false_iff_not]; omega
        have HI := Lib.hid hi
        go_wp2_with fail
        refine NX.out.mono ?_
        rintro _ wa ⟨rfl, sa⟩
        have LA := HLR.out.span sa (.inl (Nat.le_refl _))
        obtain ⟨A2, q2, e, -, hc⟩ := id LA
        injection e with e3 e4 e5
        subst e3
        obtain ⟨offL, hoff, -, -, -, hcell, hfz⟩ := hc (by rw [HXL.out]; omega)
        injection hoff with hoff
        injection hoff with _ hoff
        subst hoff
        obtain ⟨py, hpy⟩ := getElem?_some (xs := xs) (j := i) (by rw [HXL.out]; exact HI.out)
        have g0 : wa.cell? ⟨L, 0 + i, none⟩ = some (.bool py) := hcell i py hpy
        have g1 : wa.frozen? ⟨L, 0 + i, none⟩ = false := hfz rfl i (by rw [HXL.out]; exact HI.out)
        have LP := Lib.hid (LA.putB i true (by rw [HXL.out]; exact HI.out))
        have OP := Lib.hid (ownsRow_farK (ownsRow_farK HOR.out sa (.inl (Nat.le_refl _))) ((Span.refl L (L + 1) wa).setCell (p := ⟨L, 0 + i, none⟩) (.inl ⟨Nat.le_refl _, Nat.lt_succ_self _⟩) (.bool true)) (.inr (Nat.le_refl _)))
        have BP := Lib.hid ((HBR.out.keep sa).other (a := ⟨L, 0 + i, none⟩) (by have := ZG.out; simp; omega) (.bool true))
        have SP := Lib.hid ((HSR.out.trans sa).setCell (p := ⟨L, 0 + i, none⟩) (.inr ZG.out.2) (.bool true))
        rw [Nat.zero_add] at g0 g1 LP OP BP SP
        have ZP : Hid (L < (wa.setCell ⟨L, i, none⟩ (.bool true)).heap.size) := by have h := LA.lt (by rw [HXL.out]; omega); unfold Hid; simpa [World.setCell] using h
        have WE : Hid ((wa.setCell ⟨L, i, none⟩ (.bool true)).heap.size = wa.heap.size) := by unfold Hid; simp [World.setCell]
        clear sa cb LA e4 e5 hc hcell hfz hpy
        go_wp2_with (at_builtin; go_loud ((refine wpList_append_own _ rfl _ _ 28 rfl (L + 1) 3 il (.int .i64 0) 1 8 Tryz.underlying28 hil hzl hsl hbl rfl (by decide) _ _ _ rfl (OP.out.alloc _) ⟨wa.heap.size, 0, none⟩ 1 1 [intV (i : Int)] rfl rfl ?c1 ?c2 ?c3 ?c4 ?c5 ?_); (case c1 => exact one_new' _ _ _ _ _); (case c2 => exact one_cell (by rfl)); (case c3 => unfold maxLen; omega); (case c4 => omega); (case c5 => have := ZP.out; have := WE.out; simp; omega); intro v2 w2 ho hgr _; have HO2 := Lib.hid ho; have HG2 := Lib.hid hgr; clear ho hgr))
        go_roundw
        case rel =>
          have ow := OP.out
          have z1 := ZP.out
          have z2 := ZG.out
          have sp := ((Span.refl (L + 1) (wa.setCell ⟨L, i, none⟩ (.bool true)).heap.size (wa.setCell ⟨L, i, none⟩ (.bool true))).alloc (.cells #[.int .i64 (i : Int)] 3)).grown HG2.out (fun k' hk' => .inl (ow.lt k' hk'))
          have sq := (SP.out.alloc (.cells #[.int .i64 (i : Int)] 3)).grown HG2.out (fun k' hk' => .inr (by have := (ow.lt k' hk').1; omega))
          refine ⟨k + 1, xs.set i true, os ++ [(i : Int)], by omega, by go_num, HST.out, by rw [List.length_set]; exact HXL.out, LP.out.span sp (by omega), ?_, BP.out.span sp (by omega), sq⟩
          have := HO2.out
          simpa [intV] using this
        case measure => simp [intOf]; omega
    · have hkn : k = n := by omega
      subst hkn
      obtain ⟨A5, q5, rfl⟩ := ownsRow_slice ho
      obtain ⟨b5, h5, -, -⟩ := ownsRow_hasS ho
      have HN : Hid (orderC (Ms.map Mw.k) Cs k = some os) := by unfold Hid orderC; rw [hord]; rfl
      have H5 := Lib.hid (h5.weak (lo' := w.heap.size) (hi' := wr.heap.size) (by have := ZG.out; omega) (.inl (Nat.le_refl _)))
      have HSR := Lib.hid hs
      clear hord hxl hL ho hb hs h5
      go_wp2_with fail
      go_ret2
      rw [HN.out]
      exact ⟨⟨_, b5, rfl, H5.out⟩, HSR.out⟩
end Go.Proofs.YtkjlodoppmipfaaGreat
