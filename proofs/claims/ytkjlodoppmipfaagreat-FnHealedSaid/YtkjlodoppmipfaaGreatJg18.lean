/- The order of a rack's modules. A circuit that is being made: its units, what feeds them, its stations. -/
import Derived.Test.YtkjlodoppmipfaaGreatJg17
import Derived.Test.YtkjlodoppmipfaaGreatJg2
import Derived.Test.YtkjlodoppmipfaaGreatJg11
import Derived.Outline
import Derived.Test.YtkjlodoppmipfaaGreatJg16
import Derived.Deep.AppendLies
namespace Go.Proofs.YtkjlodoppmipfaaGreat
section
open Go.RowKit

theorem run_make_room {P : Program} (w : World) (t e : TypeId) (z : Value) (bytes : Nat) (ht : P.underlying t = some (.slice e)) (hi : (P.info? e).map (fun i => (i.zero, i.size, i.bytes)) = some (some z, 1, bytes)) (hz : z.cells = #[z])
    (n : Nat) (hb : bytes * n ≤ 281474976710656) (h63 : n ≤ 9223372036854775807) :
    (Instr.makeSlice t (.int .i64 0) (.int .i64 (n : Int))).run P w = .ok (.slice (some ⟨w.heap.size, 0, none⟩) 0 n) (w.alloc (.cells (zerosV z n) e)) := by
  obtain ⟨i, h1, h2, h3, h4⟩ := info_parts hi
  have hb' : (i.bytes : Int) * (n : Int) ≤ 281474976710656 := by
    rw [h4]
    have h : ((bytes * n : Nat) : Int) ≤ 281474976710656 := by omega
    rwa [Int.natCast_mul] at h
  have := run_make (P := P) w t e i z ht h1 h2 .i64 .i64 0 n (by omega) (by omega) hb' (by omega)
  rw [this, h3, hz]
  simp only [Int.toNat_natCast, Nat.mul_one, Int.toNat_zero]
  congr 3
  unfold madeCells zerosV
  apply Array.ext
  · simp
  · intro j h1 h2
    simp [Nat.mod_one]

theorem ownsRow_farK {w w' : World} {B lo hi : Nat} {e : TypeId} {s : Nat} {v : Value} {n : Nat} {xs : List Value} (h : w.ownsRow B e s v n xs) (sp : Span lo hi w w') (hd : hi ≤ lo ∨ hi ≤ B) : w'.ownsRow B e s v n xs := by
  obtain ⟨hl, h | ⟨g, cap, cur, rfl, hg, hh, hr⟩⟩ := h
  · exact ⟨hl, .inl h⟩
  · exact ⟨hl, .inr ⟨g, cap, cur, rfl, hg, (sp.block g (Array.getElem?_eq_some_iff.1 hh).1 (by omega)).trans hh, hr⟩⟩

theorem hasS_falses (w : World) (n : Nat) : HasS boolV true w.heap.size w.heap.size (w.heap.size + 1) (w.alloc (.cells (zerosV (.bool false) n) 4)) (.slice (some ⟨w.heap.size, 0, none⟩) n n) (List.replicate n false) := by
  refine ⟨_, n, by simp, by simp, fun hp => ⟨0, rfl, Nat.le_refl _, Nat.lt_succ_self _, by simp, fun j x hj => ?_, fun _ j _ => World.frozen?_alloc_new ..⟩⟩
  rw [World.cell?_alloc_new, Nat.zero_add]
  rw [List.getElem?_replicate] at hj
  split at hj
  · rename_i hlt
    cases hj
    simp [zerosV, boolV, hlt]
  · cases hj

theorem firstNo_range : ∀ P : List Bool, firstNo P = -1 ∨ ∃ i : Nat, i < P.length ∧ firstNo P = (i : Int)
  | [] => .inl rfl
  | false :: l => .inr ⟨0, by simp, rfl⟩
  | true :: l => by
    rcases firstNo_range l with h | ⟨i, h1, h2⟩
    · left; unfold firstNo; rw [h, if_pos (by decide)]
    · right; exact ⟨i + 1, by simp; omega, by unfold firstNo; rw [h2, if_neg (by omega)]; omega⟩

/-- One more module in the order. -/
def ordStep (K : List Int) (Cs : List (Nat × Nat)) (s : List Bool × List Int) : Option (List Bool × List Int) :=
  if firstNo (passed K Cs s.1) < 0 then none else some (s.1.set (firstNo (passed K Cs s.1)).toNat true, s.2 ++ [firstNo (passed K Cs s.1)])
def ordIt (K : List Int) (Cs : List (Nat × Nat)) : Nat → List Bool × List Int → Option (List Bool × List Int)
  | 0, s => some s
  | j + 1, s => (ordIt K Cs j s).bind (ordStep K Cs)
/-- The order of n modules, if there is one. -/
def orderC (K : List Int) (Cs : List (Nat × Nat)) (n : Nat) : Option (List Int) := (ordIt K Cs n (List.replicate n false, [])).map (·.2)
theorem ordIt_none {K : List Int} {Cs : List (Nat × Nat)} {s : List Bool × List Int} {j : Nat} (h : ordIt K Cs j s = none) : ∀ n, j ≤ n → ordIt K Cs n s = none
  | 0, hn => by have : j = 0 := by omega
                subst this; exact h
  | n + 1, hn => by
    by_cases e : j = n + 1
    · rw [← e]; exact h
    · show (ordIt K Cs n s).bind _ = none
      rw [ordIt_none h n (by omega)]; rfl

def GivesOrd (o : Option (List Int)) (w : World) (e : Ending) (w' : World) : Prop :=
  (match o with
    | some os => ∃ v b, e = .returned (.tuple #[v, .bool true]) ∧ HasS intV true b w.heap.size w'.heap.size w' v os
    | none => e = .returned (.tuple #[.slice none 0 0, .bool false])) ∧ Span 0 0 w w'

set_option maxRecDepth 100000 in
set_option maxHeartbeats 8000000 in
theorem orderOf_any {w : World} {bM bC lo hi : Nat} {AM : Option Addr} {n cM : Nat} {AC : Option Addr} {m cC : Nat} {Ms : List Mw} {Cs : List (Nat × Nat)} (hr : RkAt w bM bC lo hi AM n cM AC m cC Ms Cs) :
    Calls Tryz.prog 56 #[.agg #[.slice AM n cM, .slice AC m cC]] w (GivesOrd (orderC (Ms.map Mw.k) Cs n) w) := by
  have HR := Lib.hid hr
  have h16 : n ≤ 16 := hr.most.1
  have i3 : (n : Int) ≤ 16 := by omega
  obtain ⟨il, hil, hzl, hsl, hbl⟩ := info_parts info_int
  clear hr
  go_enter Tryz.func56, Tryz.ntmps56
  go_wp2_with fail
  obtain ⟨G, hG⟩ : ∃ b, b = w.heap.size := ⟨_, rfl⟩
  have BX := Lib.hid (Bx.new w #[.slice AM n cM, .slice AC m cC] 37)
  have HS := Lib.hid ((Span.refl 0 0 w).alloc (.cells #[.slice AM n cM, .slice AC m cC] 37))
  rw [← hG] at BX ⊢
  generalize w.alloc (.cells #[.slice AM n cM, .slice AC m cC] 37) = w0 at *
  refine (hasValidParts_true (HR.out.keep HS.out)).mono ?_
  rintro _ w1 ⟨rfl, s1⟩
  have BX1 := Lib.hid (BX.out.keep s1)
  have S1 := Lib.hid (HS.out.trans s1)
  have cB := BX1.out.cells
  have cBA := BX1.out.cellsA
  have cBB : ∀ o o' i, ((w1.alloc o).alloc o').cell? ⟨G, i, none⟩ = #[.slice AM n cM, .slice AC m cC][i]? := fun o => (BX1.out.alloc o).cellsA
  have hmk1 := run_make_zeros (P := Tryz.prog) w1 123 4 (.bool false) 1 Tryz.underlying123 info_bool rfl n (by omega) (by omega)
  have hmk2 := run_make_room (P := Tryz.prog) (w1.alloc (.cells (zerosV (.bool false) n) 4)) 28 3 (.int .i64 0) 8 Tryz.underlying28 info_int rfl n (by omega) (by omega)
  have HF := Lib.hid ((hasS_falses w1 n).alloc (.cells (zerosV (.int .i64 0) n) 3))
  have e1 : (w1.alloc (.cells (zerosV (.bool false) n) 4)).heap.size = w1.heap.size + 1 := by simp
  have HO := Lib.hid (World.ownsRow_made (base := w1.heap.size + 1) (e := 3) (size := 1) (w1.alloc (.cells (zerosV (.bool false) n) 4)) (zerosV (.int .i64 0) n) n (by rw [e1]; exact Nat.le_refl _) (by unfold maxLen; omega) (by simp [zerosV]))
  rw [e1] at HO hmk2
  have SF := Lib.hid ((S1.out.alloc (.cells (zerosV (.bool false) n) 4)).alloc (.cells (zerosV (.int .i64 0) n) 3))
  have BF := Lib.hid ((BX1.out.alloc (.cells (zerosV (.bool false) n) 4)).alloc (.cells (zerosV (.int .i64 0) n) 3))
  have ZG : Hid (G < w1.heap.size ∧ w.heap.size ≤ w1.heap.size) := ⟨BX1.out.1, S1.out.size⟩
  clear s1 BX HS BX1 S1 e1 hG
  go_wp2_with fail
  clear cB cBA cBB hmk1 hmk2
  generalize (w1.alloc (.cells (zerosV (.bool false) n) 4)).alloc (.cells (zerosV (.int .i64 0) n) 3) = wF at *
  obtain ⟨L, hL⟩ : ∃ b, b = w1.heap.size := ⟨_, rfl⟩
  rw [← hL] at HF HO ZG ⊢
  clear hL
  go_loopw [5, 21] (fun u q wr => ∃ (k : Nat) (xs : List Bool) (os : List Int), k ≤ n ∧ q = .int .i64 k ∧ ordIt (Ms.map Mw.k) Cs k (List.replicate n false, []) = some (xs, os) ∧ xs.length = n ∧ HasS boolV true L L (L + 1) wr (.slice (some ⟨L, 0, none⟩) n n) xs ∧ wr.ownsRow (L + 1) 3 1 u k (os.map intV) ∧ Bx G #[.slice AM n cM, .slice AC m cC] wr ∧ Span 0 0 w wr) (fun _ q _ => n - (intOf q).toNat)
  case atStart => exact ⟨0, _, [], Nat.zero_le _, rfl, rfl, by simp, HF.out, HO.out, BF.out, SF.out⟩
  case round =>
    clear HF HO BF SF
    obtain ⟨k, xs, os, hk, rfl, hord, hxl, hL, ho, hb, hs⟩ := hrel
    by_cases hlt : k < n
    · have NX := Lib.hid (nextInOrder_any (HR.out.keep hs) xs hxl L _ _ _ _ hL)
      have cb := hb.cells
      have HSR := Lib.hid hs
      have HLR := Lib.hid hL
      have HOR := Lib.hid ho
      have HBR := Lib.hid hb
      have HXL := Lib.hid hxl
      have HOD := Lib.hid hord
      have hpl : (passed (Ms.map Mw.k) Cs xs).length = n := by rw [passed_len]; exact hxl
      have hst : Hid (ordIt (Ms.map Mw.k) Cs (k + 1) (List.replicate n false, []) = ordStep (Ms.map Mw.k) Cs (xs, os)) := by
        unfold Hid; show (ordIt _ _ k _).bind _ = _; rw [hord]; rfl
      unfold ordStep at hst
      simp only at hst
      have hrg := firstNo_range (passed (Ms.map Mw.k) Cs xs)
      rw [hpl] at hrg
      clear hs hL ho hb hord hxl hpl
      generalize firstNo (passed (Ms.map Mw.k) Cs xs) = fn at *
      rcases hrg with rfl | ⟨i, hi, rfl⟩
      · have HN : Hid (orderC (Ms.map Mw.k) Cs n = none) := by
          have h := hst.out
          rw [if_pos (by decide)] at h
          unfold Hid orderC
          rw [ordIt_none h n (by omega)]; rfl
        clear hst
        go_wp2_with fail
        refine NX.out.mono ?_
        rintro _ wa ⟨rfl, sa⟩
        have SA := Lib.hid (HSR.out.trans sa)
        clear sa cb
        go_wp2_with fail
        go_ret2
        rw [HN.out]
        exact ⟨rfl, SA.out⟩
      · have HST : Hid (ordIt (Ms.map Mw.k) Cs (k + 1) (List.replicate n false, []) = some (xs.set i true, os ++ [(i : Int)])) := by
          have h := hst.out
          rw [if_neg (by omega)] at h
          exact h
        clear hst
        have j1 : (0 : Int) ≤ (i : Int) := by omega
        have j2 : (i : Int) < (n : Int) := by omega
        have j3 : decide ((i : Int) < 0) = false := by rw [decide_eq_false_iff_not]; omega
        have HI := Lib.hid hi
        go_wp2_with fail
        refine NX.out.mono ?_
        rintro _ wa ⟨rfl, sa⟩
        have LA := HLR.out.span sa (.inl (Nat.le_refl _))
        obtain ⟨A2, q2, e, -, hc⟩ := id LA
        injection e with e3 e4 e5
        subst e3
        obtain ⟨offL, hoff, -, -, -, hcell, hfz⟩ := hc (by rw [HXL.out]; omega)
        injection hoff with hoff
        injection hoff with _ hoff
        subst hoff
        obtain ⟨py, hpy⟩ := getElem?_some (xs := xs) (j := i) (by rw [HXL.out]; exact HI.out)
        have g0 : wa.cell? ⟨L, 0 + i, none⟩ = some (.bool py) := hcell i py hpy
        have g1 : wa.frozen? ⟨L, 0 + i, none⟩ = false := hfz rfl i (by rw [HXL.out]; exact HI.out)
        have LP := Lib.hid (LA.putB i true (by rw [HXL.out]; exact HI.out))
        have OP := Lib.hid (ownsRow_farK (ownsRow_farK HOR.out sa (.inl (Nat.le_refl _))) ((Span.refl L (L + 1) wa).setCell (p := ⟨L, 0 + i, none⟩) (.inl ⟨Nat.le_refl _, Nat.lt_succ_self _⟩) (.bool true)) (.inr (Nat.le_refl _)))
        have BP := Lib.hid ((HBR.out.keep sa).other (a := ⟨L, 0 + i, none⟩) (by have := ZG.out; simp; omega) (.bool true))
        have SP := Lib.hid ((HSR.out.trans sa).setCell (p := ⟨L, 0 + i, none⟩) (.inr ZG.out.2) (.bool true))
        rw [Nat.zero_add] at g0 g1 LP OP BP SP
        have ZP : Hid (L < (wa.setCell ⟨L, i, none⟩ (.bool true)).heap.size) := by have h := LA.lt (by rw [HXL.out]; omega); unfold Hid; simpa [World.setCell] using h
        have WE : Hid ((wa.setCell ⟨L, i, none⟩ (.bool true)).heap.size = wa.heap.size) := by unfold Hid; simp [World.setCell]
        clear sa cb LA e4 e5 hc hcell hfz hpy
        go_wp2_with (at_builtin; go_loud ((refine wpList_append_own _ rfl _ _ 28 rfl (L + 1) 3 il (.int .i64 0) 1 8 Tryz.underlying28 hil hzl hsl hbl rfl (by decide) _ _ _ rfl (OP.out.alloc _) ⟨wa.heap.size, 0, none⟩ 1 1 [intV (i : Int)] rfl rfl ?c1 ?c2 ?c3 ?c4 ?c5 ?_); (case c1 => exact one_new' _ _ _ _ _); (case c2 => exact one_cell (by rfl)); (case c3 => unfold maxLen; omega); (case c4 => omega); (case c5 => have := ZP.out; have := WE.out; simp; omega); intro v2 w2 ho hgr _; have HO2 := Lib.hid ho; have HG2 := Lib.hid hgr; clear ho hgr))
        go_roundw
        case rel =>
          have ow := OP.out
          have z1 := ZP.out
          have z2 := ZG.out
          have sp := ((Span.refl (L + 1) (wa.setCell ⟨L, i, none⟩ (.bool true)).heap.size (wa.setCell ⟨L, i, none⟩ (.bool true))).alloc (.cells #[.int .i64 (i : Int)] 3)).grown HG2.out (fun k' hk' => .inl (ow.lt k' hk'))
          have sq := (SP.out.alloc (.cells #[.int .i64 (i : Int)] 3)).grown HG2.out (fun k' hk' => .inr (by have := (ow.lt k' hk').1; omega))
          refine ⟨k + 1, xs.set i true, os ++ [(i : Int)], by omega, by go_num, HST.out, by rw [List.length_set]; exact HXL.out, LP.out.span sp (by omega), ?_, BP.out.span sp (by omega), sq⟩
          have := HO2.out
          simpa [intV] using this
        case measure => simp [intOf]; omega
    · have hkn : k = n := by omega
      subst hkn
      obtain ⟨A5, q5, rfl⟩ := ownsRow_slice ho
      obtain ⟨b5, h5, -, -⟩ := ownsRow_hasS ho
      have HN : Hid (orderC (Ms.map Mw.k) Cs k = some os) := by unfold Hid orderC; rw [hord]; rfl
      have H5 := Lib.hid (h5.weak (lo' := w.heap.size) (hi' := wr.heap.size) (by have := ZG.out; omega) (.inl (Nat.le_refl _)))
      have HSR := Lib.hid hs
      clear hord hxl hL ho hb hs h5
      go_wp2_with fail
      go_ret2
      rw [HN.out]
      exact ⟨⟨_, b5, rfl, H5.out⟩, HSR.out⟩
end
section
open Go.RowKit

theorem Bx.same {b : Nat} {us : Array Value} {w w' : World} (h : Bx b us w) (hz : w.heap.size ≤ w'.heap.size) (e : w'.heap[b]? = w.heap[b]?) : Bx b us w' :=
  ⟨Nat.lt_of_lt_of_le h.1 hz, fun i => (World.cell?_of_block (w := w) (a := ⟨b, i, none⟩) e).trans (h.2.1 i), fun i => (World.frozen?_of_block (w := w) (a := ⟨b, i, none⟩) e).trans (h.2.2 i)⟩
theorem Bx.grown {b : Nat} {us : Array Value} {w w' : World} {row : Option Nat} (h : Bx b us w) (hg : w.grownBy w' row) (hne : row ≠ some b) : Bx b us w' :=
  h.same hg.size (hg.block b h.1 (fun e => hne e.symm))
theorem ownsRow_span {w w' : World} {B lo hi : Nat} {e : TypeId} {s : Nat} {v : Value} {n : Nat} {xs : List Value} (h : w.ownsRow B e s v n xs) (sp : Span lo hi w w') (hd : ∀ g, v.ownBlock = some g → ¬ (lo ≤ g ∧ g < hi)) : w'.ownsRow B e s v n xs := by
  obtain ⟨hl, h | ⟨g, cap, cur, rfl, hg, hh, hr⟩⟩ := h
  · exact ⟨hl, .inl h⟩
  · exact ⟨hl, .inr ⟨g, cap, cur, rfl, hg, (sp.block g (Array.getElem?_eq_some_iff.1 hh).1 (hd g rfl)).trans hh, hr⟩⟩
theorem setSpan (b i : Nat) (v : Value) (w : World) : Span b (b + 1) w (w.setCell ⟨b, i, none⟩ v) :=
  (Span.refl b (b + 1) w).setCell (p := ⟨b, i, none⟩) (.inl ⟨Nat.le_refl _, Nat.lt_succ_self _⟩) v
theorem Span.thenAll {lo hi : Nat} {w w1 w2 : World} (s : Span lo hi w w1) (s' : Span 0 0 w1 w2) : Span lo hi w w2 :=
  ⟨s'.os.trans s.os, s'.tape.trans s.tape, s'.output.trans s.output, Nat.le_trans s.size s'.size, fun k hk hn => (s'.block k (Nat.lt_of_lt_of_le hk s.size) (by omega)).trans (s.block k hk hn)⟩
theorem Span.thenGrown {lo hi : Nat} {w w1 w2 : World} {row : Option Nat} (s : Span lo hi w w1) (s' : w1.grownBy w2 row) (hr : ∀ g, row = some g → w.heap.size ≤ g) : Span lo hi w w2 :=
  ⟨s'.os.trans s.os, s'.tape.trans s.tape, s'.output.trans s.output, Nat.le_trans s.size s'.size, fun k hk hn => (s'.block k (Nat.lt_of_lt_of_le hk s.size) (fun e => by have := hr k e.symm; omega)).trans (s.block k hk hn)⟩
theorem ownBlock_slice (g n c : Nat) : (Value.slice (some ⟨g, 0, none⟩) n c).ownBlock = some g := rfl

/-- The units so far. -/
structure UnitsAt (Q k : Nat) (U : Value) (Ns : List Mw) (us : List (Kd × Nat)) (w : World) : Prop where
  len : us.length = k
  own : w.ownsRow (Q + 1) 94 1 U k (us.map uxV)
  off : ∀ b, U.ownBlock = some b → ∀ x ∈ us, b ≠ x.2
  box : ∀ (i : Nat) (x : Kd × Nat), us[i]? = some x → Q < x.2 ∧ ∃ m, Ns[i]? = some m ∧ m.k = x.1.num ∧ Bx x.2 (uC x.1 m) w
  inj : ∀ (i j : Nat) (x y : Kd × Nat), us[i]? = some x → us[j]? = some y → x.2 = y.2 → i = j

theorem UnitsAt.next {Q k : Nat} {U : Value} {Ns : List Mw} {us : List (Kd × Nat)} {wr w1 w6 : World} (h : UnitsAt Q k U Ns us wr) (hQ : Q < wr.heap.size) {m : Mw} (hm : Ns[k]? = some m) {kd : Kd} (hk : m.k = kd.num) (s1 : Span 0 0 wr w1) {g : Nat} (hg : wr.heap.size ≤ g) (x1 : Bx g (uC kd m) w1) (o : Obj) {gU c : Nat}
    (ho : w6.ownsRow (Q + 1) 94 1 (.slice (some ⟨gU, 0, none⟩) (k + 1) c) (k + 1) (us.map uxV ++ [uxV (kd, g)])) (hgr : (w1.alloc o).grownBy w6 U.ownBlock) (hat : U.ownBlock = some gU ∨ gU = w1.heap.size + 1) :
    UnitsAt Q (k + 1) (.slice (some ⟨gU, 0, none⟩) (k + 1) c) Ns (us ++ [(kd, g)]) (w6.setCell ⟨Q, 1, none⟩ (.slice (some ⟨gU, 0, none⟩) (k + 1) c)) := by
  have hub := h.own.lt
  have hgu := ho.lt gU rfl
  have hz := s1.size
  have hgl := x1.1
  have old : ∀ x ∈ us, x.2 < wr.heap.size ∧ Q < x.2 := fun x hx => by
    obtain ⟨i, hi⟩ := List.getElem?_of_mem hx
    obtain ⟨h1, m', _, _, h2⟩ := h.box i x hi
    exact ⟨h2.1, h1⟩
  have lenx : (us ++ [(kd, g)]).length = k + 1 := by rw [List.length_append, h.len]; rfl
  have get : ∀ (i : Nat) (x : Kd × Nat), (us ++ [(kd, g)])[i]? = some x → us[i]? = some x ∨ (i = k ∧ x = (kd, g)) := fun i x hx => by
    rcases Nat.lt_trichotomy i us.length with hlt | he | hgt
    · rw [List.getElem?_append_left hlt] at hx; exact .inl hx
    · rw [he, List.getElem?_append_right (Nat.le_refl _), Nat.sub_self] at hx
      simp at hx
      exact .inr ⟨by rw [he, h.len], hx.symm⟩
    · rw [List.getElem?_eq_none (by simp; omega)] at hx; cases hx
  refine ⟨lenx, ?_, ?_, ?_, ?_⟩
  · rw [List.map_append]
    exact ownsRow_span ho (setSpan Q 1 _ w6) (fun b hb => by rw [ownBlock_slice] at hb; injection hb with hb; omega)
  · intro b hb x hx
    rw [ownBlock_slice] at hb
    injection hb with hb
    subst hb
    rcases List.mem_append.1 hx with hx | hx
    · have := old x hx
      rcases hat with hat | hat
      · exact h.off _ hat x hx
      · omega
    · simp at hx
      subst hx
      simp only
      rcases hat with hat | hat
      · have := hub _ hat; omega
      · omega
  · intro i x hx
    rcases get i x hx with hx | ⟨rfl, rfl⟩
    · obtain ⟨h1, m', h2, h3, h4⟩ := h.box i x hx
      have hmem := List.mem_of_getElem? hx
      exact ⟨h1, m', h2, h3, (((h4.keep s1).alloc o).grown hgr (fun e => h.off _ e x hmem rfl)).span (setSpan Q 1 _ w6) (by omega)⟩
    · exact ⟨by simp only; omega, m, hm, hk, ((x1.alloc o).grown hgr (fun e => by have := hub _ e; omega)).span (setSpan Q 1 _ w6) (by omega)⟩
  · intro i j x y hx hy he
    rcases get i x hx with hx | ⟨rfl, rfl⟩ <;> rcases get j y hy with hy | ⟨rfl, rfl⟩
    · exact h.inj i j x y hx hy he
    · have := old x (List.mem_of_getElem? hx); simp only at he; omega
    · have := old y (List.mem_of_getElem? hy); simp only at he; omega
    · rfl
theorem UnitsAt.bx {Q k : Nat} {U : Value} {Ns : List Mw} {us : List (Kd × Nat)} {wr w1 w6 : World} (h : UnitsAt Q k U Ns us wr) {x0 x2 x3 x4 : Value} (b : Bx Q #[x0, U, x2, x3, x4] wr) (s1 : Span 0 0 wr w1) (o : Obj) (hgr : (w1.alloc o).grownBy w6 U.ownBlock) (v : Value) : Bx Q #[x0, v, x2, x3, x4] (w6.setCell ⟨Q, 1, none⟩ v) := by
  have hub := h.own.lt
  have h1 := (((b.keep s1).alloc o).grown hgr (fun e => by have := hub _ e; omega)).set 1 v (by simp)
  simpa using h1
theorem UnitsAt.frame {Q k : Nat} {U : Value} {Ns : List Mw} {us : List (Kd × Nat)} {w2 wr w1 w6 : World} (h : UnitsAt Q k U Ns us wr) (hQ : w2.heap.size = Q + 1) (s : Span Q (Q + 1) w2 wr) (s1 : Span 0 0 wr w1) (o : Obj) (hgr : (w1.alloc o).grownBy w6 U.ownBlock) (v : Value) : Span Q (Q + 1) w2 (w6.setCell ⟨Q, 1, none⟩ v) := by
  have hub := h.own.lt
  have h1 := ((s.thenAll s1).thenAll ((Span.refl 0 0 w1).alloc o)).thenGrown hgr (fun g e => by have := (hub g e).1; omega)
  have h2 := setSpan Q 1 v w6
  exact h1.trans h2
theorem UnitsAt.span {Q k lo hi : Nat} {U : Value} {Ns : List Mw} {us : List (Kd × Nat)} {w w' : World} (h : UnitsAt Q k U Ns us w) (s : Span lo hi w w') (hd : hi ≤ Q + 1 ∨ w.heap.size ≤ lo ∨ hi ≤ lo) : UnitsAt Q k U Ns us w' := by
  refine ⟨h.len, ownsRow_span h.own s (fun g hg => by have := h.own.lt g hg; omega), h.off, fun i x hx => ?_, h.inj⟩
  obtain ⟨h1, m, h2, h3, h4⟩ := h.box i x hx
  have := h4.1
  exact ⟨h1, m, h2, h3, h4.span s (by omega)⟩

def nV (k : Nat) : Value := .int .i64 (k : Int)
/-- What feeds each module, so far. -/
structure FeedsAt (F n : Nat) (L : List (List Nat)) (vs : List Value) (w : World) : Prop where
  len : vs.length = n ∧ L.length = n
  box : Bx F vs.toArray w
  own : ∀ (i : Nat) (v : Value) (l : List Nat), vs[i]? = some v → L[i]? = some l → w.ownsRow (F + 1) 3 1 v l.length (l.map nV)
  apart : ∀ (i j : Nat) (v v' : Value) (b : Nat), vs[i]? = some v → vs[j]? = some v' → v.ownBlock = some b → v'.ownBlock = some b → i = j

def feedOne (L : List (List Nat)) (c : Nat × Nat) : List (List Nat) := L.set c.2 (L.getD c.2 [] ++ [c.1])
/-- The modules that feed each of n modules, in the order of the cables. -/
def feedsC (n : Nat) (Cs : List (Nat × Nat)) : List (List Nat) := Cs.foldl feedOne (List.replicate n [])
theorem feedsC_snoc (n : Nat) (Cs : List (Nat × Nat)) (c : Nat × Nat) : feedsC n (Cs ++ [c]) = feedOne (feedsC n Cs) c := by unfold feedsC; rw [List.foldl_append]; rfl
theorem feedOne_len (L : List (List Nat)) (c : Nat × Nat) : (feedOne L c).length = L.length := by unfold feedOne; simp
theorem feedOne_most (L : List (List Nat)) (c : Nat × Nat) (k : Nat) (h : ∀ l ∈ L, l.length ≤ k) : ∀ l ∈ feedOne L c, l.length ≤ k + 1 := by
  intro l hl
  unfold feedOne at hl
  rcases List.mem_or_eq_of_mem_set hl with hl | rfl
  · have := h l hl; omega
  · rw [List.length_append, List.getD_eq_getElem?_getD]
    cases hx : L[c.2]? with
    | none => simp
    | some x => have := h x (List.mem_of_getElem? hx); simp; omega

theorem FeedsAt.next {F n : Nat} {L : List (List Nat)} {vs : List Value} {wr w1 w6 : World} (h : FeedsAt F n L vs wr) {x y : Nat} {v : Value} {l : List Nat} (hv : vs[y]? = some v) (hl : L[y]? = some l) (s1 : Span 0 0 wr w1) (o : Obj) {g c : Nat}
    (ho : w6.ownsRow (F + 1) 3 1 (.slice (some ⟨g, 0, none⟩) (l.length + 1) c) (l.length + 1) (l.map nV ++ [nV x])) (hgr : (w1.alloc o).grownBy w6 v.ownBlock) (hat : v.ownBlock = some g ∨ g = w1.heap.size + 1) :
    FeedsAt F n (feedOne L (x, y)) (vs.set y (.slice (some ⟨g, 0, none⟩) (l.length + 1) c)) (w6.setCell ⟨F, y, none⟩ (.slice (some ⟨g, 0, none⟩) (l.length + 1) c)) := by
  have hvl := (List.getElem?_eq_some_iff.1 hv).1
  have hll := (List.getElem?_eq_some_iff.1 hl).1
  have hub := (h.own y v l hv hl).lt
  have hgl := ho.lt g rfl
  have hz := s1.size
  have hF := h.box.1
  have e0 : L.getD y [] = l := by rw [List.getD_eq_getElem?_getD, hl]; rfl
  have e1 : feedOne L (x, y) = L.set y (l ++ [x]) := by unfold feedOne; simp only [e0]
  have other : ∀ (i : Nat) (v' : Value) (l' : List Nat), i ≠ y → vs[i]? = some v' → L[i]? = some l' → v.ownBlock = none ∨ v'.ownBlock ≠ v.ownBlock := fun i v' l' hne hv' hl' => by
    cases hb : v.ownBlock with
    | none => exact .inl rfl
    | some b => exact .inr (fun e => hne (h.apart i y v' v b hv' hv e hb))
  rw [e1]
  refine ⟨⟨by rw [List.length_set]; exact h.len.1, by rw [List.length_set]; exact h.len.2⟩, ?_, ?_, ?_⟩
  · have h1 := (((h.box.keep s1).alloc o).grown hgr (fun e => by have := hub _ e; omega)).set y (.slice (some ⟨g, 0, none⟩) (l.length + 1) c) (by simpa using hvl)
    have e2 : vs.toArray.setIfInBounds y (.slice (some ⟨g, 0, none⟩) (l.length + 1) c) = (vs.set y (.slice (some ⟨g, 0, none⟩) (l.length + 1) c)).toArray := by simp
    rwa [e2] at h1
  · intro i v' l' hv' hl'
    by_cases hi : i = y
    · subst hi
      rw [List.getElem?_set_self hvl] at hv'
      rw [List.getElem?_set_self hll] at hl'
      cases hv'; cases hl'
      have := ownsRow_span ho (setSpan F i (.slice (some ⟨g, 0, none⟩) (l.length + 1) c) w6) (fun b hb => by rw [ownBlock_slice] at hb; injection hb with hb; omega)
      rw [List.length_append, List.map_append]
      exact this
    · rw [List.getElem?_set_ne (by omega)] at hv' hl'
      have ho' := h.own i v' l' hv' hl'
      have h3 := ownsRow_farK ho' s1 (.inl (Nat.le_refl _))
      have h4 := (h3.alloc o).kept hgr (by
        rcases other i v' l' hi hv' hl' with h5 | h5
        · cases hb : v'.ownBlock with
          | none => exact .inl rfl
          | some b => exact .inr (by rw [h5]; simp)
        · exact .inr h5)
      exact ownsRow_span h4 (setSpan F y _ w6) (fun b hb => by have := h4.lt b hb; omega)
  · intro i j v1 v2 b h1 h2 b1 b2
    by_cases hi : i = y <;> by_cases hj : j = y
    · rw [hi, hj]
    · subst hi
      rw [List.getElem?_set_self hvl] at h1
      rw [List.getElem?_set_ne (by omega)] at h2
      cases h1
      rw [ownBlock_slice] at b1
      injection b1 with b1
      subst b1
      obtain ⟨l2, hl2⟩ := getElem?_some (xs := L) (j := j) (by have := (List.getElem?_eq_some_iff.1 h2).1; have := h.len; omega)
      have := (h.own j v2 l2 h2 hl2).lt _ b2
      rcases hat with hat | hat
      · exact h.apart i j v v2 g hv h2 hat b2
      · omega
    · subst hj
      rw [List.getElem?_set_self hvl] at h2
      rw [List.getElem?_set_ne (by omega)] at h1
      cases h2
      rw [ownBlock_slice] at b2
      injection b2 with b2
      subst b2
      obtain ⟨l2, hl2⟩ := getElem?_some (xs := L) (j := i) (by have := (List.getElem?_eq_some_iff.1 h1).1; have := h.len; omega)
      have := (h.own i v1 l2 h1 hl2).lt _ b1
      rcases hat with hat | hat
      · exact h.apart i j v1 v g h1 hv b1 hat
      · omega
    · rw [List.getElem?_set_ne (by omega)] at h1 h2
      exact h.apart i j v1 v2 b h1 h2 b1 b2
theorem FeedsAt.frame {F n : Nat} {L : List (List Nat)} {vs : List Value} {w2 wr w1 w6 : World} (h : FeedsAt F n L vs wr) {y : Nat} {v : Value} {l : List Nat} (hv : vs[y]? = some v) (hl : L[y]? = some l) (hF : w2.heap.size = F + 1) (s : Span F (F + 1) w2 wr) (s1 : Span 0 0 wr w1) (o : Obj) (hgr : (w1.alloc o).grownBy w6 v.ownBlock) (u : Value) : Span F (F + 1) w2 (w6.setCell ⟨F, y, none⟩ u) := by
  have hub := (h.own y v l hv hl).lt
  have h1 := ((s.thenAll s1).thenAll ((Span.refl 0 0 w1).alloc o)).thenGrown hgr (fun g e => by have := (hub g e).1; omega)
  exact h1.trans (setSpan F y u w6)
theorem FeedsAt.span {F n lo hi : Nat} {L : List (List Nat)} {vs : List Value} {w w' : World} (h : FeedsAt F n L vs w) (s : Span lo hi w w') (hd : hi ≤ F ∨ w.heap.size ≤ lo ∨ hi ≤ lo) : FeedsAt F n L vs w' := by
  have := h.box.1
  exact ⟨h.len, h.box.span s (by omega), fun i v l hv hl => ownsRow_span (h.own i v l hv hl) s (fun g hg => by have := (h.own i v l hv hl).lt g hg; omega), h.apart⟩

/-- A station: its module, what feeds it, its unit's step. -/
def stC (s : Nat × Value × (Kd × Nat)) : List Value := [.int .i64 (s.1 : Int), s.2.1, .func (.method "loop.example/g03223/impl.step") #[uxV s.2.2] #[]]
theorem stC_len (s : Nat × Value × (Kd × Nat)) : (stC s).length = 3 := rfl
/-- The stations so far, of the modules of the order. -/
structure StAt (Z k : Nat) (V : Value) (os : List Int) (vs : List Value) (us : List (Kd × Nat)) (sts : List (Nat × Value × (Kd × Nat))) (w : World) : Prop where
  len : sts.length = k
  own : w.ownsRow Z 113 3 V k (flatG stC sts)
  is : ∀ (j : Nat) (s : Nat × Value × (Kd × Nat)), sts[j]? = some s → os[j]? = some (s.1 : Int) ∧ vs[s.1]? = some s.2.1 ∧ us[s.1]? = some s.2.2
end
end Go.Proofs.YtkjlodoppmipfaaGreat
