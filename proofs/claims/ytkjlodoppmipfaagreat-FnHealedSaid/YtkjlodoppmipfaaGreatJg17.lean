/- The next module in the order of a rack. -/
import Derived.Test.YtkjlodoppmipfaaGreatJg11
import Derived.Test.YtkjlodoppmipfaaGreatJg13
import Derived.Outline
namespace Go.Proofs.YtkjlodoppmipfaaGreat
open Go.RowKit

theorem info_bool : (Tryz.prog.info? 4).map (fun i => (i.zero, i.size, i.bytes)) = some (some (.bool false), 1, 1) := by kernel_rfl
theorem one_cellsB {xs : List Bool} : ∀ u ∈ xs.map boolV, u.oneCell' = true := by
  intro u hu
  obtain ⟨x, _, rfl⟩ := List.mem_map.1 hu
  rfl

theorem HasS.putB {α : Type} {val : α → Value} {b lo hi off n c : Nat} {w : World} {xs : List α} (h : HasS val true b lo hi w (.slice (some ⟨b, off, none⟩) n c) xs) (i : Nat) (z : α) (hil : i < xs.length) :
    HasS val true b lo hi (w.setCell ⟨b, off + i, none⟩ (val z)) (.slice (some ⟨b, off, none⟩) n c) (xs.set i z) := by
  obtain ⟨A, cap, e, hcap, hc⟩ := h
  injection e with e1 e2 e3
  subst e1 e2 e3
  obtain ⟨off', e4, g1, g2, g3, g4, g5⟩ := hc (by omega)
  injection e4 with e4
  injection e4 with _ e5
  subst e5
  refine ⟨_, c, by rw [List.length_set], by simpa using hcap, fun _ => ⟨off, rfl, g1, g2, by simpa [World.setCell] using g3, fun j x hj => ?_, fun _ j hj => ?_⟩⟩
  · rw [List.getElem?_set] at hj
    by_cases hij : i = j
    · subst hij
      rw [if_pos rfl, if_pos hil] at hj
      injection hj with hj
      rw [← hj]
      exact World.cell?_setCell_same w ⟨b, off + i, none⟩ _ (g4 i _ (List.getElem?_eq_getElem hil))
    · rw [if_neg hij] at hj
      rw [World.cell?_setCell_other w ⟨b, off + i, none⟩ ⟨b, off + j, none⟩ _ (by intro e; injection e; omega)]
      exact g4 j x hj
  · rw [World.frozen?_setCell]
    exact g5 rfl j (by simpa using hj)

set_option maxRecDepth 100000 in
set_option maxHeartbeats 1000000 in
theorem cloneB_any (xs : List Bool) (o : Bool) (b lo hi : Nat) (v : Value) (w : World) (hx : HasS boolV o b lo hi w v xs) (hlen : xs.length ≤ 4194304) :
    Calls Tryz.prog 107 #[v] w (GivesS boolV xs w) := by
  have HX := Lib.hid hx
  obtain ⟨ip, hip, hzp, hsp, hbp⟩ := info_parts info_bool
  obtain ⟨A, cap, rfl, hcap, hc⟩ := hx
  obtain ⟨len, hl⟩ : ∃ len, len = xs.length := ⟨_, rfl⟩
  have HL := Lib.hid hl
  rw [← hl] at hcap hlen HX ⊢
  cases A with
  | none =>
    have h0 : len = 0 := by
      by_cases h : 0 < len
      · obtain ⟨off, e, _⟩ := hc (by omega)
        cases e
      · omega
    subst h0
    have HE : Hid (xs = []) := by cases xs with | nil => exact rfl | cons a l => simp at hl
    clear hc hl
    have hq := Lib.run_eql_slice_nil (P := Tryz.prog) w 123 4 none 0 cap 0 0 Tryz.underlying123
    go_enter Tryz.func107, Tryz.ntmps107
    go_wp2
    go_ret
    refine ⟨_, 0, rfl, ?_, Span.refl _ _ _⟩
    rw [HE.out]; exact HasS.empty _ _ _ _ _ _ _ _
  | some ad =>
    have HO := Lib.hid (World.ownsRow_made (base := w.heap.size) (e := 4) (size := 1) w #[] 0 (Nat.le_refl _) (Nat.zero_le _) rfl)
    have HN : Hid (∀ (o : Obj) (j : Nat) u, (xs.map boolV)[j]? = some u → (w.alloc o).cell? (ad.add j) = some u) := by
      unfold Hid
      intro o j u hj
      have hp : 0 < xs.length := by
        have := (List.getElem?_eq_some_iff.1 hj).1
        simp at this; omega
      obtain ⟨off, e, _⟩ := hc hp
      cases e
      exact HX.out.news o j u hj
    clear hc hl
    have hq := Lib.run_eql_slice_nil (P := Tryz.prog) w 123 4 (some ad) len cap 0 0 Tryz.underlying123
    go_enter Tryz.func107, Tryz.ntmps107
    go_wp2_with (at_builtin; go_loud ((refine wpList_append_own _ rfl _ _ 123 rfl w.heap.size 4 ip (.bool false) 1 1 Tryz.underlying123 hip hzp hsp hbp rfl (by decide) _ _ _ rfl HO.out ad len cap (xs.map boolV) rfl ?c1 ?c2 ?c3 ?c4 ?c5 ?c6 ?_); (case c1 => rw [List.length_map, ← HL.out, Nat.mul_one]); (case c2 => exact HN.out _); (case c3 => exact one_cellsB); (case c4 => unfold maxLen; omega); (case c5 => omega); (case c6 => simp); intro v1 w1 ho hgr _; rw [Nat.zero_add, List.nil_append] at ho; obtain ⟨A1, q1, rfl⟩ := ownsRow_slice ho; have HO1 := Lib.hid ho; have HG1 := Lib.hid hgr; clear ho hgr))
    go_ret
    have ho := HO1.out
    obtain ⟨b', h1, _, _⟩ := ownsRow_hasS ho
    exact ⟨_, b', rfl, h1, ((Span.refl _ _ _).alloc _).grown HG1.out (fun k hk => by have hk' : some w.heap.size = some k := hk; injection hk' with hk'; right; omega)⟩

theorem firstNo_at : ∀ (xs : List Bool) (k : Nat), (∀ j, j < k → xs[j]? = some true) → xs[k]? = some false → firstNo xs = (k : Int)
  | [], k, _, h => by simp at h
  | x :: xs, 0, _, h => by simp at h; subst h; rfl
  | x :: xs, k + 1, h, hk => by
    have h0 := h 0 (Nat.succ_pos _)
    simp at h0; subst h0
    have := firstNo_at xs k (fun j hj => by have := h (j + 1) (by omega); simpa using this) (by simpa using hk)
    unfold firstNo
    rw [this, if_neg (by omega)]
    omega
theorem firstNo_none : ∀ (xs : List Bool), (∀ j, j < xs.length → xs[j]? = some true) → firstNo xs = -1
  | [], _ => rfl
  | x :: xs, h => by
    have h0 := h 0 (by simp)
    simp at h0; subst h0
    have := firstNo_none xs (fun j hj => by have := h (j + 1) (by simp; omega); simpa using this)
    unfold firstNo
    rw [this, if_pos (by decide)]

set_option maxHeartbeats 1000000 in
theorem indexB_any (L : List Bool) (o : Bool) (b lo hh : Nat) (v : Value) (w : World) (hx : HasS boolV o b lo hh w v L) (hlen : L.length ≤ 4194304) :
    Calls Tryz.prog 108 #[v, .bool false] w fun e w' => e = .returned (.int .i64 (firstNo L)) ∧ w = w' := by
  obtain ⟨A, cap, rfl, hcap, hc⟩ := hx
  have HC := Lib.hid hc
  obtain ⟨len, hl⟩ : ∃ len, len = L.length := ⟨_, rfl⟩
  have HL := Lib.hid hl
  rw [← hl] at hcap hlen ⊢
  clear hc hl
  go_enter Tryz.func108, Tryz.ntmps108
  go_wp2_with fail
  go_loopw [8] (fun c wr => ∃ k : Nat, k ≤ len ∧ (∀ j, j < k → L[j]? = some true) ∧ c = .int .i64 k ∧ w = wr) (fun c _ => len - (intOf c).toNat)
  case atStart => exact ⟨0, Nat.zero_le _, fun j h => absurd h (by omega), rfl, rfl⟩
  case round =>
    obtain ⟨k, hk, ht, rfl, rfl⟩ := hrel
    have HT := Lib.hid ht
    clear ht
    by_cases hlt : k < len
    · obtain ⟨off, rfl, _, _, _, hcell, _⟩ := HC.out (by rw [← HL.out]; omega)
      obtain ⟨x, hx⟩ := getElem?_some (xs := L) (j := k) (by rw [← HL.out]; omega)
      have hck : w.cell? ⟨b, off + k, none⟩ = some (.bool x) := hcell k x hx
      have HX := Lib.hid hx
      clear hcell hx
      cases x with
      | true =>
        go_wp2_with fail
        go_roundw
        case rel => exact ⟨k + 1, by omega, fun j hj => by (by_cases e : j = k); (subst e; exact HX.out); exact HT.out j (by omega), by go_num, by first | rfl | trivial⟩
        case measure => simp [intOf]; omega
      | false =>
        have HF := Lib.hid (firstNo_at L k HT.out HX.out)
        go_wp2_with fail
        go_ret
        exact ⟨by rw [HF.out]; rfl, rfl⟩
    · have HF := Lib.hid (firstNo_none L (fun j hj => HT.out j (by rw [← HL.out] at hj; omega)))
      go_wp2_with fail
      go_ret
      exact ⟨by rw [HF.out]; rfl, rfl⟩

theorem passed_take {kinds : List Int} {cables : List (Nat × Nat)} {listed : List Bool} {k : Nat} {c : Nat × Nat} (h : cables[k]? = some c) : (cables.take (k + 1)).foldl (passOne kinds listed) listed = passOne kinds listed ((cables.take k).foldl (passOne kinds listed) listed) c := by
  rw [List.take_add_one, h, List.foldl_append]; rfl
theorem passed_takeLen (kinds : List Int) (cables : List (Nat × Nat)) (listed : List Bool) : (cables.foldl (passOne kinds listed) listed).length = listed.length := passed_len kinds cables listed

set_option maxRecDepth 100000 in
set_option maxHeartbeats 4000000 in
theorem nextInOrder_any {w : World} {bM bC lo hi : Nat} {AM : Option Addr} {n cM : Nat} {AC : Option Addr} {m cC : Nat} {Ms : List Mw} {Cs : List (Nat × Nat)} (hr : RkAt w bM bC lo hi AM n cM AC m cC Ms Cs) (xs : List Bool) (hxs : xs.length = n) (bL lo' hi' : Nat) (AL : Option Addr) (cL : Nat) (hl : HasS boolV true bL lo' hi' w (.slice AL n cL) xs) :
    Calls Tryz.prog 79 #[.agg #[.slice AM n cM, .slice AC m cC], .slice AL n cL] w (Num0 (firstNo (passed (Ms.map Mw.k) Cs xs)) w) := by
  have HR := Lib.hid hr
  have HN := Lib.hid hr.mods.len.1
  have HM := Lib.hid hr.cabs.len.1
  have HXS := Lib.hid hxs
  have HLL := Lib.hid hl
  have i3 : (n : Int) ≤ 16 := by have := hr.most; omega
  have i4 : (m : Int) ≤ 40 := by have := hr.most; omega
  have h16 : n ≤ 16 := hr.most.1
  clear hr hl hxs
  go_enter Tryz.func79, Tryz.ntmps79
  go_wp2_with fail
  have BX := Lib.hid (Bx.new w #[.slice AM n cM, .slice AC m cC] 37)
  have HS := Lib.hid ((Span.refl 0 0 w).alloc (.cells #[.slice AM n cM, .slice AC m cC] 37))
  have ZW : Hid (w.heap.size + 1 = (w.alloc (.cells #[.slice AM n cM, .slice AC m cC] 37)).heap.size) := by unfold Hid; simp
  generalize w.alloc (.cells #[.slice AM n cM, .slice AC m cC] 37) = w0 at *
  refine (cloneB_any xs true bL lo' hi' _ w0 (HLL.out.span HS.out (.inl (Nat.le_refl _))) (by rw [HXS.out]; omega)).mono ?_
  rintro _ w1 ⟨v1, b1, rfl, h1, s1⟩
  obtain ⟨A1, q1, rfl, -⟩ := id h1
  rw [HXS.out] at h1 ⊢
  have H1 := Lib.hid h1
  have S1 := Lib.hid (HS.out.trans s1)
  have BX1 := Lib.hid (BX.out.keep s1)
  have L1 := Lib.hid (HLL.out.span S1.out (.inl (Nat.le_refl _)))
  have cB := BX1.out.cells
  clear h1 s1 BX HS
  go_wp2_with fail
  clear cB
  go_loopw [13] (fun q wr => ∃ k : Nat, k ≤ m ∧ q = .int .i64 k ∧ HasS boolV true b1 w0.heap.size w1.heap.size wr (.slice A1 n q1) ((Cs.take k).foldl (passOne (Ms.map Mw.k) xs) xs) ∧ Span w0.heap.size w1.heap.size w1 wr) (fun q _ => m - (intOf q).toNat)
  case atStart => exact ⟨0, Nat.zero_le _, rfl, H1.out, Span.refl _ _ _⟩
  case round =>
    obtain ⟨k, hk, rfl, hp, hs⟩ := hrel
    have hsW : Span 0 0 w wr := ⟨hs.os.trans S1.out.os, hs.tape.trans S1.out.tape, hs.output.trans S1.out.output, Nat.le_trans S1.out.size hs.size, fun j hj _ => (hs.block j (Nat.lt_of_lt_of_le hj S1.out.size) (by have := ZW.out; omega)).trans (S1.out.block j hj (by omega))⟩
    by_cases hlt : k < m
    · obtain ⟨⟨x, y⟩, hx⟩ := getElem?_some (xs := Cs) (j := k) (by rw [← HM.out]; exact hlt)
      have R := HR.out.keep hsW
      obtain ⟨e1, e2⟩ := R.ends (x, y) (List.mem_of_getElem? hx)
      simp only at e1 e2
      obtain ⟨mx, hmx⟩ := getElem?_some (xs := Ms) (j := x) (by rw [← HN.out]; exact e1)
      obtain ⟨offC, hoff⟩ := R.cabs.addr (by rw [← HM.out]; omega)
      subst hoff
      obtain ⟨offM, hoff⟩ := R.mods.addr (by rw [← HN.out]; omega)
      subst hoff
      obtain ⟨c0, c1⟩ := R.cabs.cable hx
      simp only at c0 c1
      obtain ⟨d0, -⟩ := R.mods.mw hmx
      have HLr := HLL.out.span hsW (.inl (Nat.le_refl _))
      obtain ⟨bx, hbx⟩ := getElem?_some (xs := xs) (j := x) (by rw [HXS.out]; exact e1)
      obtain ⟨A2, q2, e, -, hc⟩ := id HLr
      injection e with e3 e4 e5
      subst e3
      obtain ⟨offL, hoff, -, -, -, hcell, -⟩ := hc (by rw [HXS.out]; omega)
      subst hoff
      have f0 : wr.cell? ⟨bL, offL + x, none⟩ = some (.bool bx) := hcell x bx hbx
      have BXr := BX1.out.span hs (by have := ZW.out; omega)
      have cA := BXr.cellsA
      have HCR := Lib.hid R.cabs
      have c0A : ∀ o, (wr.alloc o).cell? ⟨bL, offL + x, none⟩ = some (.bool bx) := fun o => ((Span.refl 0 0 wr).alloc o).cells (Nat.le_refl _) |>.1 bL _ (World.block_lt_of_cell? wr ⟨bL, offL + x, none⟩ f0) |>.trans f0
      have d0A : ∀ o, (wr.alloc o).cell? ⟨bM, offM + x * 11, none⟩ = some (.int .i64 mx.k) := fun o => ((Span.refl 0 0 wr).alloc o).cells (Nat.le_refl _) |>.1 bM _ (World.block_lt_of_cell? wr ⟨bM, offM + x * 11, none⟩ d0) |>.trans d0
      have HP := Lib.hid hp
      have HST : Hid ((Cs.take (k + 1)).foldl (passOne (Ms.map Mw.k) xs) xs = passOne (Ms.map Mw.k) xs ((Cs.take k).foldl (passOne (Ms.map Mw.k) xs) xs) (x, y)) := passed_take hx
      have HG : Hid (xs.getD x false = bx ∧ (Ms.map Mw.k).getD x 0 = mx.k) := by
        refine ⟨?_, ?_⟩
        · rw [List.getD_eq_getElem?_getD, hbx]; rfl
        · rw [List.getD_eq_getElem?_getD, List.getElem?_map, hmx]; rfl
      have HPL : Hid (((Cs.take k).foldl (passOne (Ms.map Mw.k) xs) xs).length = n) := by unfold Hid; rw [passed_takeLen, HXS.out]
      have j1 : (0 : Int) ≤ (k : Int) := by omega
      have j2 : (k : Int) < (m : Int) := by omega
      have j3 : (0 : Int) ≤ (x : Int) := by omega
      have j4 : (x : Int) < (n : Int) := by omega
      have j5 : (0 : Int) ≤ (y : Int) := by omega
      have j6 : (y : Int) < (n : Int) := by omega
      have HS0 := Lib.hid (hs.alloc (.cells #[.int .i64 (x : Int), .int .i64 (y : Int)] 42))
      have HP0 := Lib.hid (HP.out.alloc (.cells #[.int .i64 (x : Int), .int .i64 (y : Int)] 42))
      have HY := Lib.hid e2
      clear R hx hs e1 e2 hmx HLr hbx hc hcell BXr hp e4 e5 hsW f0 d0
      generalize (Cs.take k).foldl (passOne (Ms.map Mw.k) xs) xs = Pk at *
      cases bx with
      | true =>
        have HE : Hid (passOne (Ms.map Mw.k) xs Pk (x, y) = Pk) := by unfold Hid passOne; rw [if_neg (by simp only [HG.out.1]; simp)]
        go_wp2_with fail
        go_roundw
        case rel => exact ⟨k + 1, by omega, by go_num, by rw [HST.out, HE.out]; exact HP0.out, HS0.out⟩
        case measure => simp [intOf]; omega
      | false =>
        by_cases hk4 : mx.k = 4
        · have HE : Hid (passOne (Ms.map Mw.k) xs Pk (x, y) = Pk) := by unfold Hid passOne; rw [if_neg (by simp only [HG.out.2, hk4]; simp)]
          rw [hk4] at d0A
          go_wp2_with fail
          go_roundw
          case rel => exact ⟨k + 1, by omega, by go_num, by rw [HST.out, HE.out]; exact HP0.out, HS0.out⟩
          case measure => simp [intOf]; omega
        · have HE : Hid (passOne (Ms.map Mw.k) xs Pk (x, y) = Pk.set y true) := by unfold Hid passOne; rw [if_pos ⟨HG.out.1, by simp only [HG.out.2]; exact hk4⟩]
          obtain ⟨A2, q2, e, -, hc⟩ := id HP0.out
          injection e with e3 e4 e5
          subst e3
          obtain ⟨offP, hoff, z1, z2, z3, hcell, hfz⟩ := hc (by rw [HPL.out]; omega)
          subst hoff
          obtain ⟨py, hpy⟩ := getElem?_some (xs := Pk) (j := y) (by rw [HPL.out]; exact HY.out)
          have g0 : (wr.alloc (.cells #[.int .i64 (x : Int), .int .i64 (y : Int)] 42)).cell? ⟨b1, offP + y, none⟩ = some (.bool py) := hcell y py hpy
          have g1 : (wr.alloc (.cells #[.int .i64 (x : Int), .int .i64 (y : Int)] 42)).frozen? ⟨b1, offP + y, none⟩ = false := hfz rfl y (by rw [HPL.out]; exact HY.out)
          have hk5 : decide (mx.k = 4) = false := decide_eq_false hk4
          have PT := Lib.hid (HP0.out.putB y true (by rw [HPL.out]; exact HY.out))
          have SP := Lib.hid (HS0.out.setCell (p := ⟨b1, offP + y, none⟩) (.inl ⟨z1, z2⟩) (.bool true))
          clear e4 e5 hc hcell hfz z1 z2 z3 hpy
          go_wp2_with fail
          go_roundw
          case rel => exact ⟨k + 1, by omega, by go_num, by rw [HST.out, HE.out]; exact PT.out, SP.out⟩
          case measure => simp [intOf]; omega
    · have hkm : k = m := by omega
      subst hkm
      rw [List.take_of_length_le (by rw [← HM.out]; exact Nat.le_refl _)] at hp
      have IX := Lib.hid (indexB_any _ true b1 _ _ _ _ hp (by rw [passed_takeLen, HXS.out]; omega))
      have HSW := Lib.hid hsW
      clear hp hs hsW
      go_wp2_with fail
      refine IX.out.mono ?_
      rintro _ _ ⟨rfl, rfl⟩
      go_wp2_with fail
      go_ret
      exact ⟨rfl, HSW.out⟩
end Go.Proofs.YtkjlodoppmipfaaGreat
