/- What the closure of a run with faults makes of outputs; which faults are valid. -/
import Derived.Test.YtkjlodoppmipfaaGreatJg40
import Derived.Deep.RegionHeld3
import Derived.Outline
namespace Go.Proofs.YtkjlodoppmipfaaGreat
open Go.RowKit

/-- What the closure reads. -/
structure FaultS (L : List Ft) (bL : Nat) (vL : Value) (FB IB BB r : Nat) (bs : List Cx) (bb : Nat) (vb : Value) (w : World) : Prop where
  list : Bx FB #[vL] w
  rows : HasC 4 ftC bL 0 w.heap.size w vL L
  step : Bx IB #[.int .i64 (r : Int)] w
  prev : Bx BB #[vb] w
  outs : HasS cxV true bb 0 w.heap.size w vb bs
theorem FaultS.keeps {L : List Ft} {bL : Nat} {vL : Value} {FB IB BB r : Nat} {bs : List Cx} {bb : Nat} {vb : Value} {W : List Nat} {w w' : World} (h : FaultS L bL vL FB IB BB r bs bb vb w) (k : Keeps W w w') (h1 : FB ∉ W) (h2 : bL ∉ W) (h3 : IB ∉ W) (h4 : BB ∉ W) (h5 : bb ∉ W) : FaultS L bL vL FB IB BB r bs bb vb w' :=
  ⟨h.list.keeps k h1, (h.rows.keeps k h2).weak (Nat.le_refl _) (.inl k.size), h.step.keeps k h3, h.prev.keeps k h4, (h.outs.keeps k h5).weak (Nat.le_refl _) (.inl k.size)⟩

set_option maxRecDepth 100000 in
set_option maxHeartbeats 2000000 in
theorem closure_faults {L : List Ft} {bL : Nat} {vL : Value} {FB IB BB r : Nat} {bs : List Cx} {bb : Nat} {vb : Value} (hm : L.length ≤ 1048576) (k : Nat) (hk : k < bs.length) (hbs : bs.length ≤ 1048576) (out : Cx) (w : World) (h : FaultS L bL vL FB IB BB r bs bb vb w) :
    Calls Tryz.prog 24 #[.int .i64 (k : Int), .complex .f32 out.1 out.2, .pointer (some ⟨FB, 0, none⟩), .pointer (some ⟨IB, 0, none⟩), .pointer (some ⟨BB, 0, none⟩)] w fun e w' => e = .returned (.complex .f32 (faulty L r k (bs.getD k (0, 0)) out).1 (faulty L r k (bs.getD k (0, 0)) out).2) ∧ Span 0 0 w w' := by
  obtain ⟨p, q⟩ := out
  obtain ⟨h1, h2, h3, h4, h5⟩ := h
  obtain ⟨⟨b1, b2⟩, hb⟩ := getElem?_some (xs := bs) (j := k) hk
  have eb : bs.getD k (0, 0) = (b1, b2) := by rw [List.getD_eq_getElem?_getD, hb]; rfl
  rw [eb]
  obtain ⟨Ab, cb, rfl, -, -⟩ := id h5
  obtain ⟨off, hoff, -, -, -⟩ := h5.addrT (by omega)
  subst hoff
  obtain ⟨AL, cL, rfl, -, -⟩ := id h2
  have FO := Lib.hid (faultyOutput_any L bL 0 w.heap.size _ r k (p, q) (b1, b2) w.drew (h2.keep (Span.refl 0 0 w).drew) hm)
  have DW : Hid (∀ w', Span 0 0 w w' → w'.cell? ⟨FB, 0, none⟩ = some (.slice AL L.length cL) ∧ w'.cell? ⟨IB, 0, none⟩ = some (.int .i64 (r : Int)) ∧ w'.cell? ⟨BB, 0, none⟩ = some (.slice (some ⟨bb, off, none⟩) bs.length cb) ∧ w'.cell? ⟨bb, off + k, none⟩ = some (.complex .f32 b1 b2)) := fun w' s => ⟨(h1.keep s).cells 0, (h3.keep s).cells 0, (h4.keep s).cells 0, (h5.span s (.inl (Nat.le_refl _))).atJ hb⟩
  have dA := DW.out w (Span.refl ..)
  have i1 : (0 : Int) ≤ (k : Int) := by omega
  have i2 : (k : Int) < (bs.length : Int) := by omega
  have i3 : (bs.length : Int) ≤ 1048576 := by omega
  clear h1 h2 h3 h4 h5 hb eb hk hbs hm
  go_enter Tryz.func24, Tryz.ntmps24
  go_upto_region 1 with fail
  go_region_held3 (fun w' => w'.cell? ⟨FB, 0, none⟩ = some (.slice AL L.length cL) ∧ w'.cell? ⟨IB, 0, none⟩ = some (.int .i64 (r : Int)) ∧ w'.cell? ⟨BB, 0, none⟩ = some (.slice (some ⟨bb, off, none⟩) bs.length cb) ∧ w'.cell? ⟨bb, off + k, none⟩ = some (.complex .f32 b1 b2))
    (first
      | exact dA
      | exact d5)
    ((first
      | (go_at_call 25; refine FO.out.mono ?_; rintro _ w5 ⟨rfl, s5⟩
         have S5 : Hid (Span 0 0 w w5) := ⟨s5.os, s5.tape, s5.output, s5.size, s5.block⟩
         have d5 := DW.out w5 S5.out
         clear s5)))
  all_goals
    go_wp2_with fail
    go_ret
    exact ⟨rfl, S5.out⟩

theorem becomes_faults {L : List Ft} {bL : Nat} {vL : Value} {FB IB BB r : Nat} {bs : List Cx} {bb : Nat} {vb : Value} (hm : L.length ≤ 1048576) (n : Nat) (hn : n ≤ bs.length) (hbs : bs.length ≤ 1048576) :
    Becomes n 24 #[.pointer (some ⟨FB, 0, none⟩), .pointer (some ⟨IB, 0, none⟩), .pointer (some ⟨BB, 0, none⟩)] (fun k y => faulty L r k (bs.getD k (0, 0)) y) (FaultS L bL vL FB IB BB r bs bb vb) :=
  ⟨fun args w => enters_of Tryz.func24 (by kernel_rfl) rfl args w, fun k y w hk hS => by
    have h := closure_faults hm k (by omega) hbs y w hS
    simpa using h⟩

/-! Valid faults. -/
def okF (n : Nat) (f : Ft) : Prop := 1 ≤ f.kd ∧ f.kd ≤ 3 ∧ f.md < n ∧ f.fr ≤ f.til ∧ f.til ≤ 500
set_option maxRecDepth 100000 in
set_option maxHeartbeats 1000000 in
theorem isFor_true (n : Nat) (hn : n ≤ 16) (f : Ft) (hf : okF n f) (w : World) : Calls Tryz.prog 43 #[.agg #[.int .i64 (f.kd : Int), .int .i64 (f.md : Int), .int .i64 (f.fr : Int), .int .i64 (f.til : Int)], .int .i64 (n : Int)] w fun e w' => e = .returned (.bool true) ∧ Span 0 0 w w' := by
  obtain ⟨kd, md, fr, til⟩ := f
  obtain ⟨h1, h2, h3, h4, h5⟩ := hf
  simp only at h1 h2 h3 h4 h5
  have II := Lib.hid (isIndex_true md n h3)
  have i1 : (1 : Int) ≤ (kd : Int) := by omega
  have i2 : (kd : Int) ≤ 3 := by omega
  have i3 : (0 : Int) ≤ (fr : Int) := by omega
  have i4 : (fr : Int) ≤ (til : Int) := by omega
  have i5 : (til : Int) ≤ 500 := by omega
  have SA := Lib.hid ((Span.refl 0 0 w).alloc (.cells #[.int .i64 (kd : Int), .int .i64 (md : Int), .int .i64 (fr : Int), .int .i64 (til : Int)] 48))
  clear h1 h2 h3 h4 h5
  go_enter Tryz.func43, Tryz.ntmps43
  go_wp2_with fail
  refine (II.out _).mono ?_
  rintro _ _ ⟨rfl, rfl⟩
  go_wp2_with fail
  go_ret
  exact ⟨rfl, SA.out⟩

set_option maxRecDepth 100000 in
set_option maxHeartbeats 1000000 in
theorem for_closure (n cM RB : Nat) (AM : Option Addr) (vC : Value) (hn : n ≤ 16) (f : Ft) (hf : okF n f) (w : World) (hb : Bx RB #[.slice AM n cM, vC] w) : Calls Tryz.prog 42 #[.agg #[.int .i64 (f.kd : Int), .int .i64 (f.md : Int), .int .i64 (f.fr : Int), .int .i64 (f.til : Int)], .pointer (some ⟨RB, 0, none⟩)] w fun e w' => e = .returned (.bool true) ∧ Span 0 0 w w' := by
  have IF := Lib.hid (isFor_true n hn f hf)
  obtain ⟨kd, md, fr, til⟩ := f
  simp only at IF
  have c1 := hb.cellsA
  have in1 : (n : Int) ≤ 16 := by omega
  have SA := Lib.hid ((Span.refl 0 0 w).alloc (.cells #[.int .i64 (kd : Int), .int .i64 (md : Int), .int .i64 (fr : Int), .int .i64 (til : Int)] 48))
  clear hf hn hb
  go_enter Tryz.func42, Tryz.ntmps42
  go_wp2_with fail
  refine (IF.out _).mono ?_
  rintro _ wa ⟨rfl, sa⟩
  have SB := Lib.hid (SA.out.trans sa)
  clear sa
  go_wp2_with fail
  go_ret
  exact ⟨rfl, SB.out⟩

set_option maxRecDepth 100000 in
set_option maxHeartbeats 2000000 in
theorem areAll_faults (L : List Ft) (b : Nat) (v : Value) (n cM RB : Nat) (AM : Option Addr) (vC : Value) (hn : n ≤ 16) (hf : ∀ f ∈ L, okF n f) (hm : L.length ≤ 20) (w : World) (hL : HasC 4 ftC b 0 w.heap.size w v L) (hb : Bx RB #[.slice AM n cM, vC] w) :
    Calls Tryz.prog 41 #[v, .int .i64 20, .func (.func 42) #[] #[.pointer (some ⟨RB, 0, none⟩)]] w fun e w' => e = .returned (.bool true) ∧ Span 0 0 w w' := by
  have HL := Lib.hid hL
  obtain ⟨A, cap, rfl, -, -⟩ := hL
  obtain ⟨m, hmm⟩ : ∃ m, m = L.length := ⟨_, rfl⟩
  have HN := Lib.hid hmm
  have HF := Lib.hid hf
  have HB := Lib.hid hb
  have H16 := Lib.hid hn
  rw [← hmm] at HL hm ⊢
  have i1 : (m : Int) ≤ 20 := by omega
  have i0 : (0 : Int) ≤ (m : Int) := by omega
  clear hmm hm hf hb hn
  go_enter Tryz.func41, Tryz.ntmps41
  go_wp2_with fail
  go_loopw [15] (fun q wr => ∃ k : Nat, k ≤ m ∧ q = .int .i64 k ∧ Span 0 0 w wr) (fun q _ => m - (intOf q).toNat)
  case atStart => exact ⟨0, Nat.zero_le _, rfl, Span.refl _ _ _⟩
  case round =>
    obtain ⟨k, hk, rfl, hs⟩ := hrel
    have HSR := Lib.hid hs
    by_cases hlt : k < m
    · obtain ⟨x, hx⟩ := getElem?_some (xs := L) (j := k) (by rw [← HN.out]; exact hlt)
      have R := HL.out.keep hs
      obtain ⟨off, hoff⟩ := R.addr (by rw [← HN.out]; omega)
      subst hoff
      have c0 : wr.cell? ⟨b, off + k * 4, none⟩ = some (.int .i64 (x.kd : Int)) := R.at_ hx (i := 0) rfl
      have c1 : wr.cell? ⟨b, off + k * 4 + 1, none⟩ = some (.int .i64 (x.md : Int)) := R.at_ hx (i := 1) rfl
      have c2 : wr.cell? ⟨b, off + k * 4 + 2, none⟩ = some (.int .i64 (x.fr : Int)) := R.at_ hx (i := 2) rfl
      have c3 : wr.cell? ⟨b, off + k * 4 + 3, none⟩ = some (.int .i64 (x.til : Int)) := R.at_ hx (i := 3) rfl
      have j1 : (0 : Int) ≤ (k : Int) := by omega
      have j2 : (k : Int) < (m : Int) := by omega
      have FC := Lib.hid (fun w' (s : Span 0 0 wr w') => for_closure n cM RB AM vC H16.out x (HF.out x (List.mem_of_getElem? hx)) w' (HB.out.keep (hs.trans s)))
      have HLT := Lib.hid hlt
      obtain ⟨kd, md, fr, til⟩ := x
      simp only at c0 c1 c2 c3 FC
      have SA := Lib.hid ((Span.refl 0 0 wr).alloc (.cells #[.int .i64 (kd : Int), .int .i64 (md : Int), .int .i64 (fr : Int), .int .i64 (til : Int)] 48))
      clear R hx hs hlt hk
      go_wp2_with fail
      refine (FC.out _ SA.out).mono ?_
      rintro _ wa ⟨rfl, sa⟩
      have SB := Lib.hid (HSR.out.trans (SA.out.trans sa))
      clear sa
      go_wp2_with fail
      go_roundw
      case rel => exact ⟨k + 1, HLT.out, by go_num, SB.out⟩
      case measure => have := HLT.out; simp [intOf]; omega
    · have hkn : k = m := by omega
      subst hkn
      clear hs
      go_wp2_with fail
      go_ret
      exact ⟨rfl, HSR.out⟩
end Go.Proofs.YtkjlodoppmipfaaGreat
