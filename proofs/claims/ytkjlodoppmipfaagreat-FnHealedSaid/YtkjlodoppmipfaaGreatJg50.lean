/- Equal racks without rings and tables are the same (the model's SameModules, SameRacks). -/
import Derived.Test.YtkjlodoppmipfaaGreatJg34
import Derived.Test.YtkjlodoppmipfaaGreatJg15
import Derived.Test.YtkjlodoppmipfaaGreatJg3
import Derived.Test.YtkjlodoppmipfaaGreatJg49
import Derived.Deep.DeepCutAuto
import Derived.BigQuiet
import Derived.Outline
namespace Go.Proofs.YtkjlodoppmipfaaGreat
open Go.RowKit

set_option maxRecDepth 100000 in
set_option maxHeartbeats 4000000 in
theorem specSameModules_self (k a cnt c f : Int) (x1 x2 y1 y2 l : Nat) (w : World) : Calls Tryz.prog 29 #[.agg #[.int .i64 k, .complex .f32 x1 x2, .complex .f32 y1 y2, .float .f32 l, .slice none 0 0, .int .i64 a, .int .i64 cnt, .slice none 0 0, .slice none 0 0, .int .i64 c, .int .i64 f], .agg #[.int .i64 k, .complex .f32 x1 x2, .complex .f32 y1 y2, .float .f32 l, .slice none 0 0, .int .i64 a, .int .i64 cnt, .slice none 0 0, .slice none 0 0, .int .i64 c, .int .i64 f]] w fun e w' => e = .returned (.bool true) ∧ Span 0 0 w w' := by
  obtain ⟨us, hus⟩ : ∃ us : Array Value, us = #[.int .i64 k, .complex .f32 x1 x2, .complex .f32 y1 y2, .float .f32 l, .slice none 0 0, .int .i64 a, .int .i64 cnt, .slice none 0 0, .slice none 0 0, .int .i64 c, .int .i64 f] := ⟨_, rfl⟩
  have SW := Lib.hid (((Span.refl 0 0 w).alloc (.cells us 32)).alloc (.cells us 32))
  have B1 := (Bx.new w us 32).alloc (.cells us 32)
  have B2 := Bx.new (w.alloc (.cells us 32)) us 32
  rw [show (w.alloc (.cells us 32)).heap.size = w.heap.size + 1 by simp] at B2
  have HB1 := Lib.hid B1
  have HB2 := Lib.hid B2
  clear B1 B2
  go_enter Tryz.func29, Tryz.ntmps29
  go_upto_region 1 with fail
  rw [← hus]
  try rw [← hus]
  generalize (w.alloc (.cells us 32)).alloc (.cells us 32) = w1 at *
  subst hus
  have c1 := HB1.out.cells
  have c2 := HB2.out.cells
  go_wp2_with fail
  go_loopw [59] (fun q wr => q = .int .i64 0 ∧ wr = w1) (fun q _ => 0)
  case atStart => exact ⟨rfl, rfl⟩
  case round =>
    obtain ⟨rfl, rfl⟩ := hrel
    go_wp2_with fail
    refine (l5SamePoint_self _ _ _).mono ?_
    rintro _ _ ⟨n1, rfl, rfl⟩
    go_wp2_with fail
    refine (l5SamePoint_self _ _ _).mono ?_
    rintro _ _ ⟨n2, rfl, rfl⟩
    go_wp2_with fail
    refine (l5Same_self _ _).mono ?_
    rintro _ _ ⟨n3, rfl, rfl⟩
    go_wp2_with fail
    refine (l5SameList_self [] false false 0 0 0 0 0 0 _ _ _ (HasS.empty ..) (HasS.empty ..) (by decide)).mono ?_
    rintro _ _ ⟨n4, rfl, rfl⟩
    go_wp2_with fail
    refine (l5SameList_self [] false false 0 0 0 0 0 0 _ _ _ (HasS.empty ..) (HasS.empty ..) (by decide)).mono ?_
    rintro _ _ ⟨n5, rfl, rfl⟩
    go_wp2_with fail
    go_ret
    exact ⟨rfl, SW.out.os, SW.out.tape, SW.out.output, SW.out.size, SW.out.block⟩

/-- A module without ring and table. -/
def PlainM (x : Mw) : Prop := ∃ (k a cnt c f : Int) (t1 t2 s1 s2 lv : Nat), x = ⟨k, t1, t2, s1, s2, lv, none, 0, 0, a, cnt, none, 0, 0, none, 0, 0, c, f⟩
set_option maxRecDepth 100000 in
set_option maxHeartbeats 8000000 in
theorem specSameRacks_self (Ns : List Mw) (Cs : List (Nat × Nat)) (hp : ∀ (i : Nat) (x : Mw), Ns[i]? = some x → PlainM x) (hn : Ns.length ≤ 16) (hm : Cs.length ≤ 40) (bM bM' bC bC' : Nat) (vM vM' vC vC' : Value) (w : World)
    (h1 : HasC 11 Mw.l bM 0 w.heap.size w vM Ns) (h1' : HasC 11 Mw.l bM' 0 w.heap.size w vM' Ns) (h2 : HasC 2 cabC bC 0 w.heap.size w vC Cs) (h2' : HasC 2 cabC bC' 0 w.heap.size w vC' Cs) :
    Calls Tryz.prog 12 #[.agg #[vM, vC], .agg #[vM', vC']] w fun e w' => e = .returned (.bool true) ∧ Span 0 0 w w' := by
  obtain ⟨us, hus⟩ : ∃ us : Array Value, us = #[vM, vC] := ⟨_, rfl⟩
  obtain ⟨us', hus'⟩ : ∃ us : Array Value, us = #[vM', vC'] := ⟨_, rfl⟩
  have sw := ((Span.refl 0 0 w).alloc (.cells us 37)).alloc (.cells us' 37)
  have SW := Lib.hid sw
  have HM := Lib.hid (h1.k sw)
  have HM' := Lib.hid (h1'.k sw)
  have HC := Lib.hid (h2.k sw)
  have HC' := Lib.hid (h2'.k sw)
  have B1 := (Bx.new w us 37).alloc (.cells us' 37)
  have B2 := Bx.new (w.alloc (.cells us 37)) us' 37
  rw [show (w.alloc (.cells us 37)).heap.size = w.heap.size + 1 by simp] at B2
  have HB1 := Lib.hid B1
  have HB2 := Lib.hid B2
  clear B1 B2 sw
  obtain ⟨AM, cM, rfl, -, -⟩ := h1
  obtain ⟨AM', cM', rfl, -, -⟩ := h1'
  obtain ⟨AC, cC, rfl, -, -⟩ := h2
  obtain ⟨AC', cC', rfl, -, -⟩ := h2'
  obtain ⟨n, hnn⟩ : ∃ n, n = Ns.length := ⟨_, rfl⟩
  obtain ⟨m, hmm⟩ : ∃ m, m = Cs.length := ⟨_, rfl⟩
  rw [← hnn] at HM HM' hn hus hus'
  rw [← hmm] at HC HC' hm hus hus'
  rw [← hnn, ← hmm]
  have HN := Lib.hid hnn
  have HMM := Lib.hid hmm
  have HP := Lib.hid hp
  have i1 : (n : Int) ≤ 16 := by omega
  have i2 : (m : Int) ≤ 40 := by omega
  have i3 : (0 : Int) ≤ (n : Int) := by omega
  have i4 : (0 : Int) ≤ (m : Int) := by omega
  clear hnn hmm hp hn hm
  go_enter Tryz.func12, Tryz.ntmps12
  go_upto_region 1 with fail
  rw [← hus, ← hus']
  generalize (w.alloc (.cells us 37)).alloc (.cells us' 37) = w1 at *
  obtain ⟨R1, hR1⟩ : ∃ t, t = w.heap.size := ⟨_, rfl⟩
  rw [← hR1] at HB1 HB2 ⊢
  clear hR1
  rw [hus] at HB1
  rw [hus'] at HB2
  clear hus hus'
  have c1 := HB1.out.cells
  have c2 := HB2.out.cells
  go_wp2_with fail
  go_loopw [28] (fun q wr => ∃ k : Nat, k ≤ m ∧ q = .int .i64 k ∧ Span 0 0 w1 wr) (fun q _ => m - (intOf q).toNat)
  case atStart => exact ⟨0, Nat.zero_le _, rfl, Span.refl _ _ _⟩
  case round =>
    clear c1 c2
    obtain ⟨k, hk, rfl, hs⟩ := hrel
    have HS := Lib.hid hs
    by_cases hlt : k < m
    · obtain ⟨⟨x1, x2⟩, hx⟩ := getElem?_some (xs := Cs) (j := k) (by rw [← HMM.out]; exact hlt)
      have R := HC.out.keep hs
      obtain ⟨off, hoff⟩ := R.addr (by rw [← HMM.out]; omega)
      subst hoff
      obtain ⟨p1, p2⟩ := R.cable hx
      have sn := hs.alloc (.cells #[.int .i64 (x1 : Int), .int .i64 (x2 : Int)] 42)
      have R' := HC'.out.keep sn
      obtain ⟨off', hoff'⟩ := R'.addr (by rw [← HMM.out]; omega)
      subst hoff'
      obtain ⟨p3, p4⟩ := R'.cable hx
      have c2 := (HB2.out.keep sn).cells
      have SN := Lib.hid sn
      have j1 : (0 : Int) ≤ (k : Int) := by omega
      have j2 : (k : Int) < (m : Int) := by omega
      have HLT := Lib.hid hlt
      simp only at p1 p2 p3 p4
      clear R R' hx hs hlt hk sn
      go_wp2_with fail
      go_quiet (fail)
      go_wp2_with fail
      go_roundw
      case rel => exact ⟨k + 1, HLT.out, by go_num, SN.out.drewN _⟩
      case measure => have := HLT.out; simp [intOf]; omega
    · have hkm : k = m := by omega
      subst hkm
      have c1 := (HB1.out.keep hs).cells
      clear hs
      go_wp2_with fail
      clear c1
      go_loopw [44] (fun q wr => ∃ k : Nat, k ≤ n ∧ q = .int .i64 k ∧ Span 0 0 w1 wr) (fun q _ => n - (intOf q).toNat)
      case atStart => exact ⟨0, Nat.zero_le _, rfl, HS.out⟩
      case round =>
        obtain ⟨k, hk, rfl, hs⟩ := hrel
        have HS := Lib.hid hs
        by_cases hlt : k < n
        · obtain ⟨x, hx⟩ := getElem?_some (xs := Ns) (j := k) (by rw [← HN.out]; exact hlt)
          have R := HM.out.keep hs
          obtain ⟨off, hoff⟩ := R.addr (by rw [← HN.out]; omega)
          subst hoff
          obtain ⟨o0, o1, o2, o3, o4, o5, o6, o7, o8, o9, o10⟩ := R.mw hx
          obtain ⟨kd, a, cnt, c, f, t1, t2, s1, s2, lv, rfl⟩ := HP.out k x hx
          have sn := hs.alloc (.cells #[.int .i64 kd, .complex .f32 t1 t2, .complex .f32 s1 s2, .float .f32 lv, .slice none 0 0, .int .i64 a, .int .i64 cnt, .slice none 0 0, .slice none 0 0, .int .i64 c, .int .i64 f] 32)
          have R' := HM'.out.keep sn
          obtain ⟨off', hoff'⟩ := R'.addr (by rw [← HN.out]; omega)
          subst hoff'
          obtain ⟨q0, q1, q2, q3, q4, q5, q6, q7, q8, q9, q10⟩ := R'.mw hx
          have c2 := (HB2.out.keep sn).cells
          have SN := Lib.hid sn
          have j1 : (0 : Int) ≤ (k : Int) := by omega
          have j2 : (k : Int) < (n : Int) := by omega
          have HLT := Lib.hid hlt
          have SS := Lib.hid (specSameModules_self kd a cnt c f t1 t2 s1 s2 lv)
          simp only at o0 o1 o2 o3 o4 o5 o6 o7 o8 o9 o10 q0 q1 q2 q3 q4 q5 q6 q7 q8 q9 q10
          clear R R' hx hs hlt hk sn
          go_wp2_with fail
          go_region_with (go_at_call 29; go_loud (refine (SS.out _).mono ?_; rintro _ w3 ⟨rfl, s3⟩; have S3 : Hid (Span 0 0 w1 w3) := (by first | exact SN.out.trans s3 | exact SN.out.trans s3.undrawn' | exact SN.out.trans (Span.undrawn' (n := 1) s3)); clear s3))
          all_goals go_wp2_with fail
          all_goals go_roundw
          all_goals first
            | exact ⟨k + 1, HLT.out, by go_num, S3.out⟩
            | (have := HLT.out; simp [intOf]; omega)
        · have hkm : k = n := by omega
          subst hkm
          clear hs
          go_wp2_with fail
          go_ret
          exact ⟨rfl, SW.out.trans HS.out⟩
end Go.Proofs.YtkjlodoppmipfaaGreat
