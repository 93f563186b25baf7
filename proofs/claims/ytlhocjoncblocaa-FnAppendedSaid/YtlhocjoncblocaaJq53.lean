/- The model's pools: windows, and how much is free. -/
import Derived.Test.YtlhocjoncblocaaJq41
namespace Go.Proofs.Ytlhocjoncblocaa
open Go.RowKit

theorem freeR_le (L : List Ls) : ∀ k, freeR L k ≤ k
  | 0 => Nat.le_refl _
  | k + 1 => by have := freeR_le L k; rw [freeR]; split <;> omega

/-- How much is free, by the model. -/
def FreeT (p : Pl) (w : World) (e : Ending) (w' : World) : Prop :=
  e = .returned (.tuple #[.int .i64 (freeR p.2 p.1.length : Int), .int .i64 (bestR p.2 p.1.length : Int)]) ∧ Span 0 0 w w'

set_option maxRecDepth 100000 in
set_option maxHeartbeats 4000000 in
theorem spec_freeRoom (p : Pl) (lo hi : Nat) (v : Value) (w : World) (hx : HasP lo hi w v p) (hp : VP p) :
    Calls Try.prog 20 #[v] w (FreeT p w) := by
  have HX := Lib.hid hx
  have HV := Lib.hid hp
  obtain ⟨AS, cS, AL, cL, rfl⟩ := hx.form
  obtain ⟨n, hn⟩ : ∃ n, n = p.1.length := ⟨_, rfl⟩
  have HNN := Lib.hid hn
  have hn256 : (n : Int) ≤ 256 := by have := hp.size; omega
  unfold FreeT
  rw [← hn] at HX ⊢
  have HS := Lib.hid ((Span.refl 0 0 w).alloc (.cells #[.slice AS n cS, .slice AL p.2.length cL] 26))
  have X0 := Lib.hid (Bx.new w #[.slice AS n cS, .slice AL p.2.length cL] 26)
  have cx := X0.out.cells
  clear hx hp hn
  go_enter Try.func20, Try.ntmps20
  go_wp2_with fail
  refine (spec_isPool_true p lo hi _ _ (HX.out.span HS.out (.inl (Nat.le_refl _))) HV.out).mono ?_
  rintro _ w0 ⟨rfl, s0⟩
  have S0 := Lib.hid (s0.after HS.out)
  have cx := (X0.out.keep s0).cells
  clear s0
  go_wp2_with fail
  refine (l3Taken_valid p lo hi _ _ (HX.out.span S0.out (.inl (Nat.le_refl _))) HV.out).mono ?_
  rintro _ w1 ⟨g, rfl, hf, -, s1⟩
  rw [← HNN.out] at hf ⊢
  have HF := Lib.hid hf
  have S1 := Lib.hid (s1.after S0.out)
  clear hf s1 cx
  go_wp2_with fail
  go_loopw [6, 7, 8, 21] (fun ca cb cn ck wr => ∃ k : Nat, k ≤ n ∧ ck = .int .i64 (k : Int) ∧ ca = .int .i64 (freeR p.2 k : Int) ∧ cb = .int .i64 (bestR p.2 k : Int) ∧ cn = .int .i64 (runTo p.2 k : Int) ∧ w1 = wr) (fun _ _ _ ck _ => n - (intOf ck).toNat)
  case atStart => exact ⟨0, Nat.zero_le _, rfl, rfl, rfl, rfl, rfl⟩
  case round =>
    obtain ⟨k, hk, rfl, rfl, rfl, rfl, rfl⟩ := hrel
    by_cases hlt : k < n
    · have cf := HF.out.at_ hlt
      have hr := runTo_le p.2 k
      have hfl := freeR_le p.2 k
      have e1 : freeR p.2 (k + 1) = freeR p.2 k + (if 0 < cnt p.2 k then 0 else 1) := rfl
      have e2 : bestR p.2 (k + 1) = max (bestR p.2 k) (runTo p.2 (k + 1)) := rfl
      have e3 : runTo p.2 (k + 1) = if 0 < cnt p.2 k then 0 else runTo p.2 k + 1 := rfl
      obtain ⟨f, hf⟩ : ∃ f, f = freeR p.2 k := ⟨_, rfl⟩
      obtain ⟨b, hb⟩ : ∃ b, b = bestR p.2 k := ⟨_, rfl⟩
      obtain ⟨r, hr'⟩ : ∃ r, r = runTo p.2 k := ⟨_, rfl⟩
      rw [← hf] at e1 hfl ⊢
      rw [← hb] at e2 ⊢
      rw [← hr'] at e3 hr ⊢
      have r256 : (r : Int) ≤ 256 := by omega
      have f256 : (f : Int) ≤ 256 := by omega
      have HK := Lib.hid hlt
      clear hk hlt hr hfl hf hb hr'
      by_cases hc : 0 < cnt p.2 k
      · rw [if_pos hc] at e1 e3
        rw [e3] at e2
        have E1 := Lib.hid e1
        have E2 := Lib.hid e2
        have E3 := Lib.hid e3
        have ic : (0 : Int) < (cnt p.2 k : Int) := by omega
        clear hc e1 e2 e3
        have ib : ¬ (b : Int) < 0 := by omega
        go_wp2_with fail
        go_roundw
        case rel => exact ⟨k + 1, HK.out, by go_num, by rw [E1.out, Nat.add_zero], by rw [E2.out]; first | rfl | (congr 1; omega), by rw [E3.out]; rfl, by first | rfl | trivial⟩
        case measure => have := HK.out; simp [intOf]; omega
      · rw [if_neg hc] at e1 e3
        rw [e3] at e2
        have E1 := Lib.hid e1
        have E2 := Lib.hid e2
        have E3 := Lib.hid e3
        have ic : ¬ (0 : Int) < (cnt p.2 k : Int) := by omega
        clear hc e1 e2 e3
        by_cases hb : (b : Int) < (r : Int) + 1
        · go_wp2_with fail
          go_roundw
          case rel => exact ⟨k + 1, HK.out, by go_num, by rw [E1.out]; go_num, by rw [E2.out]; first | rfl | (congr 1; omega) | (congr 1; rw [IntWalk.i64_in _ (by omega)]; omega), by rw [E3.out]; go_num, by first | rfl | trivial⟩
          case measure => have := HK.out; simp [intOf]; omega
        · go_wp2_with fail
          go_roundw
          case rel => exact ⟨k + 1, HK.out, by go_num, by rw [E1.out]; go_num, by rw [E2.out]; first | rfl | (congr 1; omega) | (congr 1; rw [IntWalk.i64_in _ (by omega)]; omega), by rw [E3.out]; go_num, by first | rfl | trivial⟩
          case measure => have := HK.out; simp [intOf]; omega
    · have hke : n = k := by omega
      subst hke
      clear hk hlt
      go_wp2_with fail
      go_ret2
      exact ⟨rfl, S1.out⟩

set_option maxRecDepth 100000 in
set_option maxHeartbeats 4000000 in
theorem spec_windowOf (p : Pl) (id : Nat) (lo hi : Nat) (v : Value) (w : World) (hx : HasP lo hi w v p) (hp : VP p) (hid : id ≤ 4194304) :
    Calls Try.prog 26 #[v, .int .i64 (id : Int)] w (WinS (winP p id) w) := by
  obtain ⟨ip, hip, hzp, hsp, hbp⟩ := info_parts info_c64
  have HX := Lib.hid hx
  have HV := Lib.hid hp
  obtain ⟨b1, b2, vS, vL, rfl, g1, g2⟩ := hx
  have G1 := Lib.hid g1
  obtain ⟨AS, cS, rfl, hcap, _⟩ := g1
  have G2 := Lib.hid g2
  obtain ⟨AL, cL, rfl, _, _⟩ := g2
  obtain ⟨n, hn⟩ : ∃ n, n = p.1.length := ⟨_, rfl⟩
  obtain ⟨ll, hll⟩ : ∃ n, n = p.2.length := ⟨_, rfl⟩
  have HNN := Lib.hid hn
  have HLL := Lib.hid hll
  have HCAP : Hid (n ≤ cS ∧ n ≤ 256) := ⟨by omega, by rw [hn]; exact hp.size⟩
  rw [← hn, ← hll] at HX
  rw [← hll] at G2
  rw [← hn] at G1
  rw [← hn, ← hll]
  have X0 := Lib.hid (Bx.new w #[.slice AS n cS, .slice AL ll cL] 26)
  have HS := Lib.hid ((Span.refl 0 0 w).alloc (.cells #[.slice AS n cS, .slice AL ll cL] 26))
  have cx := X0.out.cells
  clear hp hn hll hcap
  go_enter Try.func26, Try.ntmps26
  go_wp2_with fail
  refine (l3Lent_any p id lo hi _ _ (HX.out.span HS.out (.inl (Nat.le_refl _))) HV.out hid).mono ?_
  rintro _ w1 ⟨rfl, s1⟩
  have X1 := Lib.hid (X0.out.keep s1)
  have S1 := Lib.hid (s1.after HS.out)
  clear s1 cx X0 HS
  cases hl : lentAt p id with
  | none =>
    have HG : Hid (winP p id = none) := by unfold Hid winP; rw [hl]; rfl
    simp only [Option.isSome_none]
    clear hl
    go_wp2_with fail
    go_ret2
    rw [HG.out]
    exact ⟨rfl, S1.out⟩
  | some x =>
    have HG : Hid (winP p id = some ((p.1.drop x.start).take x.count)) := by unfold Hid winP; rw [hl]; rfl
    have HL := Lib.hid (lentAt_some hl)
    have hil : id < ll := by rw [HLL.out]; exact (List.getElem?_eq_some_iff.1 HL.out.1).1
    obtain ⟨o1, o2, o3⟩ := (HV.out.ok _ (List.mem_of_getElem? HL.out.1)).lent HL.out.2
    have hsz := HV.out.size
    obtain ⟨off1, rfl, -⟩ := G1.out.addrS (show 0 < p.1.length by omega)
    have HPT := Lib.hid ((G1.out.span S1.out (.inl (Nat.le_refl _))).part (s := x.start) (k := x.count) (r := x.room) (by omega) o2 (by omega))
    have HPL : Hid (((p.1.drop x.start).take x.count).length = x.count ∧ x.count ≤ 256) := ⟨part_length (by omega), by omega⟩
    obtain ⟨-, -, off2, rfl, l0, l1, l2, l3⟩ := (G2.out.span S1.out (.inl (Nat.le_refl _))).at_ HL.out.1
    simp only [Option.isSome_some]
    have i0 : (0 : Int) ≤ (id : Int) := by omega
    have i1 : (id : Int) < (ll : Int) := by omega
    have i2 : x.start < cS := by have := HCAP.out; have := HNN.out; omega
    have i3 : (x.start : Int) + (x.count : Int) ≤ (cS : Int) := by have := HCAP.out; have := HNN.out; omega
    have hw : wrap64 ((x.start : Int) + (x.count : Int)) = ((x.start + x.count : Nat) : Int) := wrap_le (by omega)
    have cx := X1.out.cells
    clear hl o1 o2 o3 hsz hil
    obtain ⟨s, c, r, fr⟩ := x
    simp only at l0 l1 l2 l3 HPT HG HPL i2 i3 hw
    have YL := Lib.hid (Bx.new w1 #[.int .i64 (s : Int), .int .i64 (c : Int), .int .i64 (r : Int), .bool fr] 30)
    have X2 := Lib.hid (X1.out.alloc (.cells #[.int .i64 (s : Int), .int .i64 (c : Int), .int .i64 (r : Int), .bool fr] 30))
    have S2 := Lib.hid ((Span.refl 0 0 w1).alloc (.cells #[.int .i64 (s : Int), .int .i64 (c : Int), .int .i64 (r : Int), .bool fr] 30))
    go_upto_region 4 with fail
    clear l0 l1 l2 l3 cx
    obtain ⟨N, hN⟩ : ∃ N, N = w1.heap.size := ⟨_, rfl⟩
    rw [← hN] at YL ⊢
    clear hN
    generalize w1.alloc (.cells #[.int .i64 (s : Int), .int .i64 (c : Int), .int .i64 (r : Int), .bool fr] 30) = w2 at *
    have cy := YL.out.cells
    have cx := X2.out.cells
    have HNW : Hid (N < w2.heap.size) := YL.out.1
    have HXW : Hid (w.heap.size < w2.heap.size) := X2.out.1
    have cyA := YL.out.cellsA
    have cxA := X2.out.cellsA
    have HOA := Lib.hid (World.ownsRow_made (base := w2.heap.size) (e := 48) (size := 1) w2 #[] 0 (Nat.le_refl _) (Nat.zero_le _) rfl)
    have HSR : Hid (∀ (o : Obj) (j : Nat) (u : Value), (((p.1.drop s).take c).map cxV)[j]? = some u → (w2.alloc o).cell? ((⟨b1, off1 + s, none⟩ : Addr).add j) = some u) := by
      intro o j u hj
      rw [List.getElem?_map, Option.map_eq_some_iff] at hj
      obtain ⟨x, hx, rfl⟩ := hj
      rw [Addr.add_lit]
      exact (HPT.out.span (S2.out.alloc o) (.inl (Nat.le_refl _))).atS hx
    go_wp2_with (at_builtin; go_loud ((refine wpList_append_own _ rfl _ _ 23 rfl w2.heap.size 48 ip (.complex .f32 0 0) 1 8 Try.underlying23 hip hzp hsp hbp rfl (by decide) _ _ _ rfl HOA.out ⟨b1, off1 + s, none⟩ (s + c - s) (cS - s) (((p.1.drop s).take c).map cxV) rfl ?c1 ?c2 ?c3 ?c4 ?c5 ?c6 ?_); (case c1 => rw [List.length_map, HPL.out.1, Nat.mul_one, Nat.add_sub_cancel_left]); (case c2 => exact HSR.out _); (case c3 => exact one_cells); (case c4 => have := HPL.out.2; unfold maxLen; omega); (case c5 => have := HPL.out.2; omega); (case c6 => simp); intro v1 w3 ho hgr _; rw [Nat.zero_add, List.nil_append, Nat.add_sub_cancel_left] at ho; have HO1 := Lib.hid ho; have HG1 := Lib.hid hgr; clear ho hgr))
    go_ret2
    rw [HG.out]
    obtain ⟨b, hb, -, -⟩ := ownsRow_hasS HO1.out
    have hs : Span 0 0 w2 w3 := ((Span.refl 0 0 w2).alloc _).grown HG1.out (fun k hk => by have hk' : some w2.heap.size = some k := hk; injection hk' with hk'; right; omega)
    exact ⟨⟨v1, b, rfl, hb.weak (by have := HXW.out; omega) (.inl (Nat.le_refl _))⟩, hs.after (S2.out.after S1.out)⟩
end Go.Proofs.Ytlhocjoncblocaa
