/- A rack without slicers is traced. -/
import Derived.Test.YtpiiflhdllpoiaaJq51
import Derived.Outline
namespace Go.Proofs.Ytpiiflhdllpoiaa
open Go.RowKit

theorem keeps_grown {w w1 : World} {o : Obj} {row : Option Nat} (g : (w.alloc o).grownBy w1 row) : Keeps row.toList w w1 :=
  ⟨g.os, g.tape, g.output, Nat.le_trans (by simp) g.size, fun k hk hn => (g.block k (by simp; omega) (fun e => hn (by rw [← e]; simp))).trans (((Span.refl 0 0 w).alloc o).block k hk (by omega))⟩

/-- A sample is appended to a row. -/
theorem trace_next {W X : List Nat} {Q O n F bU bS : Nat} {C : Value} {us : List (Kd × Nat)} {ss : List (Nat × List Nat × (Kd × Nat))} {fs : List (List Nat)} {S : Nat → List Un × List Cx} {w wr w6 : World} {vs : List Value} {r i : Nat} {y : Cx} {v : Value} {o : Obj} {g c : Nat}
    (hi : i < n) (hy : (S (r + 1)).2[i]? = some y) (hv : vs[i]? = some v) (ht : TrAt F n (rowsAt S n r i) vs wr) (hc : CircAt W X Q O n F bU bS C us ss fs (S (r + 1)) wr) (hx : InX X F vs) (s : Span 0 0 w wr) (hF : w.heap.size ≤ F)
    (ho : w6.ownsRow (F + 1) 24 1 (.slice (some ⟨g, 0, none⟩) (r + 1) c) (r + 1) (((List.range r).map fun s => (S (s + 1)).2.getD i (0, 0)).map cxV ++ [cxV y])) (hgr : (wr.alloc o).grownBy w6 v.ownBlock) (hat : v.ownBlock = some g ∨ g = wr.heap.size + 1) (hlt : g < w6.heap.size) :
    TrAt F n (rowsAt S n r (i + 1)) (vs.set i (.slice (some ⟨g, 0, none⟩) (r + 1) c)) (w6.setCell ⟨F, i, none⟩ (.slice (some ⟨g, 0, none⟩) (r + 1) c)) ∧
    CircAt W (g :: X) Q O n F bU bS C us ss fs (S (r + 1)) (w6.setCell ⟨F, i, none⟩ (.slice (some ⟨g, 0, none⟩) (r + 1) c)) ∧ InX (g :: X) F (vs.set i (.slice (some ⟨g, 0, none⟩) (r + 1) c)) ∧ Span 0 0 w (w6.setCell ⟨F, i, none⟩ (.slice (some ⟨g, 0, none⟩) (r + 1) c)) := by
  obtain ⟨l, hl0⟩ : ∃ l, l = (List.range r).map fun s => (S (s + 1)).2.getD i (0, 0) := ⟨_, rfl⟩
  have hl : (rowsAt S n r i)[i]? = some l := by rw [rowsAt_get S hi, if_neg (Nat.lt_irrefl _), hl0]
  have hll : l.length = r := by rw [hl0]; simp
  rw [← hl0] at ho
  have h1 := ht.next (x := y) hv hl (Span.refl 0 0 wr) o (g := g) (c := c) (by rw [hll]; exact ho) hgr hat
  rw [hll, hl0, rowsAt_next S hi hy] at h1
  have own := (ht.own i v l hv hl).lt
  have kV : Keeps (F :: v.ownBlock.toList) wr (w6.setCell ⟨F, i, none⟩ (.slice (some ⟨g, 0, none⟩) (r + 1) c)) := ((keeps_grown hgr).weak (fun k hk => .inl (List.mem_cons_of_mem _ hk))).setCell F i (by simp) _
  have hVlo : ∀ b ∈ F :: v.ownBlock.toList, F ≤ b := fun b hb => by
    rcases List.mem_cons.1 hb with rfl | hb
    · exact Nat.le_refl _
    · have := own b (by simpa using hb); omega
  refine ⟨h1, hc.grow kV hVlo (fun b hb => ?_) ?_ ?_, ⟨List.mem_cons_of_mem _ hx.1, fun j v' b hv' hb => ?_⟩, kV.fresh s (fun k hk => Nat.le_trans hF (hVlo k hk))⟩
  · rcases List.mem_cons.1 hb with rfl | hb
    · exact hx.1
    · exact hx.2 i v b hv (by simpa using hb)
  · rcases hat with h | h
    · exact .inr (hx.2 i v g hv h)
    · exact .inl (by omega)
  · simpa [World.setCell] using hlt
  · by_cases hj : j = i
    · subst hj
      rw [List.getElem?_set_self (List.getElem?_eq_some_iff.1 hv).1] at hv'
      injection hv' with hv'
      subst hv'
      rw [ownBlock_slice] at hb
      injection hb with hb
      subst hb
      exact List.mem_cons_self
    · rw [List.getElem?_set_ne (by omega)] at hv'
      exact List.mem_cons_of_mem _ (hx.2 j v' b hv' hb)

set_option maxRecDepth 100000 in
set_option maxHeartbeats 8000000 in
theorem traceRack_mix {w : World} {bM bC lo hi : Nat} {AM : Option Addr} {n cM : Nat} {AC : Option Addr} {m cC : Nat} {Ms : List Mw} {Cs : List (Nat × Nat)} (hr : RkAt w bM bC lo hi AM n cM AC m cC Ms Cs) (hn : 0 < n) (Rs : List (List Cx × Tab)) (hR : Reads w Ms Rs) (kds : List Kd) (hkl : kds.length = n) (hk : ∀ (i : Nat) (kd : Kd) (x : Mw) (r : List Cx × Tab), kds[i]? = some kd → Ms[i]? = some x → Rs[i]? = some r → GoodM kd x r) (os : List Int) (hord : orderC (Ms.map Mw.k) Cs n = some os)
    (N : Nat) (hN : N ≤ 500)
    (tr : Nat → Nat → List Un × List Cx)
    (hread : ∀ r, r < N → tr r 0 = ((stAt n (unOf kds Ms Rs, List.replicate n (0, 0)) tr r).1, readO (stAt n (unOf kds Ms Rs, List.replicate n (0, 0)) tr r).1 (stAt n (unOf kds Ms Rs, List.replicate n (0, 0)) tr r).2))
    (hring : ∀ r, r < N → ∀ (i : Nat) (xs : List Cx) (a : Nat), (stAt n (unOf kds Ms Rs, List.replicate n (0, 0)) tr r).1[i]? = some (.ring xs a) → a < xs.length ∧ xs.length ≤ 1048576)
    (hstep : ∀ r, r < N → ∀ (j i : Nat) (kd : Kd) (l : List Nat), os[j]? = some (i : Int) → kds[i]? = some kd → (feedsC n Cs)[i]? = some l → One (-1) (0, 0) (i, l, (kd, 0)) (tr r j) (tr r (j + 1))) :
    Calls Try.prog 10 #[.agg #[.slice AM n cM, .slice AC m cC], .int .i64 (N : Int)] w (TracedRk n (rowsAt (stAt n (unOf kds Ms Rs, List.replicate n (0, 0)) tr) n N 0) w) := by
  have h16 := hr.most
  have hml : Ms.length = n := hr.mods.len.1.symm
  have hrl : Rs.length = n := hR.1.trans hml
  have hcl : m = Cs.length := hr.cabs.len.1
  have hkx : ∀ x ∈ Ms, ∃ kd : Kd, x.k = kd.num := fun x hx => by
    obtain ⟨i, hi⟩ := List.getElem?_of_mem hx
    have hil := (List.getElem?_eq_some_iff.1 hi).1
    obtain ⟨kd, hkd⟩ := getElem?_some (xs := kds) (j := i) (by omega)
    obtain ⟨r, hr⟩ := getElem?_some (xs := Rs) (j := i) (by omega)
    exact ⟨kd, (hk i kd x r hkd hi hr).1⟩
  have hinv := orderC_inv hord
  generalize hU0 : (unOf kds Ms Rs, List.replicate n ((0, 0) : Cx)) = s0 at *
  have NR : Hid (∀ w', Span 0 0 w w' → Calls Try.prog 18 #[.agg #[.slice AM n cM, .slice AC m cC]] w' (MixC n m kds Ms Rs Cs os w')) := fun w' s =>
    (newCircuit_any (hr.keep s) Rs (hR.keep s) hkx os hord).mono fun e w2 h => h.mix kds hk hkl hml hrl ⟨hn, h16.1⟩ hinv (fun c hc => (hr.ends c hc).1) (by omega)
  have RL := Lib.hid (isRunLength_true N hN)
  have HST : Hid (∀ (W : List Nat) (Q O H bU bS : Nat) (C : Value) (us : List (Kd × Nat)) (ss : List (Nat × List Nat × (Kd × Nat))) (fs : List (List Nat)), ss.length = os.length → (∀ (j i : Nat) t, os[j]? = some (i : Int) → ss[j]? = some t → stOf kds (feedsC n Cs) i t) → ∀ r, r < N → StepTo W Q O n H bU bS C us ss fs (-1) (0, 0) (stAt n s0 tr r) (stAt n s0 tr (r + 1))) := fun W Q O H bU bS C us ss fs h2 h3 r hr => by
    have h4 := stepTo_mix (W := W) (Q := Q) (O := O) (n := n) (H := H) (bU := bU) (bS := bS) (C := C) (us := us) (ss := ss) (fs := fs) (-1) (0, 0) (stAt n s0 tr r) (hring r hr) (tr r) (hread r hr) (fun j t hj => by
      obtain ⟨i0, hi0⟩ := getElem?_some (xs := os) (j := j) (by rw [← h2]; exact (List.getElem?_eq_some_iff.1 hj).1)
      obtain ⟨i, rfl, _⟩ := hinv.2 i0 (List.mem_of_getElem? hi0)
      obtain ⟨g1, g2, g3⟩ := h3 j i t hi0 hj
      have := hstep r hr j i t.2.2.1 t.2.1 hi0 g3 g2
      rw [← g1] at this
      exact this)
    rw [h2, hinv.1] at h4
    exact h4
  obtain ⟨S, hS⟩ : ∃ S, S = stAt n s0 tr := ⟨_, rfl⟩
  rw [← hS] at HST ⊢
  have HS0 : Hid (S 0 = s0) := by rw [hS]; exact rfl
  have H0 := Lib.hid hU0
  have HN := Lib.hid hN
  have HN0 := Lib.hid hn
  have iN : (N : Int) ≤ 500 := by omega
  have i16 : (n : Int) ≤ 16 := by omega
  have H16 := Lib.hid h16
  obtain ⟨ip, hip, hzp, hsp, hbp⟩ := info_parts info_c64
  have SA := Lib.hid ((Span.refl 0 0 w).alloc (.cells #[.slice AM n cM, .slice AC m cC] 43))
  have hmk : ∀ V : World, (Instr.makeSlice 44 (.int .i64 (n : Int)) (.int .i64 (n : Int))).run Try.prog V = .ok (.slice (some ⟨V.heap.size, 0, none⟩) n n) (V.alloc (.cells (zerosV (.slice none 0 0) n) 26)) := fun V => run_make_zeros (P := Try.prog) V 44 26 (.slice none 0 0) 24 Try.underlying44 info_c64s rfl n (by omega) (by omega)
  clear hr hR hk hord hstep hread hring hN hU0 hkx hinv h16 hml hcl hkl hrl hS hn
  go_enter Try.func10, Try.ntmps10
  go_wp2_with fail
  refine (NR.out _ SA.out).mono ?_
  rintro _ w4 ⟨W, Q, O, bU, bS, bC, A, q, us, ss, fs, rfl, s4, hW, -, -, hku, hsl, hso, hc⟩
  rw [H0.out, ← HS0.out] at hc
  have S4 := Lib.hid (SA.out.trans s4)
  have HWN := Lib.hid (fun b (hb : b ∈ W) => Nat.le_trans SA.out.size (hW b hb))
  have cq : w4.cell? ⟨Q, 3, none⟩ = some (.slice (some ⟨O, 0, none⟩) n n) := by
    obtain ⟨U, V, sts, hq, _⟩ := hc.1.box
    exact hq.cells 3
  obtain ⟨F, hF⟩ : ∃ t, t = w4.heap.size := ⟨_, rfl⟩
  rw [← hF] at hc
  have HSO := Lib.hid (HST.out W Q O F bU bS (.slice A m q) us ss fs hsl hso)
  have HWF := Lib.hid hc.1.top.1
  have HCC := Lib.hid hc
  clear s4 hW hku hsl hso hc
  go_wp2_with fail
  refine (RL.out _).mono ?_
  rintro _ _ ⟨rfl, rfl⟩
  go_wp2_with fail
  clear cq hmk
  have TZ := Lib.hid (TrAt.zero w4 n)
  have SF := Lib.hid ((Span.refl 0 0 w4).alloc (.cells (zerosV (.slice none 0 0) n) 26))
  have CF := Lib.hid (HCC.out.more SF.out (G := F) (by omega) (by rw [hF]; simp))
  rw [← hF] at TZ ⊢
  have HFW : Hid (w.heap.size ≤ F) := by have := S4.out.size; unfold Hid; omega
  have SF0 := Lib.hid (S4.out.trans SF.out)
  generalize w4.alloc (.cells (zerosV (.slice none 0 0) n) 26) = wF at *
  clear hF
  go_loopw [30] (fun c wr => ∃ (r : Nat) (X : List Nat) (vs : List Value), r ≤ N ∧ c = .int .i64 r ∧ TrAt F n (rowsAt S n r 0) vs wr ∧ CircAt W X Q O n F bU bS (.slice A m q) us ss fs (S r) wr ∧ InX X F vs ∧ Span 0 0 w wr) (fun c _ => N - (intOf c).toNat)
  case atStart =>
    refine ⟨0, F :: W, List.replicate n (.slice none 0 0), Nat.zero_le _, rfl, ?_, CF.out, ⟨List.mem_cons_self, fun i v b hv hb => ?_⟩, SF0.out⟩
    · rw [rowsAt_zero]; exact TZ.out
    · rw [(List.mem_replicate.1 (List.mem_of_getElem? hv)).2] at hb; cases hb
  case round =>
    obtain ⟨r, X, vs, hrN, rfl, ht, hc, hx, hs⟩ := hrel
    by_cases hlt : r < N
    · have STP := HSO.out r hlt X wr hc
      simp only at STP
      have STP := Lib.hid STP
      have HT := Lib.hid ht
      have HX := Lib.hid hx
      have HS := Lib.hid hs
      have HLT := Lib.hid hlt
      have j1 : (0 : Int) ≤ (r : Int) := by omega
      have j2 : (r : Int) < (N : Int) := by omega
      clear ht hc hx hs hrN hlt
      go_wp2_with fail
      refine STP.out.mono ?_
      rintro _ w5 ⟨rfl, c5, k5⟩
      have T5 := Lib.hid (HT.out.keeps k5 (fun b hb => HWF.out b hb))
      have C5 := Lib.hid c5
      have S5 := Lib.hid (k5.fresh HS.out HWN.out)
      have cq : w5.cell? ⟨Q, 3, none⟩ = some (.slice (some ⟨O, 0, none⟩) n n) := by
        obtain ⟨U, V, sts, hq, _⟩ := c5.1.box
        exact hq.cells 3
      clear c5 k5
      go_wp2_with fail
      clear cq
      go_loopw [39] (fun c wr => ∃ (i : Nat) (X' : List Nat) (vs' : List Value), i ≤ n ∧ c = .int .i64 i ∧ TrAt F n (rowsAt S n r i) vs' wr ∧ CircAt W X' Q O n F bU bS (.slice A m q) us ss fs (S (r + 1)) wr ∧ InX X' F vs' ∧ Span 0 0 w wr) (fun c _ => n - (intOf c).toNat)
      case atStart => exact ⟨0, X, vs, Nat.zero_le _, rfl, T5.out, C5.out, HX.out, S5.out⟩
      case round =>
        clear T5 C5 S5 HT HX HS STP
        obtain ⟨i, X', vs', hin, rfl, ht, hc, hx, hs⟩ := hrel
        by_cases hi : i < n
        · obtain ⟨⟨y1, y2⟩, hy⟩ := getElem?_some (xs := (S (r + 1)).2) (j := i) (by rw [hc.2.2.1]; exact hi)
          obtain ⟨-, cO⟩ := hc.out hy
          obtain ⟨v, hv⟩ := getElem?_some (xs := vs') (j := i) (by rw [ht.len.1]; exact hi)
          have hl := rowsAt_get S (n := n) (r := r) (i := i) hi
          rw [if_neg (Nat.lt_irrefl _)] at hl
          have ho := ht.own i v _ hv hl
          have hlen : ((List.range r).map fun s => (S (s + 1)).2.getD i (0, 0)).length = r := by simp
          rw [hlen] at ho
          obtain ⟨A0, q0, rfl⟩ := ownsRow_slice ho
          have cF : wr.cell? ⟨F, i, none⟩ = some (.slice A0 r q0) := by rw [ht.box.cells i]; simpa using hv
          have own := Lib.hid ho.lt
          have HO := Lib.hid ho
          have HT := Lib.hid ht
          have HC := Lib.hid hc
          have HX := Lib.hid hx
          have HS := Lib.hid hs
          have HY := Lib.hid hy
          have HV := Lib.hid hv
          have HI := Lib.hid hi
          have k1 : (0 : Int) ≤ (i : Int) := by omega
          have k2 : (i : Int) < (n : Int) := by omega
          simp only at cO
          clear ht hc hx hs hy hv hi hl hlen ho hin
          go_wp2_with (at_builtin; go_loud ((refine wpList_append_lies _ rfl _ _ 26 rfl (F + 1) 24 ip (.complex .f32 0 0) 1 8 Try.underlying26 hip hzp hsp hbp rfl (by decide) _ _ _ rfl (HO.out.alloc _) ⟨wr.heap.size, 0, none⟩ 1 1 [cxV (y1, y2)] rfl rfl ?c1 ?c2 (by decide) ?c3 ?c4 ?c5 (wr.heap.size + 1) (by simp) ?_); (case c1 => exact one_new _ _ _); (case c2 => exact one_cell (by rfl)); (case c3 => have := HLT.out; have := HN.out; unfold maxLen; omega); (case c4 => have := HLT.out; have := HN.out; omega); (case c5 => have := HT.out.box.1; simp; omega); intro gU cU w6 ho6 hg6 hat6 hlt6; have B6 := (HT.out.box.alloc _).grown hg6 (fun e => by have := own.out _ e; omega); have f6 := B6.thaw; have q6 : w6.cell? ⟨F, i, none⟩ = some (.slice A0 r q0) := by { rw [B6.cells i]; simpa using HV.out }; have NX := Lib.hid (trace_next HI.out HY.out HV.out HT.out HC.out HX.out HS.out HFW.out ho6 hg6 hat6 hlt6); clear ho6 hg6 hat6 hlt6 B6))
          go_roundw
          case rel =>
            obtain ⟨n1, n2, n3, n4⟩ := NX.out
            exact ⟨i + 1, _, _, HI.out, by go_num, n1, n2, n3, n4⟩
          case measure => have := HI.out; simp [intOf]; omega
        · have hin' : i = n := by omega
          subst hin'
          rw [rowsAt_round] at ht
          have HT := Lib.hid ht
          have HC := Lib.hid hc
          have HX := Lib.hid hx
          have HS := Lib.hid hs
          clear ht hc hx hs hin hi
          go_wp2_with fail
          go_roundw
          case rel => exact ⟨r + 1, X', vs', HLT.out, by go_num, HT.out, HC.out, HX.out, HS.out⟩
          case measure => have := HLT.out; simp [intOf]; omega
    · have hrn : r = N := by omega
      subst hrn
      have HT := Lib.hid ht
      have HS := Lib.hid hs
      clear ht hc hx hs hrN hlt
      go_wp2_with fail
      exact bodyPost_ret (v := .tuple #[.slice (some ⟨F, 0, none⟩) n n, .bool true]) (by simp [results, Try.results10, go_sem]) rfl ⟨F, vs, rfl, HFW.out, HT.out, HS.out⟩
end Go.Proofs.Ytpiiflhdllpoiaa
