/- The program's pools: rooms do not meet; a valid pool is valid. The program's pools: windows. The program's pools: windows that the call owns. -/
import Derived.Test.YtfafkdpefdpnkaaJq43
import Derived.Deep.RegionWith
import Derived.Test.YtfafkdpefdpnkaaJq13
import Derived.Test.YtfafkdpefdpnkaaJq38
import Derived.Test.YtfafkdpefdpnkaaJq41
import Derived.Test.YtfafkdpefdpnkaaJq22
namespace Go.Proofs.Ytfafkdpefdpnkaa
section
open Go.RowKit

theorem drop_cons {α : Type} {o : List α} {k : Nat} {x : α} (h : o[k]? = some x) : o.drop k = x :: o.drop (k + 1) := by
  obtain ⟨hk, rfl⟩ := List.getElem?_eq_some_iff.1 h
  exact List.drop_eq_getElem_cons hk

set_option maxRecDepth 100000 in
set_option maxHeartbeats 4000000 in
theorem roomsMeet_false (p : Pl) (hp : VP p) (b lo hi : Nat) (v : Value) (w : World) (hx : HasL b lo hi w v p.2) :
    Calls Try.prog 58 #[v] w (Bool0 false w) := by
  have HX := Lib.hid hx
  have HV := Lib.hid hp
  obtain ⟨AL, cL, rfl, _, _⟩ := hx
  obtain ⟨ll, hll⟩ : ∃ n, n = p.2.length := ⟨_, rfl⟩
  have HLL := Lib.hid hll
  have hl16 : (ll : Int) ≤ 16 := by have := hp.most; rw [← hll] at this; omega
  have hn256 : p.1.length ≤ 256 := hp.size
  have HN := Lib.hid hn256
  rw [← hll] at HX ⊢
  clear hp hll hn256
  go_enter Try.func58, Try.ntmps58
  go_wp2_with fail
  refine (lentInOrder_any p.2 b lo hi _ w HX.out (by rw [← HLL.out]; omega)).mono ?_
  rintro _ w1 ⟨o, v1, b1, rfl, ho, h1, s1⟩
  obtain ⟨A1, c1, rfl, _, _⟩ := id h1
  have HO := Lib.hid ho
  have H1 := Lib.hid h1
  have S1 := Lib.hid s1
  obtain ⟨m, hm⟩ : ∃ m, m = o.length := ⟨_, rfl⟩
  have HM := Lib.hid hm
  have hm16 : m ≤ 16 := by
    rw [hm, ho.perm.length_eq]
    have := List.length_filter_le (fun i => (p.2[i]?).elim false (!·.free)) (List.range p.2.length)
    rw [List.length_range] at this
    have h2 := HV.out.most
    exact Nat.le_trans this h2
  rw [← hm] at H1 ⊢
  clear ho h1 s1 hm
  go_wp2_with fail
  go_loopw [3, 9] (fun ce ck wr => ∃ k e : Nat, k ≤ m ∧ ck = .int .i64 (k : Int) ∧ ce = .int .i64 (e : Int) ∧ Asc e (pickL p.2 (o.drop k)) p.1.length ∧ Span 0 0 w1 wr) (fun _ ck _ => m - (intOf ck).toNat)
  case atStart => exact ⟨0, 0, Nat.zero_le _, rfl, rfl, by rw [List.drop_zero]; exact HV.out.asc HO.out, Span.refl _ _ _⟩
  case round =>
    obtain ⟨k, e, hk, rfl, rfl, ha, hs⟩ := hrel
    by_cases hlt : k < m
    · obtain ⟨id, hid⟩ := getElem?_some (xs := o) (j := k) (by rw [← HM.out]; exact hlt)
      obtain ⟨x, hx, hf⟩ := HO.out.mem.1 (List.mem_of_getElem? hid)
      have hil : id < ll := by rw [HLL.out]; exact (List.getElem?_eq_some_iff.1 hx).1
      rw [drop_cons hid, pickL_cons _ hx] at ha
      obtain ⟨a1, a2, a3, a4, a5⟩ := ha
      have a6 := a5.le
      have HA := Lib.hid a5
      obtain ⟨off1, rfl, _⟩ := H1.out.addrS (by rw [← HM.out]; omega)
      have cid : wr.cell? _ = some (.int .i64 (id : Int)) := (H1.out.span hs (.inl (Nat.le_refl _))).atS hid
      obtain ⟨-, -, off, rfl, l0, l1, l2, l3⟩ := (HX.out.span (S1.out.trans hs) (.inl (Nat.le_refl _))).at_ hx
      have HS := Lib.hid hs
      have k0 : (0 : Int) ≤ (id : Int) := by omega
      have k1 : (id : Int) < (ll : Int) := by omega
      have n2 : (e : Int) ≤ (x.start : Int) := by omega
      have e1 : ¬ (x.start : Int) < (e : Int) := by omega
      have HW : Hid (wrap64 ((x.start : Int) + (x.room : Int)) = ((x.start + x.room : Nat) : Int)) := wrap_le (by have := HN.out; omega)
      clear hs a1 a2 a3 a4 a5 a6 hx hf hid hil
      go_wp2_with fail
      go_region
      all_goals
        go_wp2_with fail
        go_roundw
        case rel => exact ⟨k + 1, x.start + x.room, by omega, by go_num, congrArg (Value.int .i64) HW.out, HA.out, by first | exact HS.out | exact HS.out.drewN _ | exact HS.out.drew⟩
        case measure => simp [intOf]; omega
    · have hke : m = k := by omega
      subst hke
      have HS := Lib.hid (hs.after S1.out)
      clear hs ha hk hlt
      go_wp2_with fail
      go_ret
      exact ⟨rfl, HS.out⟩

set_option maxRecDepth 100000 in
set_option maxHeartbeats 4000000 in
/-- A valid pool is valid. -/
theorem isPool_true (p : Pl) (lo hi : Nat) (v : Value) (w : World) (hx : HasP lo hi w v p) (hp : VP p) :
    Calls Try.prog 37 #[v] w (Bool0 true w) := by
  have HX := Lib.hid hx
  have HV := Lib.hid hp
  obtain ⟨b1, b2, vS, vL, rfl, g1, g2⟩ := hx
  obtain ⟨AS, cS, rfl, _, _⟩ := g1
  have G2 := Lib.hid g2
  obtain ⟨AL, cL, rfl, _, _⟩ := g2
  obtain ⟨n, hn⟩ : ∃ n, n = p.1.length := ⟨_, rfl⟩
  obtain ⟨ll, hll⟩ : ∃ n, n = p.2.length := ⟨_, rfl⟩
  have hn256 : (n : Int) ≤ 256 := by have := hp.size; rw [← hn] at this; omega
  have hl16 : (ll : Int) ≤ 16 := by have := hp.most; rw [← hll] at this; omega
  have HNN := Lib.hid hn
  have HLL := Lib.hid hll
  rw [← hn, ← hll] at HX
  rw [← hll] at G2
  rw [← hn, ← hll]
  have X0 := Lib.hid (Bx.new w #[.slice AS n cS, .slice AL ll cL] 45)
  have HS := Lib.hid ((Span.refl 0 0 w).alloc (.cells #[.slice AS n cS, .slice AL ll cL] 45))
  have cx := X0.out.cells
  clear hp hn hll
  go_enter Try.func37, Try.ntmps37
  go_wp2_with fail
  clear cx
  generalize w.alloc (.cells #[.slice AS n cS, .slice AL ll cL] 45) = w0 at *
  go_loopw [18] (fun c wr => ∃ k : Nat, k ≤ ll ∧ c = .int .i64 (k : Int) ∧ Span 0 0 w0 wr) (fun c _ => ll - (intOf c).toNat)
  case atStart => exact ⟨0, Nat.zero_le _, rfl, Span.refl _ _ _⟩
  case round =>
    obtain ⟨k, hk, rfl, hs⟩ := hrel
    by_cases hlt : k < ll
    · obtain ⟨x, hxk⟩ := getElem?_some (xs := p.2) (j := k) (by rw [← HLL.out]; exact hlt)
      obtain ⟨-, hb2, off, rfl, l0, l1, l2, l3⟩ := (G2.out.span (hs.after HS.out) (.inl (Nat.le_refl _))).at_ hxk
      have cx := (X0.out.keep hs).cells
      have HS1 := Lib.hid hs
      have HXK := Lib.hid (show OkL n x from HNN.out ▸ HV.out.ok x (List.mem_of_getElem? hxk))
      have k0 : (0 : Int) ≤ (k : Int) := by omega
      have k1 : (k : Int) < (ll : Int) := by omega
      have h256 : n ≤ 256 := by omega
      have H256 := Lib.hid h256
      obtain ⟨s, c, r, fr⟩ := x
      simp only at l0 l1 l2 l3
      have cl := (Bx.new wr #[.int .i64 (s : Int), .int .i64 (c : Int), .int .i64 (r : Int), .bool fr] 68).cells
      have cy := ((X0.out.keep hs).alloc (.cells #[.int .i64 (s : Int), .int .i64 (c : Int), .int .i64 (r : Int), .bool fr] 68)).cells
      clear hs hxk h256
      go_wp2_with fail
      refine (fitsStore_true ⟨s, c, r, fr⟩ n HXK.out H256.out _).mono ?_
      rintro _ w2 ⟨rfl, s2⟩
      have HS2 := Lib.hid (((HS1.out.alloc (.cells #[.int .i64 (s : Int), .int .i64 (c : Int), .int .i64 (r : Int), .bool fr] 68))).trans s2)
      clear s2 cl cy l0 l1 l2 l3 cx
      go_wp2_with fail
      go_roundw
      case rel => exact ⟨k + 1, by omega, by go_num, HS2.out⟩
      case measure => simp [intOf]; omega
    · have hke : ll = k := by omega
      subst hke
      have cx := (X0.out.keep hs).cells
      have HS1 := Lib.hid (hs.after HS.out)
      clear hs hk hlt
      go_wp2_with fail
      refine (roomsMeet_false p HV.out b2 lo hi _ _ (G2.out.span HS1.out (.inl (Nat.le_refl _)))).mono ?_
      rintro _ w2 ⟨rfl, s2⟩
      have HS2 := Lib.hid (s2.after HS1.out)
      clear s2 cx
      go_wp2_with fail
      go_ret
      exact ⟨rfl, HS2.out⟩

set_option maxRecDepth 100000 in
set_option maxHeartbeats 4000000 in
theorem isLent_any (p : Pl) (id : Nat) (lo hi : Nat) (v : Value) (w : World) (hx : HasP lo hi w v p) (hp : VP p) (hid : id ≤ 4194304) :
    Calls Try.prog 35 #[v, .int .i64 (id : Int)] w (Bool0 (lentAt p id).isSome w) := by
  have HX := Lib.hid hx
  have HV := Lib.hid hp
  obtain ⟨b1, b2, vS, vL, rfl, g1, g2⟩ := hx
  obtain ⟨AS, cS, rfl, _, _⟩ := g1
  have G2 := Lib.hid g2
  obtain ⟨AL, cL, rfl, _, _⟩ := g2
  obtain ⟨n, hn⟩ : ∃ n, n = p.1.length := ⟨_, rfl⟩
  obtain ⟨ll, hll⟩ : ∃ n, n = p.2.length := ⟨_, rfl⟩
  have HLL := Lib.hid hll
  rw [← hn, ← hll] at HX
  rw [← hll] at G2
  rw [← hn, ← hll]
  have X0 := Lib.hid (Bx.new w #[.slice AS n cS, .slice AL ll cL] 45)
  have HS := Lib.hid ((Span.refl 0 0 w).alloc (.cells #[.slice AS n cS, .slice AL ll cL] 45))
  have cx := X0.out.cells
  have i0 : (0 : Int) ≤ (id : Int) := by omega
  clear hp hn hll
  by_cases hlt : id < ll
  · obtain ⟨x, hxk⟩ := getElem?_some (xs := p.2) (j := id) (by rw [← HLL.out]; exact hlt)
    have e : (lentAt p id).isSome = !x.free := by
      unfold lentAt; rw [hxk]; cases hf : x.free <;> simp [hf]
    rw [e]
    have i1 : (id : Int) < (ll : Int) := by omega
    have HXK := Lib.hid hxk
    clear hxk e hlt
    go_enter Try.func35, Try.ntmps35
    go_wp2_with fail
    refine (isPool_true p lo hi _ _ (HX.out.span HS.out (.inl (Nat.le_refl _))) HV.out).mono ?_
    rintro _ w1 ⟨rfl, s1⟩
    have s2 := s1.after HS.out
    obtain ⟨-, hb2, off, rfl, l0, l1, l2, l3⟩ := (G2.out.span s2 (.inl (Nat.le_refl _))).at_ HXK.out
    have cy := (X0.out.keep s1).cells
    have S2 := Lib.hid s2
    clear s1 s2 cx l0 l1 l2 hb2
    go_wp2_with fail
    go_ret
    exact ⟨rfl, S2.out⟩
  · have e : (lentAt p id).isSome = false := by
      unfold lentAt; rw [List.getElem?_eq_none (by rw [← HLL.out]; omega)]; rfl
    rw [e]
    have i1 : ¬ (id : Int) < (ll : Int) := by omega
    clear e hlt
    go_enter Try.func35, Try.ntmps35
    go_wp2_with fail
    refine (isPool_true p lo hi _ _ (HX.out.span HS.out (.inl (Nat.le_refl _))) HV.out).mono ?_
    rintro _ w1 ⟨rfl, s1⟩
    have cy := (X0.out.keep s1).cells
    have S2 := Lib.hid (s1.after HS.out)
    clear s1 cx
    go_wp2_with fail
    go_ret
    exact ⟨rfl, S2.out⟩
end
section
open Go.RowKit

/-- A part of a slice reads as that part. -/
theorem HasS.part {o : Bool} {b off lo hi n c : Nat} {w : World} {S : List Cx} (h : HasS cxV o b lo hi w (.slice (some ⟨b, off, none⟩) n c) S) {s k r : Nat} (h1 : s + k ≤ S.length) (h2 : k ≤ r) (h3 : 0 < S.length) : HasS cxV o b lo hi w (.slice (some ⟨b, off + s, none⟩) k r) ((S.drop s).take k) := by
  obtain ⟨A', cap, e, hcap, hc⟩ := h
  injection e with e1 e2 e3
  obtain ⟨off', e4, g1, g2, g3, g4, g5⟩ := hc h3
  rw [e4] at e1
  injection e1 with e1
  injection e1 with _ e5
  subst e5
  refine ⟨_, r, by rw [part_length h1], by rw [part_length h1]; exact h2, fun hp => ⟨_, rfl, g1, g2, g3, fun j x hj => ?_, fun ho j hj => ?_⟩⟩
  · rw [part_get] at hj
    by_cases hjk : j < k
    · rw [if_pos hjk] at hj
      rw [Nat.add_assoc]
      exact g4 (s + j) x hj
    · rw [if_neg hjk] at hj; cases hj
  · rw [part_length h1] at hj
    rw [Nat.add_assoc]
    exact g5 ho (s + j) (by omega)

set_option maxRecDepth 100000 in
set_option maxHeartbeats 1000000 in
theorem windowIn_any (b off n c : Nat) (x : Ls) (h1 : 1 ≤ x.room) (h2 : x.count ≤ x.room) (h3 : x.start + x.room ≤ n) (h4 : n ≤ c) (h5 : n ≤ 4194304) (w : World) :
    Calls Try.prog 36 #[.slice (some ⟨b, off, none⟩) n c, lsV x] w fun e w' => e = .returned (.slice (some ⟨b, off + x.start, none⟩) x.count x.room) ∧ Span 0 0 w w' := by
  obtain ⟨s, k, r, fr⟩ := x
  unfold lsV
  simp only at h1 h2 h3 ⊢
  have X := Bx.new w #[.int .i64 (s : Int), .int .i64 (k : Int), .int .i64 (r : Int), .bool fr] 68
  have cx := X.cells
  have S := Lib.hid ((Span.refl 0 0 w).alloc (.cells #[.int .i64 (s : Int), .int .i64 (k : Int), .int .i64 (r : Int), .bool fr] 68))
  have hw1 : wrap64 ((s : Int) + (k : Int)) = ((s + k : Nat) : Int) := wrap_le (by omega)
  have hw2 : wrap64 ((s : Int) + (r : Int)) = ((s + r : Nat) : Int) := wrap_le (by omega)
  have i1 : (s : Int) + (r : Int) ≤ (c : Int) := by omega
  have i2 : (k : Int) ≤ (r : Int) := by omega
  have i3 : s < c := by omega
  have i4 : (0 : Int) ≤ (s : Int) := by omega
  have i5 : ¬ s = s + r := by omega
  have i6 : ¬ r = 0 := by omega
  clear X h1 h2 h3 h4 h5
  go_enter Try.func36, Try.ntmps36
  go_wp2_with fail
  go_ret
  exact ⟨by show Ending.returned (.slice (some ⟨b, off + s, none⟩) (s + k - s) (s + r - s)) = _; rw [Nat.add_sub_cancel_left, Nat.add_sub_cancel_left], S.out⟩

/-- A window is given, or none. -/
def WinS (o : Option (List Cx)) (w : World) (e : Ending) (w' : World) : Prop :=
  (match o with
    | some xs => ∃ v b, e = .returned (.tuple #[v, .bool true]) ∧ HasS cxV true b w.heap.size w'.heap.size w' v xs
    | none => e = .returned (.tuple #[.slice none 0 0, .bool false])) ∧ Span 0 0 w w'

set_option maxRecDepth 100000 in
set_option maxHeartbeats 4000000 in
theorem impl_windowOf (p : Pl) (id : Nat) (lo hi : Nat) (v : Value) (w : World) (hx : HasP lo hi w v p) (hp : VP p) (hid : id ≤ 4194304) :
    Calls Try.prog 19 #[v, .int .i64 (id : Int)] w (WinS (winP p id) w) := by
  have HX := Lib.hid hx
  have HV := Lib.hid hp
  obtain ⟨b1, b2, vS, vL, rfl, g1, g2⟩ := hx
  have G1 := Lib.hid g1
  obtain ⟨AS, cS, rfl, hcap, _⟩ := g1
  have G2 := Lib.hid g2
  obtain ⟨AL, cL, rfl, _, _⟩ := g2
  obtain ⟨n, hn⟩ : ∃ n, n = p.1.length := ⟨_, rfl⟩
  obtain ⟨ll, hll⟩ : ∃ n, n = p.2.length := ⟨_, rfl⟩
  have HNN := Lib.hid hn
  have HLL := Lib.hid hll
  have HCAP : Hid (n ≤ cS) := by unfold Hid; omega
  rw [← hn, ← hll] at HX
  rw [← hll] at G2
  rw [← hn] at G1
  rw [← hn, ← hll]
  have X0 := Lib.hid (Bx.new w #[.slice AS n cS, .slice AL ll cL] 45)
  have HS := Lib.hid ((Span.refl 0 0 w).alloc (.cells #[.slice AS n cS, .slice AL ll cL] 45))
  have cx := X0.out.cells
  clear hp hn hll hcap
  go_enter Try.func19, Try.ntmps19
  go_wp2_with fail
  refine (isLent_any p id lo hi _ _ (HX.out.span HS.out (.inl (Nat.le_refl _))) HV.out hid).mono ?_
  rintro _ w1 ⟨rfl, s1⟩
  have X1 := Lib.hid (X0.out.keep s1)
  have S1 := Lib.hid (s1.after HS.out)
  clear s1 cx X0 HS
  cases hl : lentAt p id with
  | none =>
    have HG : Hid (winP p id = none) := by unfold Hid winP; rw [hl]; rfl
    simp only [Option.isSome_none]
    clear hl
    go_wp2_with fail
    go_ret2
    rw [HG.out]
    exact ⟨rfl, S1.out⟩
  | some x =>
    have HG : Hid (winP p id = some ((p.1.drop x.start).take x.count)) := by unfold Hid winP; rw [hl]; rfl
    have HL := Lib.hid (lentAt_some hl)
    have hil : id < ll := by rw [HLL.out]; exact (List.getElem?_eq_some_iff.1 HL.out.1).1
    obtain ⟨o1, o2, o3⟩ := (HV.out.ok _ (List.mem_of_getElem? HL.out.1)).lent HL.out.2
    have hsz := HV.out.size
    obtain ⟨off1, rfl, -⟩ := G1.out.addrS (show 0 < p.1.length by omega)
    have HPT := Lib.hid ((G1.out.span S1.out (.inl (Nat.le_refl _))).part (s := x.start) (k := x.count) (r := x.room) (by omega) o2 (by omega))
    have HWI := Lib.hid (fun w => windowIn_any b1 off1 n cS x o1 o2 (by rw [HNN.out]; exact o3) HCAP.out (by rw [HNN.out]; omega) w)
    have HPL : Hid (((p.1.drop x.start).take x.count).length = x.count ∧ x.count ≤ 4194304) := ⟨part_length (by omega), by omega⟩
    obtain ⟨-, -, off2, rfl, l0, l1, l2, l3⟩ := (G2.out.span S1.out (.inl (Nat.le_refl _))).at_ HL.out.1
    simp only [Option.isSome_some]
    have i0 : (0 : Int) ≤ (id : Int) := by omega
    have i1 : (id : Int) < (ll : Int) := by omega
    have cx := X1.out.cells
    clear hl o1 o2 o3 hsz hil
    obtain ⟨s, c, r, fr⟩ := x
    unfold lsV at HWI
    simp only at l0 l1 l2 l3 HPT HWI HG HPL
    go_wp2_with fail
    go_region_with (first
      | (go_at_call 36; go_loud ((refine (HWI.out _).mono ?_; rintro _ w2 ⟨rfl, s2⟩; have S2 : Hid (Span 0 0 w1 w2) := (by first | exact s2 | exact s2.undrawn' | exact Span.undrawn' (n := 1) s2); clear s2)))
      | (go_at_call 25; go_loud ((refine (cloneC_any ((p.1.drop s).take c) false b1 lo hi _ w2 (HPT.out.span S2.out (.inl (Nat.le_refl _))) (by rw [HPL.out.1]; exact HPL.out.2)).mono ?_; rintro _ w3 ⟨v3, b3, rfl, h3, s3⟩; have H3 := Lib.hid h3; have S3 := Lib.hid ((s3.after S2.out).after S1.out); have Z3 : Hid (w.heap.size ≤ w2.heap.size) := (S2.out.after S1.out).size; clear h3 s3))))
    all_goals
      go_wp2_with fail
      go_ret2
      rw [HG.out]
      exact ⟨⟨v3, b3, rfl, H3.out.weak Z3.out (.inl (Nat.le_refl _))⟩, S3.out⟩
end
section
open Go.RowKit

/-- A window that the call owns, or none. -/
def WinO (o : Option (List Cx)) (w : World) (e : Ending) (w' : World) : Prop :=
  ∃ A q, e = .returned (.tuple #[.slice A (o.getD []).length q, .bool o.isSome]) ∧ w'.ownsRow w.heap.size 35 1 (.slice A (o.getD []).length q) (o.getD []).length ((o.getD []).map cxV) ∧ Span 0 0 w w'

set_option maxRecDepth 100000 in
set_option maxHeartbeats 4000000 in
theorem impl_windowOfO (p : Pl) (id : Nat) (lo hi : Nat) (v : Value) (w : World) (hx : HasP lo hi w v p) (hp : VP p) (hid : id ≤ 4194304) :
    Calls Try.prog 19 #[v, .int .i64 (id : Int)] w (WinO (winP p id) w) := by
  have HX := Lib.hid hx
  have HV := Lib.hid hp
  obtain ⟨b1, b2, vS, vL, rfl, g1, g2⟩ := hx
  have G1 := Lib.hid g1
  obtain ⟨AS, cS, rfl, hcap, _⟩ := g1
  have G2 := Lib.hid g2
  obtain ⟨AL, cL, rfl, _, _⟩ := g2
  obtain ⟨n, hn⟩ : ∃ n, n = p.1.length := ⟨_, rfl⟩
  obtain ⟨ll, hll⟩ : ∃ n, n = p.2.length := ⟨_, rfl⟩
  have HNN := Lib.hid hn
  have HLL := Lib.hid hll
  have HCAP : Hid (n ≤ cS) := by unfold Hid; omega
  rw [← hn, ← hll] at HX
  rw [← hll] at G2
  rw [← hn] at G1
  rw [← hn, ← hll]
  have X0 := Lib.hid (Bx.new w #[.slice AS n cS, .slice AL ll cL] 45)
  have HS := Lib.hid ((Span.refl 0 0 w).alloc (.cells #[.slice AS n cS, .slice AL ll cL] 45))
  have cx := X0.out.cells
  clear hp hn hll hcap
  go_enter Try.func19, Try.ntmps19
  go_wp2_with fail
  refine (isLent_any p id lo hi _ _ (HX.out.span HS.out (.inl (Nat.le_refl _))) HV.out hid).mono ?_
  rintro _ w1 ⟨rfl, s1⟩
  have X1 := Lib.hid (X0.out.keep s1)
  have S1 := Lib.hid (s1.after HS.out)
  clear s1 cx X0 HS
  cases hl : lentAt p id with
  | none =>
    have HG : Hid (winP p id = none) := by unfold Hid winP; rw [hl]; rfl
    simp only [Option.isSome_none]
    clear hl
    go_wp2_with fail
    go_ret2
    rw [HG.out]
    exact ⟨none, 0, rfl, World.ownsRow_nil _ _ _ _, S1.out⟩
  | some x =>
    have HG : Hid (winP p id = some ((p.1.drop x.start).take x.count)) := by unfold Hid winP; rw [hl]; rfl
    have HL := Lib.hid (lentAt_some hl)
    have hil : id < ll := by rw [HLL.out]; exact (List.getElem?_eq_some_iff.1 HL.out.1).1
    obtain ⟨o1, o2, o3⟩ := (HV.out.ok _ (List.mem_of_getElem? HL.out.1)).lent HL.out.2
    have hsz := HV.out.size
    obtain ⟨off1, rfl, -⟩ := G1.out.addrS (show 0 < p.1.length by omega)
    have HPT := Lib.hid ((G1.out.span S1.out (.inl (Nat.le_refl _))).part (s := x.start) (k := x.count) (r := x.room) (by omega) o2 (by omega))
    have HWI := Lib.hid (fun w => windowIn_any b1 off1 n cS x o1 o2 (by rw [HNN.out]; exact o3) HCAP.out (by rw [HNN.out]; omega) w)
    have HPL : Hid (((p.1.drop x.start).take x.count).length = x.count ∧ x.count ≤ 4194304) := ⟨part_length (by omega), by omega⟩
    obtain ⟨-, -, off2, rfl, l0, l1, l2, l3⟩ := (G2.out.span S1.out (.inl (Nat.le_refl _))).at_ HL.out.1
    simp only [Option.isSome_some]
    have i0 : (0 : Int) ≤ (id : Int) := by omega
    have i1 : (id : Int) < (ll : Int) := by omega
    have cx := X1.out.cells
    clear hl o1 o2 o3 hsz hil
    obtain ⟨s, c, r, fr⟩ := x
    unfold lsV at HWI
    simp only at l0 l1 l2 l3 HPT HWI HG HPL
    obtain ⟨xs, hxs⟩ : ∃ xs, xs = (p.1.drop s).take c := ⟨_, rfl⟩
    rw [← hxs] at HPT HG HPL
    clear hxs
    go_wp2_with fail
    go_region_with (first
      | (go_at_call 36; go_loud ((refine (HWI.out _).mono ?_; rintro _ w2 ⟨rfl, s2⟩; have S2 : Hid (Span 0 0 w1 w2) := (by first | exact s2 | exact s2.undrawn' | exact Span.undrawn' (n := 1) s2); clear s2)))
      | (go_at_call 25; go_loud ((refine (cloneC_own xs false b1 lo hi _ w2 (HPT.out.span S2.out (.inl (Nat.le_refl _))) (by rw [HPL.out.1]; exact HPL.out.2)).mono ?_; rintro _ w3 ⟨A3, q3, rfl, h3, s3⟩; have H3 := Lib.hid h3; have S3 := Lib.hid ((s3.after S2.out).after S1.out); have Z3 : Hid (w.heap.size ≤ w2.heap.size) := (S2.out.after S1.out).size; clear h3 s3))))
    all_goals
      go_wp2_with fail
      go_ret2
      rw [HG.out]
      exact ⟨A3, q3, rfl, ownsRow_low H3.out Z3.out, S3.out⟩
end
end Go.Proofs.Ytfafkdpefdpnkaa
