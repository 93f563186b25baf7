/- The program's pools: rooms do not meet; a valid pool is valid. -/
import Derived.Test.YtlhocjoncblocaaJq39
import Derived.Deep.RegionWith
namespace Go.Proofs.Ytlhocjoncblocaa
open Go.RowKit

theorem drop_cons {α : Type} {o : List α} {k : Nat} {x : α} (h : o[k]? = some x) : o.drop k = x :: o.drop (k + 1) := by
  obtain ⟨hk, rfl⟩ := List.getElem?_eq_some_iff.1 h
  exact List.drop_eq_getElem_cons hk

set_option maxRecDepth 100000 in
set_option maxHeartbeats 4000000 in
theorem roomsMeet_false (p : Pl) (hp : VP p) (b lo hi : Nat) (v : Value) (w : World) (hx : HasL b lo hi w v p.2) :
    Calls Try.prog 76 #[v] w (Bool0 false w) := by
  have HX := Lib.hid hx
  have HV := Lib.hid hp
  obtain ⟨AL, cL, rfl, _, _⟩ := hx
  obtain ⟨ll, hll⟩ : ∃ n, n = p.2.length := ⟨_, rfl⟩
  have HLL := Lib.hid hll
  have hl16 : (ll : Int) ≤ 16 := by have := hp.most; rw [← hll] at this; omega
  have hn256 : p.1.length ≤ 256 := hp.size
  have HN := Lib.hid hn256
  rw [← hll] at HX ⊢
  clear hp hll hn256
  go_enter Try.func76, Try.ntmps76
  go_wp2_with fail
  refine (lentInOrder_any p.2 b lo hi _ w HX.out (by rw [← HLL.out]; omega)).mono ?_
  rintro _ w1 ⟨o, v1, b1, rfl, ho, h1, s1⟩
  obtain ⟨A1, c1, rfl, _, _⟩ := id h1
  have HO := Lib.hid ho
  have H1 := Lib.hid h1
  have S1 := Lib.hid s1
  obtain ⟨m, hm⟩ : ∃ m, m = o.length := ⟨_, rfl⟩
  have HM := Lib.hid hm
  have hm16 : m ≤ 16 := by
    rw [hm, ho.perm.length_eq]
    have := List.length_filter_le (fun i => (p.2[i]?).elim false (!·.free)) (List.range p.2.length)
    rw [List.length_range] at this
    have h2 := HV.out.most
    exact Nat.le_trans this h2
  rw [← hm] at H1 ⊢
  clear ho h1 s1 hm
  go_wp2_with fail
  go_loopw [3, 9] (fun ce ck wr => ∃ k e : Nat, k ≤ m ∧ ck = .int .i64 (k : Int) ∧ ce = .int .i64 (e : Int) ∧ Asc e (pickL p.2 (o.drop k)) p.1.length ∧ Span 0 0 w1 wr) (fun _ ck _ => m - (intOf ck).toNat)
  case atStart => exact ⟨0, 0, Nat.zero_le _, rfl, rfl, by rw [List.drop_zero]; exact HV.out.asc HO.out, Span.refl _ _ _⟩
  case round =>
    obtain ⟨k, e, hk, rfl, rfl, ha, hs⟩ := hrel
    by_cases hlt : k < m
    · obtain ⟨id, hid⟩ := getElem?_some (xs := o) (j := k) (by rw [← HM.out]; exact hlt)
      obtain ⟨x, hx, hf⟩ := HO.out.mem.1 (List.mem_of_getElem? hid)
      have hil : id < ll := by rw [HLL.out]; exact (List.getElem?_eq_some_iff.1 hx).1
      rw [drop_cons hid, pickL_cons _ hx] at ha
      obtain ⟨a1, a2, a3, a4, a5⟩ := ha
      have a6 := a5.le
      have HA := Lib.hid a5
      obtain ⟨off1, rfl, _⟩ := H1.out.addrS (by rw [← HM.out]; omega)
      have cid : wr.cell? _ = some (.int .i64 (id : Int)) := (H1.out.span hs (.inl (Nat.le_refl _))).atS hid
      obtain ⟨-, -, off, rfl, l0, l1, l2, l3⟩ := (HX.out.span (S1.out.trans hs) (.inl (Nat.le_refl _))).at_ hx
      have HS := Lib.hid hs
      have k0 : (0 : Int) ≤ (id : Int) := by omega
      have k1 : (id : Int) < (ll : Int) := by omega
      have n2 : (e : Int) ≤ (x.start : Int) := by omega
      have e1 : ¬ (x.start : Int) < (e : Int) := by omega
      have HW : Hid (wrap64 ((x.start : Int) + (x.room : Int)) = ((x.start + x.room : Nat) : Int)) := wrap_le (by have := HN.out; omega)
      clear hs a1 a2 a3 a4 a5 a6 hx hf hid hil
      go_wp2_with fail
      go_region
      all_goals
        go_wp2_with fail
        go_roundw
        case rel => exact ⟨k + 1, x.start + x.room, by omega, by go_num, congrArg (Value.int .i64) HW.out, HA.out, by first | exact HS.out | exact HS.out.drewN _ | exact HS.out.drew⟩
        case measure => simp [intOf]; omega
    · have hke : m = k := by omega
      subst hke
      have HS := Lib.hid (hs.after S1.out)
      clear hs ha hk hlt
      go_wp2_with fail
      go_ret
      exact ⟨rfl, HS.out⟩

set_option maxRecDepth 100000 in
set_option maxHeartbeats 4000000 in
/-- A valid pool is valid. -/
theorem isPool_true (p : Pl) (lo hi : Nat) (v : Value) (w : World) (hx : HasP lo hi w v p) (hp : VP p) :
    Calls Try.prog 43 #[v] w (Bool0 true w) := by
  have HX := Lib.hid hx
  have HV := Lib.hid hp
  obtain ⟨b1, b2, vS, vL, rfl, g1, g2⟩ := hx
  obtain ⟨AS, cS, rfl, _, _⟩ := g1
  have G2 := Lib.hid g2
  obtain ⟨AL, cL, rfl, _, _⟩ := g2
  obtain ⟨n, hn⟩ : ∃ n, n = p.1.length := ⟨_, rfl⟩
  obtain ⟨ll, hll⟩ : ∃ n, n = p.2.length := ⟨_, rfl⟩
  have hn256 : (n : Int) ≤ 256 := by have := hp.size; rw [← hn] at this; omega
  have hl16 : (ll : Int) ≤ 16 := by have := hp.most; rw [← hll] at this; omega
  have HNN := Lib.hid hn
  have HLL := Lib.hid hll
  rw [← hn, ← hll] at HX
  rw [← hll] at G2
  rw [← hn, ← hll]
  have X0 := Lib.hid (Bx.new w #[.slice AS n cS, .slice AL ll cL] 26)
  have HS := Lib.hid ((Span.refl 0 0 w).alloc (.cells #[.slice AS n cS, .slice AL ll cL] 26))
  have cx := X0.out.cells
  clear hp hn hll
  go_enter Try.func43, Try.ntmps43
  go_wp2_with fail
  clear cx
  generalize w.alloc (.cells #[.slice AS n cS, .slice AL ll cL] 26) = w0 at *
  go_loopw [18] (fun c wr => ∃ k : Nat, k ≤ ll ∧ c = .int .i64 (k : Int) ∧ Span 0 0 w0 wr) (fun c _ => ll - (intOf c).toNat)
  case atStart => exact ⟨0, Nat.zero_le _, rfl, Span.refl _ _ _⟩
  case round =>
    obtain ⟨k, hk, rfl, hs⟩ := hrel
    by_cases hlt : k < ll
    · obtain ⟨x, hxk⟩ := getElem?_some (xs := p.2) (j := k) (by rw [← HLL.out]; exact hlt)
      obtain ⟨-, hb2, off, rfl, l0, l1, l2, l3⟩ := (G2.out.span (hs.after HS.out) (.inl (Nat.le_refl _))).at_ hxk
      have cx := (X0.out.keep hs).cells
      have HS1 := Lib.hid hs
      have HXK := Lib.hid (show OkL n x from HNN.out ▸ HV.out.ok x (List.mem_of_getElem? hxk))
      have k0 : (0 : Int) ≤ (k : Int) := by omega
      have k1 : (k : Int) < (ll : Int) := by omega
      have h256 : n ≤ 256 := by omega
      have H256 := Lib.hid h256
      obtain ⟨s, c, r, fr⟩ := x
      simp only at l0 l1 l2 l3
      have cl := (Bx.new wr #[.int .i64 (s : Int), .int .i64 (c : Int), .int .i64 (r : Int), .bool fr] 30).cells
      have cy := ((X0.out.keep hs).alloc (.cells #[.int .i64 (s : Int), .int .i64 (c : Int), .int .i64 (r : Int), .bool fr] 30)).cells
      clear hs hxk h256
      go_wp2_with fail
      refine (fitsStore_true ⟨s, c, r, fr⟩ n HXK.out H256.out _).mono ?_
      rintro _ w2 ⟨rfl, s2⟩
      have HS2 := Lib.hid (((HS1.out.alloc (.cells #[.int .i64 (s : Int), .int .i64 (c : Int), .int .i64 (r : Int), .bool fr] 30))).trans s2)
      clear s2 cl cy l0 l1 l2 l3 cx
      go_wp2_with fail
      go_roundw
      case rel => exact ⟨k + 1, by omega, by go_num, HS2.out⟩
      case measure => simp [intOf]; omega
    · have hke : ll = k := by omega
      subst hke
      have cx := (X0.out.keep hs).cells
      have HS1 := Lib.hid (hs.after HS.out)
      clear hs hk hlt
      go_wp2_with fail
      refine (roomsMeet_false p HV.out b2 lo hi _ _ (G2.out.span HS1.out (.inl (Nat.le_refl _)))).mono ?_
      rintro _ w2 ⟨rfl, s2⟩
      have HS2 := Lib.hid (s2.after HS1.out)
      clear s2 cx
      go_wp2_with fail
      go_ret
      exact ⟨rfl, HS2.out⟩

set_option maxRecDepth 100000 in
set_option maxHeartbeats 4000000 in
theorem isLent_any (p : Pl) (id : Nat) (lo hi : Nat) (v : Value) (w : World) (hx : HasP lo hi w v p) (hp : VP p) (hid : id ≤ 4194304) :
    Calls Try.prog 49 #[v, .int .i64 (id : Int)] w (Bool0 (lentAt p id).isSome w) := by
  have HX := Lib.hid hx
  have HV := Lib.hid hp
  obtain ⟨b1, b2, vS, vL, rfl, g1, g2⟩ := hx
  obtain ⟨AS, cS, rfl, _, _⟩ := g1
  have G2 := Lib.hid g2
  obtain ⟨AL, cL, rfl, _, _⟩ := g2
  obtain ⟨n, hn⟩ : ∃ n, n = p.1.length := ⟨_, rfl⟩
  obtain ⟨ll, hll⟩ : ∃ n, n = p.2.length := ⟨_, rfl⟩
  have HLL := Lib.hid hll
  rw [← hn, ← hll] at HX
  rw [← hll] at G2
  rw [← hn, ← hll]
  have X0 := Lib.hid (Bx.new w #[.slice AS n cS, .slice AL ll cL] 26)
  have HS := Lib.hid ((Span.refl 0 0 w).alloc (.cells #[.slice AS n cS, .slice AL ll cL] 26))
  have cx := X0.out.cells
  have i0 : (0 : Int) ≤ (id : Int) := by omega
  clear hp hn hll
  by_cases hlt : id < ll
  · obtain ⟨x, hxk⟩ := getElem?_some (xs := p.2) (j := id) (by rw [← HLL.out]; exact hlt)
    have e : (lentAt p id).isSome = !x.free := by
      unfold lentAt; rw [hxk]; cases hf : x.free <;> simp [hf]
    rw [e]
    have i1 : (id : Int) < (ll : Int) := by omega
    have HXK := Lib.hid hxk
    clear hxk e hlt
    go_enter Try.func49, Try.ntmps49
    go_wp2_with fail
    refine (isPool_true p lo hi _ _ (HX.out.span HS.out (.inl (Nat.le_refl _))) HV.out).mono ?_
    rintro _ w1 ⟨rfl, s1⟩
    have s2 := s1.after HS.out
    obtain ⟨-, hb2, off, rfl, l0, l1, l2, l3⟩ := (G2.out.span s2 (.inl (Nat.le_refl _))).at_ HXK.out
    have cy := (X0.out.keep s1).cells
    have S2 := Lib.hid s2
    clear s1 s2 cx l0 l1 l2 hb2
    go_wp2_with fail
    go_ret
    exact ⟨rfl, S2.out⟩
  · have e : (lentAt p id).isSome = false := by
      unfold lentAt; rw [List.getElem?_eq_none (by rw [← HLL.out]; omega)]; rfl
    rw [e]
    have i1 : ¬ (id : Int) < (ll : Int) := by omega
    clear e hlt
    go_enter Try.func49, Try.ntmps49
    go_wp2_with fail
    refine (isPool_true p lo hi _ _ (HX.out.span HS.out (.inl (Nat.le_refl _))) HV.out).mono ?_
    rintro _ w1 ⟨rfl, s1⟩
    have cy := (X0.out.keep s1).cells
    have S2 := Lib.hid (s1.after HS.out)
    clear s1 cx
    go_wp2_with fail
    go_ret
    exact ⟨rfl, S2.out⟩
end Go.Proofs.Ytlhocjoncblocaa
