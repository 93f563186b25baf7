/- The program's pools: the gaps between the rooms. -/
import Derived.Test.YtlhocjoncblocaaJq40
namespace Go.Proofs.Ytlhocjoncblocaa
open Go.RowKit

/-- A gap's cells. -/
def gC (g : Nat × Nat) : List Value := [.int .i64 (g.1 : Int), .int .i64 (g.2 : Int)]
def flatG (G : List (Nat × Nat)) : List Value := G.flatMap gC
theorem flatG_cons (g : Nat × Nat) (G : List (Nat × Nat)) : flatG (g :: G) = gC g ++ flatG G := rfl
theorem flatG_append (G H : List (Nat × Nat)) : flatG (G ++ H) = flatG G ++ flatG H := List.flatMap_append
theorem flatG_one (g : Nat × Nat) : flatG [g] = gC g := by unfold flatG; simp
theorem flatG_length : ∀ G : List (Nat × Nat), (flatG G).length = G.length * 2
  | [] => rfl
  | x :: L => by rw [flatG_cons, List.length_append, flatG_length L, List.length_cons]; show 2 + _ = _; omega
theorem flatG_get : ∀ (L : List (Nat × Nat)) (j : Nat) (x : Nat × Nat) (i : Nat), L[j]? = some x → i < 2 → (flatG L)[j * 2 + i]? = (gC x)[i]?
  | [], j, x, i, h, _ => by simp at h
  | y :: L, 0, x, i, h, hi => by
    simp at h; subst h
    rw [flatG_cons, Nat.zero_mul, Nat.zero_add, List.getElem?_append_left (by show i < 2; exact hi)]
  | y :: L, j + 1, x, i, h, hi => by
    simp at h
    have := flatG_get L j x i h hi
    rw [flatG_cons, List.getElem?_append_right (by show 2 ≤ _; omega), show (j + 1) * 2 + i - (gC y).length = j * 2 + i by show (j + 1) * 2 + i - 2 = _; omega]
    exact this
theorem gC_one (g : Nat × Nat) (u : Value) (h : u ∈ gC g) : u.oneCell' = true := by
  unfold gC at h
  simp only [List.mem_cons, List.not_mem_nil, or_false] at h
  rcases h with rfl | rfl <;> rfl

theorem info_gap : (Try.prog.info? 76).map (fun i => (i.zero, i.size, i.bytes)) = some (some (.agg #[.int .i64 0, .int .i64 0]), 2, 16) := by kernel_rfl

/-- A gap that is read. -/
theorem ownsG_at {w : World} {B : Nat} {e : TypeId} {A : Option Addr} {n q : Nat} {G : List (Nat × Nat)} (h : w.ownsRow B e 2 (.slice A n q) n (flatG G)) {k : Nat} {g : Nat × Nat} (hk : G[k]? = some g) :
    n = G.length ∧ ∃ b, A = some ⟨b, 0, none⟩ ∧ b < w.heap.size ∧ w.cell? ⟨b, k * 2, none⟩ = some (.int .i64 (g.1 : Int)) ∧ w.cell? ⟨b, k * 2 + 1, none⟩ = some (.int .i64 (g.2 : Int)) := by
  have hkl := (List.getElem?_eq_some_iff.1 hk).1
  obtain ⟨hl, h2⟩ := id h
  rw [flatG_length] at hl
  have hn : n = G.length := by omega
  obtain ⟨b, cap, hv, h4, h5⟩ := h.form (by omega)
  injection hv with e1 e2 e3
  subst e1
  have c : ∀ i, i < 2 → w.cell? ⟨b, k * 2 + i, none⟩ = (gC g)[i]? := by
    intro i hi
    have hg := flatG_get G k g i hk hi
    rcases h2 with ⟨h0, _⟩ | ⟨g', cap', cur, hv', hb, hh, hnc, hm, hc, ht⟩
    · cases h0
    · injection hv' with f1 f2 f3
      injection f1 with f1
      injection f1 with f1
      subst f1
      rw [← ht, List.getElem?_take_of_lt (by omega)] at hg
      unfold World.cell?
      simp only [hh]
      rw [← hg]
      simp
  exact ⟨hn, b, rfl, (h.lt b rfl).2, c 0 (by omega), c 1 (by omega)⟩

/-- The gaps are given, in memory of the call's own. -/
def GapsS (p : Pl) (w : World) (e : Ending) (w' : World) : Prop :=
  ∃ o G A q, IsOrd p.2 o ∧ G = gapsX 0 (pickL p.2 o) p.1.length ∧ e = .returned (.slice A G.length q) ∧ w'.ownsRow w.heap.size 76 2 (.slice A G.length q) G.length (flatG G) ∧ Span 0 0 w w'

theorem gapsX_length : ∀ (X : List Ls) (e n : Nat), (gapsX e X n).length = X.length + 1
  | [], _, _ => rfl
  | x :: X, e, n => by rw [gapsX, List.length_cons, gapsX_length X, List.length_cons]

set_option maxRecDepth 100000 in
set_option maxHeartbeats 4000000 in
theorem gapsOf_valid (p : Pl) (lo hi : Nat) (v : Value) (w : World) (hx : HasP lo hi w v p) (hp : VP p) :
    Calls Try.prog 46 #[v] w (GapsS p w) := by
  obtain ⟨il, hil, hzl, hsl, hbl⟩ := info_parts info_gap
  have HX := Lib.hid hx
  have HV := Lib.hid hp
  obtain ⟨b1, b2, vS, vL, rfl, g1, g2⟩ := hx
  obtain ⟨AS, cS, rfl, _, _⟩ := g1
  have G2 := Lib.hid g2
  obtain ⟨AL, cL, rfl, _, _⟩ := g2
  obtain ⟨n, hn⟩ : ∃ n, n = p.1.length := ⟨_, rfl⟩
  obtain ⟨ll, hll⟩ : ∃ n, n = p.2.length := ⟨_, rfl⟩
  have hn256 : (n : Int) ≤ 256 := by have := hp.size; rw [← hn] at this; omega
  have hl16 : (ll : Int) ≤ 16 := by have := hp.most; rw [← hll] at this; omega
  have HNN := Lib.hid hn
  have HLL := Lib.hid hll
  have H16 : Hid (ll ≤ 16 ∧ n ≤ 256) := ⟨by omega, by omega⟩
  rw [← hn, ← hll] at HX
  rw [← hll] at G2
  unfold GapsS
  rw [← hn, ← hll]
  have X0 := Lib.hid (Bx.new w #[.slice AS n cS, .slice AL ll cL] 26)
  have HS := Lib.hid ((Span.refl 0 0 w).alloc (.cells #[.slice AS n cS, .slice AL ll cL] 26))
  have cx := X0.out.cells
  clear hp hn hll
  go_enter Try.func46, Try.ntmps46
  go_wp2_with fail
  refine (lentInOrder_any p.2 b2 lo hi _ _ (G2.out.span HS.out (.inl (Nat.le_refl _))) (by rw [← HLL.out]; omega)).mono ?_
  rintro _ w1 ⟨o, v1, b3, rfl, ho, h1, s1⟩
  obtain ⟨A1, c1, rfl, _, _⟩ := id h1
  have HO := Lib.hid ho
  have H1 := Lib.hid h1
  have X1 := Lib.hid (X0.out.keep s1)
  have S1 := Lib.hid (s1.after HS.out)
  obtain ⟨m, hm⟩ : ∃ m, m = o.length := ⟨_, rfl⟩
  have HM := Lib.hid hm
  have hm16 : m ≤ 16 := by
    rw [hm, ho.perm.length_eq]
    have := List.length_filter_le (fun i => (p.2[i]?).elim false (!·.free)) (List.range p.2.length)
    rw [List.length_range] at this
    have h2 := HV.out.most
    exact Nat.le_trans this h2
  have HM16 := Lib.hid hm16
  rw [← hm] at H1 ⊢
  obtain ⟨GX, hGX⟩ : ∃ G, G = gapsX 0 (pickL p.2 o) n := ⟨_, rfl⟩
  have HGX := Lib.hid hGX
  have HA0 := Lib.hid (show Asc 0 (pickL p.2 o) n from HNN.out ▸ HV.out.asc HO.out)
  clear ho h1 s1 hm hGX cx
  go_wp2_with fail
  go_loopw [3, 4, 12] (fun cg ce ck wr => ∃ (k e : Nat) (A : Option Addr) (q : Nat) (G0 : List (Nat × Nat)), k ≤ m ∧ ck = .int .i64 (k : Int) ∧ ce = .int .i64 (e : Int) ∧ cg = .slice A k q ∧ G0.length = k ∧ G0 ++ gapsX e (pickL p.2 (o.drop k)) n = GX ∧ Asc e (pickL p.2 (o.drop k)) n ∧ wr.ownsRow w1.heap.size 76 2 (.slice A k q) k (flatG G0) ∧ Span 0 0 w1 wr) (fun _ _ ck _ => m - (intOf ck).toNat)
  case atStart => exact ⟨0, 0, none, 0, [], Nat.zero_le _, rfl, rfl, rfl, rfl, by rw [List.drop_zero]; exact HGX.out.symm, by rw [List.drop_zero]; exact HA0.out, World.ownsRow_nil _ _ _ _, Span.refl _ _ _⟩
  case round =>
    obtain ⟨k, e, A, q, G0, hk, rfl, rfl, rfl, hl0, hgx, ha, hown, hs⟩ := hrel
    have HOW := Lib.hid hown
    have HG0 := Lib.hid hl0
    have HSR := Lib.hid hs
    have XR := Lib.hid (X1.out.keep hs)
    have cx := XR.out.cells
    by_cases hlt : k < m
    · obtain ⟨id, hid⟩ := getElem?_some (xs := o) (j := k) (by rw [← HM.out]; exact hlt)
      obtain ⟨x, hx, hf⟩ := HO.out.mem.1 (List.mem_of_getElem? hid)
      have hil2 : id < ll := by rw [HLL.out]; exact (List.getElem?_eq_some_iff.1 hx).1
      rw [drop_cons hid, pickL_cons _ hx] at ha hgx
      obtain ⟨a1, a2, a3, a4, a5⟩ := ha
      have a6 := a5.le
      have HA := Lib.hid a5
      have HGR := Lib.hid hgx
      obtain ⟨off1, rfl, _⟩ := H1.out.addrS (by rw [← HM.out]; omega)
      have cid : wr.cell? _ = some (.int .i64 (id : Int)) := (H1.out.span hs (.inl (Nat.le_refl _))).atS hid
      obtain ⟨-, -, off, rfl, l0, l1, l2, l3⟩ := (G2.out.span (S1.out.trans hs) (.inl (Nat.le_refl _))).at_ hx
      have k0 : (0 : Int) ≤ (id : Int) := by omega
      have k1 : (id : Int) < (ll : Int) := by omega
      have n2 : (e : Int) ≤ (x.start : Int) := by omega
      have HW : Hid (wrap64 ((x.start : Int) + (x.room : Int)) = ((x.start + x.room : Nat) : Int)) := wrap_le (by have := H16.out; omega)
      have HW2 : Hid (wrap64 ((x.start : Int) - (e : Int)) = ((x.start - e : Nat) : Int)) := wrap_sub a1 (by have := H16.out; omega)
      have HKM : Hid (k < m) := hlt
      obtain ⟨s, c, r, fr⟩ := x
      simp only at l0 l1 l2 l3 HW HW2 HA HGR n2
      have cl := (Bx.new wr #[.int .i64 (s : Int), .int .i64 (c : Int), .int .i64 (r : Int), .bool fr] 30).cells
      have HL := Lib.hid (Bx.new wr #[.int .i64 (s : Int), .int .i64 (c : Int), .int .i64 (r : Int), .bool fr] 30)
      have HOW2 := Lib.hid (HOW.out.alloc (.cells #[.int .i64 (s : Int), .int .i64 (c : Int), .int .i64 (r : Int), .bool fr] 30))
      have HSR2 := Lib.hid (HSR.out.alloc (.cells #[.int .i64 (s : Int), .int .i64 (c : Int), .int .i64 (r : Int), .bool fr] 30))
      clear hs a1 a2 a3 a4 a5 a6 hx hf hid hil2 hown hl0 hgx
      go_upto_region 7 with fail
      clear l0 l1 l2 l3 cid cl cx
      obtain ⟨N, hN⟩ : ∃ N, N = wr.heap.size := ⟨_, rfl⟩
      rw [← hN] at HL ⊢
      generalize wr.alloc (.cells #[.int .i64 (s : Int), .int .i64 (c : Int), .int .i64 (r : Int), .bool fr] 30) = w2 at *
      have cl := HL.out.cells
      have HN2 : Hid (N < w2.heap.size) := HL.out.1
      have HB1 : Hid (w1.heap.size ≤ N) := by unfold Hid; rw [hN]; exact HSR.out.size
      have HLT : Hid (∀ j, (Value.slice A k q).ownBlock = some j → j < N) := fun j hj => by rw [hN]; exact (HOW.out.lt j hj).2
      clear hN
      go_wp2_with (first
        | (at_builtin; go_loud (refine wpList_append_own_at _ rfl _ _ 73 rfl w1.heap.size 76 il (.agg #[.int .i64 0, .int .i64 0]) 2 16 Try.underlying73 hil hzl hsl hbl rfl (by decide) _ _ _ rfl (HOW2.out.alloc _) ⟨w2.heap.size, 0, none⟩ 1 1 (gC (e, s - e)) rfl rfl ?c1 ?c2 ?c3 ?c4 ?c5 ?_; (case c1 => unfold gC; simp only; rw [← HW2.out]; exact World.news_of_block (heap_alloc_new _ _)); (case c2 => exact fun u hu => gC_one _ u hu); (case c3 => have := HM16.out; have := HKM.out; unfold maxLen; omega); (case c4 => have := HM16.out; have := HKM.out; omega); (case c5 => have := HB1.out; have := HN2.out; simp; omega); intro v1 w5 ho hgr _ hat; obtain ⟨A3, q3, rfl⟩ := ownsRow_slice ho; have HO5 := Lib.hid ho; have HSW := Lib.hid ((HSR2.out.alloc (.cells #[.int .i64 (e : Int), .int .i64 (wrap64 ((s : Int) - (e : Int)))] 76)).grown hgr (fun j hj => .inr (HOW2.out.lt j hj).1)); have HLW := Lib.hid ((HL.out.alloc (.cells #[.int .i64 (e : Int), .int .i64 (wrap64 ((s : Int) - (e : Int)))] 76)).grownO hgr (fun hh => by have := HLT.out N hh.symm; omega)); have cl5 := HLW.out.cells; clear ho hgr hat)))
      clear cl
      have HSZ : Hid (flatG G0 ++ gC (e, s - e) = flatG (G0 ++ [(e, s - e)])) := by unfold Hid; rw [flatG_append, flatG_one]
      rw [HSZ.out] at HO5
      clear HSZ
      go_wp2_with fail
      go_roundw
      case rel => exact ⟨k + 1, s + r, A3, q3, G0 ++ [(e, s - e)], HKM.out, by go_num, congrArg (Value.int .i64) HW.out, rfl, by rw [List.length_append, HG0.out]; rfl, by rw [List.append_assoc]; exact HGR.out, HA.out, HO5.out, HSW.out⟩
      case measure => have := HKM.out; simp [intOf]; omega
    · have hke : m = k := by omega
      subst hke
      rw [List.drop_eq_nil_of_le (by rw [← HM.out]; exact Nat.le_refl _)] at hgx ha
      have hen : e ≤ n := ha
      have HGR : Hid (G0 ++ [(e, n - e)] = GX) := hgx
      have HW2 : Hid (wrap64 ((n : Int) - (e : Int)) = ((n - e : Nat) : Int)) := wrap_sub hen (by have := H16.out; omega)
      clear hk hl0 hgx ha hown hs hen hlt
      go_wp2_with (first
        | (at_builtin; go_loud (refine wpList_append_own_at _ rfl _ _ 73 rfl w1.heap.size 76 il (.agg #[.int .i64 0, .int .i64 0]) 2 16 Try.underlying73 hil hzl hsl hbl rfl (by decide) _ _ _ rfl (HOW.out.alloc _) ⟨wr.heap.size, 0, none⟩ 1 1 (gC (e, n - e)) rfl rfl ?c1 ?c2 ?c3 ?c4 ?c5 ?_; (case c1 => unfold gC; simp only; rw [← HW2.out]; exact World.news_of_block (heap_alloc_new _ _)); (case c2 => exact fun u hu => gC_one _ u hu); (case c3 => have := HM16.out; unfold maxLen; omega); (case c4 => have := HM16.out; omega); (case c5 => have := HSR.out.size; simp; omega); intro v1 w5 ho hgr _ hat; obtain ⟨A3, q3, rfl⟩ := ownsRow_slice ho; have HO5 := Lib.hid ho; have HSW := Lib.hid (((HSR.out.alloc (.cells #[.int .i64 (e : Int), .int .i64 (wrap64 ((n : Int) - (e : Int)))] 76)).grown hgr (fun j hj => .inr (HOW.out.lt j hj).1)).after S1.out); clear ho hgr hat)))
      have HSZ : Hid (flatG G0 ++ gC (e, n - e) = flatG GX) := by unfold Hid; rw [← HGR.out, flatG_append, flatG_one]
      have HLN : Hid (GX.length = m + 1) := by unfold Hid; rw [← HGR.out, List.length_append, HG0.out]; rfl
      go_ret
      refine ⟨o, GX, A3, q3, HO.out, HGX.out, by rw [HLN.out]; rfl, ?_, HSW.out⟩
      rw [HLN.out, ← HSZ.out]
      exact ownsRow_lower HO5.out S1.out.size
end Go.Proofs.Ytlhocjoncblocaa
