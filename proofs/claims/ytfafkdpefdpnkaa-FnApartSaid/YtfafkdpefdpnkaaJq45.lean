/- The model's pools: is a lease lent; a lease is put in the first free place. -/
import Derived.Test.YtfafkdpefdpnkaaJq40
import Derived.Deep.RegionHeld3
import Derived.Deep.DeepCutAuto
namespace Go.Proofs.Ytfafkdpefdpnkaa
open Go.RowKit

theorem findFree_some {L : List Ls} {k : Nat} {x : Ls} (hk : L[k]? = some x) (hf : x.free = true) (hn : ∀ j y, j < k → L[j]? = some y → y.free = false) : L.findIdx? (·.free) = some k := by
  obtain ⟨h, rfl⟩ := List.getElem?_eq_some_iff.1 hk
  rw [List.findIdx?_eq_some_iff_getElem]
  exact ⟨h, hf, fun j hj => by rw [hn j _ hj (List.getElem?_eq_getElem (by omega))]; simp⟩

theorem findFree_none {L : List Ls} (hn : ∀ j y, j < L.length → L[j]? = some y → y.free = false) : L.findIdx? (·.free) = none := by
  rw [List.findIdx?_eq_none_iff]
  intro y hy
  obtain ⟨j, hj⟩ := List.mem_iff_getElem?.1 hy
  exact hn j y (List.getElem?_eq_some_iff.1 hj).1 hj

set_option maxRecDepth 100000 in
set_option maxHeartbeats 4000000 in
theorem l3Lent_any (p : Pl) (id : Nat) (lo hi : Nat) (v : Value) (w : World) (hx : HasP lo hi w v p) (hp : VP p) (hid : id ≤ 4194304) :
    Calls Try.prog 74 #[v, .int .i64 (id : Int)] w (Bool0 (lentAt p id).isSome w) := by
  have HX := Lib.hid hx
  have HV := Lib.hid hp
  obtain ⟨b1, b2, vS, vL, rfl, g1, g2⟩ := hx
  obtain ⟨AS, cS, rfl, _, _⟩ := g1
  have G2 := Lib.hid g2
  obtain ⟨AL, cL, rfl, _, _⟩ := g2
  obtain ⟨ll, hll⟩ : ∃ n, n = p.2.length := ⟨_, rfl⟩
  have hl16 : (ll : Int) ≤ 16 := by have := hp.most; rw [← hll] at this; omega
  have HLL := Lib.hid hll
  rw [← hll] at HX G2 ⊢
  have X0 := Lib.hid (Box.new w (.slice AS p.1.length cS) (.slice AL ll cL) 45)
  have HS := Lib.hid ((Span.refl 0 0 w).alloc (.cells #[.slice AS p.1.length cS, .slice AL ll cL] 45))
  have i0 : (0 : Int) ≤ (id : Int) := by omega
  clear hp hll
  obtain ⟨_, x0, x1, _, _⟩ := X0.out
  by_cases hlt : id < ll
  · obtain ⟨x, hxk⟩ := getElem?_some (xs := p.2) (j := id) (by rw [← HLL.out]; exact hlt)
    have e : (lentAt p id).isSome = !x.free := by
      unfold lentAt; rw [hxk]; cases hf : x.free <;> simp [hf]
    rw [e]
    have i1 : (id : Int) < (ll : Int) := by omega
    have HXK := Lib.hid hxk
    clear hxk e hlt
    go_enter Try.func74, Try.ntmps74
    go_wp2_with fail
    refine (spec_isPool_true p lo hi _ _ (HX.out.span HS.out (.inl (Nat.le_refl _))) HV.out).mono ?_
    rintro _ w1 ⟨rfl, s1⟩
    have s2 := s1.after HS.out
    obtain ⟨-, hb2, off, rfl, l0, l1, l2, l3⟩ := (G2.out.span s2 (.inl (Nat.le_refl _))).at_ HXK.out
    obtain ⟨_, y0, y1, _, _⟩ := X0.out.span s1 (.inl (Nat.le_refl _))
    have S2 := Lib.hid s2
    clear s1 s2 x0 x1 l0 l1 l2 hb2
    go_wp2_with fail
    go_ret
    exact ⟨rfl, S2.out⟩
  · have e : (lentAt p id).isSome = false := by
      unfold lentAt; rw [List.getElem?_eq_none (by rw [← HLL.out]; omega)]; rfl
    rw [e]
    have i1 : ¬ (id : Int) < (ll : Int) := by omega
    clear e
    go_enter Try.func74, Try.ntmps74
    go_wp2_with fail
    go_ret
    exact ⟨rfl, HS.out⟩

/-- A lease is put, in place. -/
def PutsL (AS : Option Addr) (n cS : Nat) (o : Option (List Ls × Nat)) (B lo hi : Nat) (w : World) (e : Ending) (w' : World) : Prop :=
  (match o with
    | some (L', id) => ∃ A' q', e = .returned (.tuple #[.agg #[.slice AS n cS, .slice A' L'.length q'], .int .i64 (id : Int), .bool true]) ∧ w'.ownsRow B 68 4 (.slice A' L'.length q') L'.length (flat L')
    | none => e = .returned (.tuple #[.agg #[.slice none 0 0, .slice none 0 0], .int .i64 0, .bool false])) ∧ Span lo hi w w'

theorem own_stored4 {w : World} {B g cap : Nat} {e : TypeId} {L : List Ls} (h : w.ownsRow B e 4 (.slice (some ⟨g, 0, none⟩) L.length cap) L.length (flat L)) {k : Nat} (x : Ls) (hk : k < L.length) :
    ((((w.setCell ⟨g, k * 4, none⟩ (.int .i64 (x.start : Int))).setCell ⟨g, k * 4 + 1, none⟩ (.int .i64 (x.count : Int))).setCell ⟨g, k * 4 + 2, none⟩ (.int .i64 (x.room : Int))).setCell ⟨g, k * 4 + 3, none⟩ (.bool x.free)).ownsRow B e 4 (.slice (some ⟨g, 0, none⟩) (L.set k x).length cap) (L.set k x).length (flat (L.set k x)) := by
  rw [flat_set L k x hk, List.length_set]
  exact ((((h.stored _ _).1.stored _ _).1.stored _ _).1.stored _ _).1

theorem ownsRow_setCell_off {w : World} {B : Nat} {e : TypeId} {s : Nat} {v : Value} {n : Nat} {xs : List Value} (h : w.ownsRow B e s v n xs) {a : Addr} (ha : v.ownBlock ≠ some a.block) (u : Value) : (w.setCell a u).ownsRow B e s v n xs := by
  refine ⟨h.1, ?_⟩
  rcases h.2 with h2 | ⟨g, cap, cur, rfl, h1, hg, rest⟩
  · exact .inl h2
  · refine .inr ⟨g, cap, cur, rfl, h1, ?_, rest⟩
    rw [Below.heap_setCell _ _ _ _ (fun e => ha (by simp [Value.ownBlock, e]))]
    exact hg

theorem Box.of_block' {b : Nat} {u v : Value} {w w' : World} (h : Box b u v w) (hb : w'.heap[b]? = w.heap[b]?) : Box b u v w' := by
  obtain ⟨h0, h1, h2, h3, h4⟩ := h
  refine ⟨?_, (World.cell?_of_block (w := w) (a := ⟨b, 0, none⟩) hb).trans h1, (World.cell?_of_block (w := w) (a := ⟨b, 1, none⟩) hb).trans h2, (World.frozen?_of_block (w := w) (a := ⟨b, 0, none⟩) hb).trans h3, (World.frozen?_of_block (w := w) (a := ⟨b, 1, none⟩) hb).trans h4⟩
  rcases Nat.lt_or_ge b w'.heap.size with g | g
  · exact g
  · rw [Array.getElem?_eq_none g, Array.getElem?_eq_getElem h0] at hb; cases hb

theorem box_grown {b : Nat} {u v : Value} {w w5 : World} {o : Obj} {row : Option Nat} (h : Box b u v w) (hg : (w.alloc o).grownBy w5 row) (hr : some b ≠ row) : Box b u v w5 :=
  h.of_block' (by rw [hg.block b (by simp; have := h.1; omega) hr, Below.heap_alloc _ _ _ h.1])

/-- Behind an append to the slice in a box's second cell. -/
theorem put_grown {w w0 w5 : World} {lo hi R B : Nat} {e : TypeId} {s n : Nat} {vL v' u v z z' : Value} {xs : List Value} {o : Obj} (hS : Span lo hi w w0) (hb : ∀ k, vL.ownBlock = some k → (lo ≤ k ∧ k < hi) ∧ k < w.heap.size)
    (X2 : Box w.heap.size u v w0) (X4 : Box R z z' w0) (hR : w.heap.size < R) (hg : (w0.alloc o).grownBy w5 vL.ownBlock) (ho : w5.ownsRow B e s v' n xs) (hat : v'.ownBlock = vL.ownBlock ∨ v'.ownBlock = some (w0.alloc o).heap.size) :
    w5.cell? ⟨w.heap.size, 0, none⟩ = some u ∧ w5.cell? ⟨w.heap.size, 1, none⟩ = some v ∧ w5.frozen? ⟨w.heap.size, 1, none⟩ = false ∧ Box w.heap.size u v' (w5.setCell ⟨w.heap.size, 1, none⟩ v') ∧ Box R z z' (w5.setCell ⟨w.heap.size, 1, none⟩ v') ∧
      (w5.setCell ⟨w.heap.size, 1, none⟩ v').ownsRow B e s v' n xs ∧ Span lo hi w (w5.setCell ⟨w.heap.size, 1, none⟩ v') := by
  have n2 : ∀ k, w.heap.size ≤ k → some k ≠ vL.ownBlock := fun k hk h => by have := (hb k h.symm).2; omega
  have Y2 := box_grown X2 hg (n2 _ (Nat.le_refl _))
  have Y4 := box_grown X4 hg (n2 _ (by omega))
  obtain ⟨y, y0, y1, y2, y3⟩ := id Y2
  have sp : Span w.heap.size (w.heap.size + 1) w5 (w5.setCell ⟨w.heap.size, 1, none⟩ v') := (Span.refl w.heap.size (w.heap.size + 1) w5).setCell (.inl ⟨Nat.le_refl _, Nat.lt_succ_self _⟩) _
  have h2 := X2.1
  refine ⟨y0, y1, y3, ⟨by simpa [World.setCell] using y, (World.cell?_setCell_other _ ⟨w.heap.size, 1, none⟩ ⟨w.heap.size, 0, none⟩ _ (by simp)).trans y0, World.cell?_setCell_same w5 ⟨w.heap.size, 1, none⟩ _ y1, by rw [World.frozen?_setCell]; exact y2, by rw [World.frozen?_setCell]; exact y3⟩,
    Y4.span sp (.inr (.inr hR)), ownsRow_setCell_off ho ?_ _, ((hS.alloc o).grown hg (fun k hk => .inl (hb k hk).1)).setCell (.inr (Nat.le_refl _)) _⟩
  rcases hat with h | h
  · rw [h]; exact (n2 _ (Nat.le_refl _)).symm
  · rw [h]; simp; omega

theorem set4_span (w : World) (b o : Nat) (x : Ls) : Span b (b + 1) w ((((w.setCell ⟨b, o, none⟩ (.int .i64 (x.start : Int))).setCell ⟨b, o + 1, none⟩ (.int .i64 (x.count : Int))).setCell ⟨b, o + 2, none⟩ (.int .i64 (x.room : Int))).setCell ⟨b, o + 3, none⟩ (.bool x.free)) :=
  ((((Span.refl b (b + 1) w).setCell (p := ⟨b, o, none⟩) (.inl ⟨Nat.le_refl _, Nat.lt_succ_self _⟩) _).setCell (p := ⟨b, o + 1, none⟩) (.inl ⟨Nat.le_refl _, Nat.lt_succ_self _⟩) _).setCell (p := ⟨b, o + 2, none⟩) (.inl ⟨Nat.le_refl _, Nat.lt_succ_self _⟩) _).setCell (p := ⟨b, o + 3, none⟩) (.inl ⟨Nat.le_refl _, Nat.lt_succ_self _⟩) _

theorem Span.onto {lo hi b : Nat} {w w0 w1 : World} (h : Span lo hi w w0) (s : Span b (b + 1) w0 w1) (hb : lo ≤ b ∧ b < hi) : Span lo hi w w1 :=
  h.trans (s.wide fun _ _ hk => ⟨by omega, by omega⟩)

set_option maxRecDepth 100000 in
set_option maxHeartbeats 4000000 in
theorem l3Put_own (AS : Option Addr) (n cS : Nat) (L : List Ls) (A : Option Addr) (q : Nat) (x : Ls) (B lo hi : Nat) (w : World) (hL : w.ownsRow B 68 4 (.slice A L.length q) L.length (flat L)) (hB : B ≤ w.heap.size) (hl : L.length ≤ 16)
    (hb : ∀ k, (Value.slice A L.length q).ownBlock = some k → lo ≤ k ∧ k < hi) :
    Calls Try.prog 73 #[.agg #[.slice AS n cS, .slice A L.length q], lsV x] w (PutsL AS n cS (putL L x) B lo hi w) := by
  obtain ⟨il, hil, hzl, hsl, hbl⟩ := info_parts info_lease
  obtain ⟨ll, hll⟩ : ∃ n, n = L.length := ⟨_, rfl⟩
  have HLL := Lib.hid hll
  have HOW := Lib.hid hL
  have HBB := Lib.hid hb
  have HB0 := Lib.hid hB
  rw [← hll] at hl hL ⊢
  have hl16 : (ll : Int) ≤ 16 := by omega
  obtain ⟨s, c, r, fr⟩ := x
  unfold lsV
  simp only
  have X2 := Lib.hid (((Box.new w (.slice AS n cS) (.slice A ll q) 45).alloc (.cells #[.int .i64 (s : Int), .int .i64 (c : Int), .int .i64 (r : Int), .bool fr] 68)).alloc (.cells #[.slice none 0 0, .slice none 0 0] 45))
  have X3 : Hid (LsAt (((w.alloc (.cells #[.slice AS n cS, .slice A ll q] 45)).alloc (.cells #[.int .i64 (s : Int), .int .i64 (c : Int), .int .i64 (r : Int), .bool fr] 68)).alloc (.cells #[.slice none 0 0, .slice none 0 0] 45)) (w.heap.size + 1) 0 ⟨s, c, r, fr⟩) := by
    have := (lsBox (w.alloc (.cells #[.slice AS n cS, .slice A ll q] 45)) ⟨s, c, r, fr⟩ 68).span ((Span.refl 0 0 _).alloc (.cells #[.slice none 0 0, .slice none 0 0] 45)) (.inl (Nat.le_refl _))
    rw [show (w.alloc (.cells #[.slice AS n cS, .slice A ll q] 45)).heap.size = w.heap.size + 1 by simp] at this
    exact this
  have X4 := Lib.hid (Box.new ((w.alloc (.cells #[.slice AS n cS, .slice A ll q] 45)).alloc (.cells #[.int .i64 (s : Int), .int .i64 (c : Int), .int .i64 (r : Int), .bool fr] 68)) (.slice none 0 0) (.slice none 0 0) 45)
  rw [show ((w.alloc (.cells #[.slice AS n cS, .slice A ll q] 45)).alloc (.cells #[.int .i64 (s : Int), .int .i64 (c : Int), .int .i64 (r : Int), .bool fr] 68)).heap.size = w.heap.size + 1 + 1 by simp] at X4
  have HO := Lib.hid (((hL.alloc (.cells #[.slice AS n cS, .slice A ll q] 45)).alloc (.cells #[.int .i64 (s : Int), .int .i64 (c : Int), .int .i64 (r : Int), .bool fr] 68)).alloc (.cells #[.slice none 0 0, .slice none 0 0] 45))
  have HS := Lib.hid ((((Span.refl lo hi w).alloc (.cells #[.slice AS n cS, .slice A ll q] 45)).alloc (.cells #[.int .i64 (s : Int), .int .i64 (c : Int), .int .i64 (r : Int), .bool fr] 68)).alloc (.cells #[.slice none 0 0, .slice none 0 0] 45))
  clear hL hB hb hll hl
  obtain ⟨_, x0, x1, _, _⟩ := X2.out
  go_enter Try.func73, Try.ntmps73
  go_wp2_with fail
  clear x0 x1
  generalize ((w.alloc (.cells #[.slice AS n cS, .slice A ll q] 45)).alloc (.cells #[.int .i64 (s : Int), .int .i64 (c : Int), .int .i64 (r : Int), .bool fr] 68)).alloc (.cells #[.slice none 0 0, .slice none 0 0] 45) = w0 at *
  go_loopw [11] (fun c wr => ∃ k : Nat, k ≤ ll ∧ c = .int .i64 k ∧ (∀ j y, j < k → L[j]? = some y → y.free = false) ∧ w0 = wr) (fun c _ => ll - (intOf c).toNat)
  case atStart => exact ⟨0, Nat.zero_le _, rfl, fun j y hj => absurd hj (by omega), rfl⟩
  case round =>
    obtain ⟨k, hk, rfl, hno, rfl⟩ := hrel
    have HNO := Lib.hid hno
    obtain ⟨_, x0, x1, x2, x3⟩ := X2.out
    clear hno
    by_cases hlt : k < ll
    · obtain ⟨y, hy⟩ := getElem?_some (xs := L) (j := k) (by rw [← HLL.out]; exact hlt)
      obtain ⟨g, cap, hv, hgb, hgl⟩ := HO.out.form (by omega)
      injection hv with e1 e2 e3
      clear e2
      subst e1 e3
      obtain ⟨b, hbl', -, hob⟩ := ownsRow_hasL HO.out
      have hbg : b = g := by
        have := hob (by rw [← HLL.out]; omega)
        simp [Value.ownBlock] at this; exact this.symm
      subst hbg
      obtain ⟨-, hb2, off, e4, l0, l1, l2, l3⟩ := hbl'.at_ hy
      injection e4 with e4
      injection e4 with e4 e5
      subst e5
      simp only [Nat.zero_add] at l0 l1 l2 l3
      clear e4 hob hbl' hb2
      have HY := Lib.hid hy
      have k0 : (0 : Int) ≤ (k : Int) := by omega
      have k1 : (k : Int) < (ll : Int) := by omega
      clear hy
      cases hf : y.free with
      | false =>
        rw [hf] at l3
        have HF := Lib.hid hf
        clear hf
        go_wp2_with fail
        go_roundw
        case rel =>
          refine ⟨k + 1, by omega, by go_num, fun j z hj hz => ?_, by first | rfl | trivial⟩
          by_cases e : j = k
          · subst e; rw [HY.out] at hz; cases hz; exact HF.out
          · exact HNO.out j z (by omega) hz
        case measure => simp [intOf]; omega
      | true =>
        rw [hf] at l3
        have HPU : Hid (putL L ⟨s, c, r, fr⟩ = some (L.set k ⟨s, c, r, fr⟩, k)) := by
          unfold putL; rw [findFree_some HY.out hf HNO.out]; rfl
        obtain ⟨m0, m1, m2, m3⟩ := X3.out
        simp only [Nat.zero_add] at m0 m1 m2 m3
        have f0 := HO.out.frozenAt (k * 4)
        have f1 := HO.out.frozenAt (k * 4 + 1)
        have f2 := HO.out.frozenAt (k * 4 + 2)
        have f3 := HO.out.frozenAt (k * 4 + 3)
        clear hf
        have hbw : b < w.heap.size := (HOW.out.lt b rfl).2
        have HBW := Lib.hid hbw
        have HLH := Lib.hid (HBB.out b rfl)
        go_upto_region 6 with fail
        clear m0 m1 m2 m3 f0 f1 f2 f3 l0 l1 l2 l3 x0 x1 x2 x3
        obtain ⟨wS, hwS⟩ : ∃ wS, wS = (((w0.setCell ⟨b, k * 4, none⟩ (.int .i64 (s : Int))).setCell ⟨b, k * 4 + 1, none⟩ (.int .i64 (c : Int))).setCell ⟨b, k * 4 + 2, none⟩ (.int .i64 (r : Int))).setCell ⟨b, k * 4 + 3, none⟩ (.bool fr) := ⟨_, rfl⟩
        rw [← hwS]
        have sp : Span b (b + 1) w0 wS := by rw [hwS]; exact set4_span w0 b (k * 4) ⟨s, c, r, fr⟩
        have HOS : Hid (wS.ownsRow B 68 4 (.slice (some ⟨b, 0, none⟩) (L.set k ⟨s, c, r, fr⟩).length q) (L.set k ⟨s, c, r, fr⟩).length (flat (L.set k ⟨s, c, r, fr⟩))) := by
          rw [hwS]
          have h0 := HO.out
          rw [HLL.out] at h0
          exact own_stored4 h0 ⟨s, c, r, fr⟩ (by rw [← HLL.out]; exact hlt)
        have Y2 := Lib.hid (X2.out.span sp (.inr (.inr HBW.out)))
        have Y4 := Lib.hid (X4.out.span sp (.inr (.inr (by have := HBW.out; omega))))
        have YS := Lib.hid (HS.out.onto sp HLH.out)
        have HSL : Hid ((L.set k ⟨s, c, r, fr⟩).length = ll) := by unfold Hid; rw [List.length_set]; exact HLL.out.symm
        clear hwS sp
        obtain ⟨_, x0, x1, _, _⟩ := Y2.out
        obtain ⟨_, y0, y1, y2, y3⟩ := Y4.out
        have HB := Lib.hid (box_stored (u' := .slice AS n cS) (v' := .slice (some ⟨b, 0, none⟩) ll q) Y4.out)
        have HSF := Lib.hid ((YS.out.setCell (p := ⟨w.heap.size + 1 + 1, 0, none⟩) (.inr (by simp only; omega)) (.slice AS n cS)).setCell (p := ⟨w.heap.size + 1 + 1, 1, none⟩) (.inr (by simp only; omega)) (.slice (some ⟨b, 0, none⟩) ll q))
        have HOF := Lib.hid (ownsRow_setCell_off (ownsRow_setCell_off HOS.out (a := ⟨w.heap.size + 1 + 1, 0, none⟩) (by simp [Value.ownBlock]; have := HBW.out; omega) (.slice AS n cS)) (a := ⟨w.heap.size + 1 + 1, 1, none⟩) (by simp [Value.ownBlock]; have := HBW.out; omega) (.slice (some ⟨b, 0, none⟩) ll q))
        go_wp2_with fail
        refine bodyPost_ret (v := .tuple #[.agg #[.slice AS n cS, .slice (some ⟨b, 0, none⟩) ll q], .int .i64 (k : Int), .bool true]) (by simp [results, Try.results73, go_sem, HB.out.1, HB.out.2]) rfl ?_
        rw [HPU.out]
        exact ⟨⟨_, q, by rw [HSL.out], HOF.out⟩, HSF.out⟩
    · have hke : ll = k := by omega
      subst hke
      have hnone : L.findIdx? (·.free) = none := findFree_none (by rw [← HLL.out]; exact HNO.out)
      obtain ⟨_, y0, y1, y2, y3⟩ := X4.out
      clear hk hlt
      by_cases h16 : ll = 16
      · have HPU : Hid (putL L ⟨s, c, r, fr⟩ = none) := by
          unfold Hid putL; rw [hnone]; simp only []; rw [if_neg (by rw [← HLL.out]; omega)]
        have h16' : (ll : Int) = 16 := by omega
        have HB := Lib.hid (box_stored (u' := .slice none 0 0) (v' := .slice none 0 0) X4.out)
        have HSF := Lib.hid ((HS.out.setCell (p := ⟨w.heap.size + 1 + 1, 0, none⟩) (.inr (by simp only; omega)) (.slice none 0 0)).setCell (p := ⟨w.heap.size + 1 + 1, 1, none⟩) (.inr (by simp only; omega)) (.slice none 0 0))
        clear hnone h16
        go_wp2_with fail
        refine bodyPost_ret (v := .tuple #[.agg #[.slice none 0 0, .slice none 0 0], .int .i64 0, .bool false]) (by simp [results, Try.results73, go_sem, HB.out.1, HB.out.2]) rfl ?_
        rw [HPU.out]
        exact ⟨rfl, HSF.out⟩
      · have HPU : Hid (putL L ⟨s, c, r, fr⟩ = some (L ++ [⟨s, c, r, fr⟩], ll)) := by
          unfold Hid putL; rw [hnone]; simp only []; rw [if_pos (by rw [← HLL.out]; omega), ← HLL.out]
        have h16' : ¬ (ll : Int) = 16 := by omega
        have HL16 : Hid (ll < 16) := by unfold Hid; omega
        obtain ⟨m0, m1, m2, m3⟩ := X3.out
        simp only [Nat.zero_add] at m0 m1 m2 m3
        clear hnone h16
        go_upto_region 10 with fail
        go_wp2_with (first
          | (at_builtin; refine wpList_append_own_at _ rfl _ _ 43 rfl B 68 il (.agg #[.int .i64 0, .int .i64 0, .int .i64 0, .bool false]) 4 32 Try.underlying43 hil hzl hsl hbl rfl (by decide) _ _ _ rfl (HO.out.alloc _) ⟨w0.heap.size, 0, none⟩ 1 1 (lsC ⟨s, c, r, fr⟩) rfl rfl ?c1 ?c2 ?c3 ?c4 ?c5 ?_; (case c1 => exact World.news_of_block (heap_alloc_new _ _)); (case c2 => exact fun u hu => flat_one' (L := [⟨s, c, r, fr⟩]) u (by rw [flat_one]; exact hu)); (case c3 => have := HL16.out; unfold maxLen; omega); (case c4 => have := HL16.out; omega); (case c5 => have := HB0.out; have := HS.out.size; simp; omega); intro v1 w5 ho hgr _ hat; obtain ⟨A3, q3, rfl⟩ := ownsRow_slice ho; obtain ⟨d0, d1, d2, D2, D4, DO, DS⟩ := put_grown HS.out (fun k hk => ⟨HBB.out k (by rw [← HLL.out]; exact hk), (HOW.out.lt k (by rw [← HLL.out]; exact hk)).2⟩) X2.out X4.out (by omega) hgr ho hat; have HD2 := Lib.hid D2; have HD4 := Lib.hid D4; have HDO := Lib.hid DO; have HDS := Lib.hid DS; have HNE : Hid ((Value.slice A3 (ll + 1) q3).ownBlock ≠ some (w.heap.size + 1 + 1)) := (by unfold Hid; rcases hat with h | h; (rw [h]; intro hh; have := (HOW.out.lt _ (by rw [← HLL.out]; exact hh)).2; omega); (rw [h]; have h4 := X4.out.1; simp; omega)); clear D2 D4 DO DS ho hgr hat))
        clear d0 d1 d2 m0 m1 m2 m3 y0 y1 y2 y3 x0 x1 x2 x3
        obtain ⟨m1, hm1⟩ : ∃ m1, m1 = ll + 1 := ⟨_, rfl⟩
        rw [← hm1] at HD2 HD4 HDO HDS HNE
        rw [← hm1]
        have HM1 := Lib.hid hm1
        have hw : IntKind.i64.wrap ((m1 : Int) - 1) = (m1 : Int) - 1 := IntWalk.i64_in _ (by omega)
        have HSL : Hid ((L ++ [(⟨s, c, r, fr⟩ : Ls)]).length = m1) := by unfold Hid; rw [List.length_append, ← HLL.out]; exact hm1.symm
        have HVV : Hid ((m1 : Int) - 1 = (ll : Int)) := by unfold Hid; omega
        clear hm1
        obtain ⟨_, d0, d1, _, _⟩ := HD2.out
        obtain ⟨_, e0, e1, e2, e3⟩ := HD4.out
        have HB := Lib.hid (box_stored (u' := .slice AS n cS) (v' := .slice A3 m1 q3) HD4.out)
        generalize hwT : w5.setCell ⟨w.heap.size, 1, none⟩ (.slice A3 m1 q3) = wT at *
        clear hwT
        have HSF := Lib.hid ((HDS.out.setCell (p := ⟨w.heap.size + 1 + 1, 0, none⟩) (.inr (by simp only; omega)) (.slice AS n cS)).setCell (p := ⟨w.heap.size + 1 + 1, 1, none⟩) (.inr (by simp only; omega)) (.slice A3 m1 q3))
        have sp : Span (w.heap.size + 1 + 1) (w.heap.size + 1 + 1 + 1) wT ((wT.setCell ⟨w.heap.size + 1 + 1, 0, none⟩ (.slice AS n cS)).setCell ⟨w.heap.size + 1 + 1, 1, none⟩ (.slice A3 m1 q3)) := ((Span.refl _ _ wT).setCell (p := ⟨w.heap.size + 1 + 1, 0, none⟩) (.inl ⟨Nat.le_refl _, Nat.lt_succ_self _⟩) _).setCell (p := ⟨w.heap.size + 1 + 1, 1, none⟩) (.inl ⟨Nat.le_refl _, Nat.lt_succ_self _⟩) _
        obtain ⟨_, z0, z1, _, _⟩ := HD2.out.span sp (.inr (.inl (by omega)))
        have HOF := Lib.hid (ownsRow_setCell_off (ownsRow_setCell_off HDO.out (a := ⟨w.heap.size + 1 + 1, 0, none⟩) HNE.out (.slice AS n cS)) (a := ⟨w.heap.size + 1 + 1, 1, none⟩) HNE.out (.slice A3 m1 q3))
        clear sp
        go_region_held3 (fun w' => w'.cell? ⟨w.heap.size, 0, none⟩ = some (.slice AS n cS) ∧ w'.cell? ⟨w.heap.size, 1, none⟩ = some (.slice A3 m1 q3))
          (first
            | exact ⟨d0, d1⟩
            | exact ⟨z0, z1⟩)
          ((fail))
        all_goals
          go_wp2_with fail
          refine bodyPost_ret (v := .tuple #[.agg #[.slice AS n cS, .slice A3 m1 q3], .int .i64 ((m1 : Int) - 1), .bool true]) (by simp [results, Try.results73, go_sem, HB.out.1, HB.out.2]) rfl ?_
          rw [HPU.out]
          refine ⟨⟨A3, q3, by rw [HSL.out, HVV.out], ?_⟩, HSF.out.drewN 1⟩
          rw [HSL.out, flat_append, flat_one]
          exact HOF.out.drew
end Go.Proofs.Ytfafkdpefdpnkaa
