/- The program's pools: the lent leases in order. -/
import Derived.Test.YtfafkdpefdpnkaaJq41
import Derived.Test.YtfafkdpefdpnkaaSh3
import Derived.BigQuiet
namespace Go.Proofs.Ytfafkdpefdpnkaa
open Go.RowKit Go.Sort

theorem HasS.addrS {α : Type} {val : α → Value} {o : Bool} {b lo hi n c : Nat} {w : World} {A : Option Addr} {xs : List α} (h : HasS val o b lo hi w (.slice A n c) xs) (hp : 0 < xs.length) : ∃ off, A = some ⟨b, off, none⟩ ∧ lo ≤ b ∧ b < hi ∧ b < w.heap.size := by
  obtain ⟨A', cap, e, _, hc⟩ := h
  injection e with e1 e2 e3
  obtain ⟨off, e4, h1, h2, h3, _⟩ := hc hp
  exact ⟨off, e1.trans e4, h1, h2, h3⟩
theorem HasS.atS {α : Type} {val : α → Value} {o : Bool} {b off lo hi n c j : Nat} {w : World} {xs : List α} {x : α} (h : HasS val o b lo hi w (.slice (some ⟨b, off, none⟩) n c) xs) (hj : xs[j]? = some x) : w.cell? ⟨b, off + j, none⟩ = some (val x) := by
  obtain ⟨A', cap, e, _, hc⟩ := h
  injection e with e1 e2 e3
  obtain ⟨off', e4, _, _, _, h4, _⟩ := hc (by have := (List.getElem?_eq_some_iff.1 hj).1; omega)
  rw [e4] at e1
  injection e1 with e1
  injection e1 with _ e5
  subst e5
  exact h4 j x hj

theorem Bx.grownO {b : Nat} {us : Array Value} {w w' : World} {row : Option Nat} (h : Bx b us w) (hg : w.grownBy w' row) (hne : some b ≠ row) : Bx b us w' := by
  have e := hg.block b h.1 hne
  exact ⟨Nat.lt_of_lt_of_le h.1 hg.size, fun i => (World.cell?_of_block (w := w) (a := ⟨b, i, none⟩) e).trans (h.2.1 i), fun i => (World.frozen?_of_block (w := w) (a := ⟨b, i, none⟩) e).trans (h.2.2 i)⟩

def natV (k : Nat) : Value := .int .i64 (k : Int)

/-- The indices of the lent leases are given, in order. -/
def OrdS (L : List Ls) (w : World) (e : Ending) (w' : World) : Prop :=
  ∃ o v b, e = .returned v ∧ IsOrd L o ∧ HasS natV false b w.heap.size w'.heap.size w' v o ∧ Span 0 0 w w'

theorem ownsRow_holdsS {α : Type} [Inhabited α] {val : α → Value} {w : World} {B g cap : Nat} {e : TypeId} {xs : List α} (h : w.ownsRow B e 1 (.slice (some ⟨g, 0, none⟩) xs.length cap) xs.length (xs.map val)) : Holds val w g 0 xs.toArray := by
  intro j hj
  have hj' : j < xs.length := by simpa using hj
  refine ⟨?_, h.frozenAt _⟩
  rw [Nat.zero_add, h.cellAt j (by omega), List.getElem?_map, List.getElem?_eq_getElem hj']
  simp [hj']

theorem insertion_none (p : Option Addr) (cap : Nat) (fv : Value) (w : World) :
    Calls Try.prog 86 #[.slice p 0 cap, .int .i64 0, .int .i64 0, fv] w fun e w' => e = .returned (.tuple #[]) ∧ w' = w := by
  go_enter Try.func86, Try.ntmps86
  go_wp2
  refine wp_loop_rounds 1 ?_
  rw [rounds_succ]
  go_wp2
  go_end0
  exact ⟨rfl, rfl⟩

theorem pdq_none (p : Option Addr) (cap : Nat) (lim : Int) (fv : Value) (w : World) :
    Calls Try.prog 77 #[.slice p 0 cap, .int .i64 0, .int .i64 0, .int .i64 lim, fv] w fun e w' => e = .returned (.tuple #[]) ∧ w' = w := by
  have hi := fun W => insertion_none p cap fv W
  go_enter Try.func77, Try.ntmps77
  go_wp2
  refine wp_loop_rounds 1 ?_
  rw [rounds_succ]
  go_wp2_with (go_at_call 86; refine (hi _).mono ?_; rintro e w' ⟨rfl, rfl⟩)
  (try simp only [Exit.inBlock, Exit.then]); refine bodyPost_ret (results_none rfl _ _ _) rfl ?_
  exact ⟨rfl, rfl⟩

theorem sortFunc_none (p : Option Addr) (cap : Nat) (fv : Value) (w : World) :
    Calls Try.prog 59 #[.slice p 0 cap, fv] w fun e w' => e = .returned (.tuple #[]) ∧ w' = w := by
  have hl := fun W => Try.bits_Len 0 W (by omega) (by omega)
  have hp := fun lim W => pdq_none p cap lim fv W
  go_enter Try.func59, Try.ntmps59
  go_wp2_with (first | (go_at_call 78; refine (hl _).mono ?_; rintro e w' ⟨rfl, rfl⟩) | (go_at_call 77; refine (hp _ _).mono ?_; rintro e w' ⟨rfl, rfl⟩))
  go_end0
  exact ⟨rfl, rfl⟩

/-- Indices of leases. -/
abbrev Ix (L : List Ls) := {i : Nat // i < L.length}
def ixV {L : List Ls} (x : Ix L) : Value := .int .i64 (x.1 : Int)
def ixCmp {L : List Ls} (x y : Ix L) : Int := Lib.compareInt (startOf L x.1 : Int) (startOf L y.1 : Int)

theorem ixLt {L : List Ls} (x y : Ix L) : ltOf ixCmp x y = decide (startOf L x.1 < startOf L y.1) := by
  unfold ltOf ixCmp Lib.compareInt
  by_cases h1 : startOf L x.1 < startOf L y.1
  · simp [h1]
  · by_cases h2 : startOf L y.1 < startOf L x.1
    · simp [h1, h2]
    · simp [h1, h2]

theorem ixSwo {L : List Ls} : SWO (ltOf (@ixCmp L)) where
  irrefl x := by rw [ixLt]; simp
  trans x y z h1 h2 := by rw [ixLt] at *; simp at *; omega
  ntrans x y z h1 h2 := by rw [ixLt] at *; simp at *; omega

set_option maxRecDepth 100000 in
set_option maxHeartbeats 1000000 in
/-- Which of two leases starts first. -/
theorem less_runs (L : List Ls) (bx b off c i j : Nat) (hi : i < L.length) (hj : j < L.length) (W : World) (h1 : W.cell? ⟨bx, 0, none⟩ = some (.slice (some ⟨b, off, none⟩) L.length c)) (h2 : ∀ (k : Nat) (x : Ls), L[k]? = some x → W.cell? ⟨b, off + k * 4, none⟩ = some (.int .i64 (x.start : Int))) :
    Calls Try.prog 60 #[.int .i64 (i : Int), .int .i64 (j : Int), .pointer (some ⟨bx, 0, none⟩)] W fun e w' => e = .returned (.int .i64 (Lib.compareInt (startOf L i : Int) (startOf L j : Int))) ∧ ∃ q, w' = W.drewN q := by
  obtain ⟨x, hx⟩ : ∃ x, L[i]? = some x := ⟨_, List.getElem?_eq_getElem hi⟩
  obtain ⟨y, hy⟩ : ∃ y, L[j]? = some y := ⟨_, List.getElem?_eq_getElem hj⟩
  have c1 := h2 i x hx
  have c2 := h2 j y hy
  have e1 : startOf L i = x.start := by unfold startOf; rw [hx]; rfl
  have e2 : startOf L j = y.start := by unfold startOf; rw [hy]; rfl
  rw [e1, e2]
  have hcon := fun W => Try.cmp_Compare_int (x.start : Int) (y.start : Int) W
  generalize Lib.compareInt (x.start : Int) (y.start : Int) = r at hcon ⊢
  obtain ⟨ll, hll⟩ : ∃ n, n = L.length := ⟨_, rfl⟩
  rw [← hll] at h1 hi hj
  have i0 : (0 : Int) ≤ (i : Int) := by omega
  have i1 : (i : Int) < (ll : Int) := by omega
  have j0 : (0 : Int) ≤ (j : Int) := by omega
  have j1 : (j : Int) < (ll : Int) := by omega
  clear h2 hx hy e1 e2 hll hi hj
  go_enter Try.func60, Try.ntmps60
  go_wp2_with fail
  go_quiet (first | (go_at_call 61; refine Calls.quiet_of_same (hcon _)))
  go_wp2_with fail
  go_ret
  exact ⟨rfl, _, rfl⟩

theorem own_cap {w : World} {B : Nat} {e : TypeId} {s : Nat} {A : Option Addr} {n q : Nat} {xs : List Value} (h : w.ownsRow B e s (.slice A n q) n xs) : n ≤ q := by
  obtain ⟨_, ⟨h2, h3⟩ | ⟨g, cap, cur, hv, _, _, hn, _⟩⟩ := h
  · omega
  · injection hv with e1 e2 e3
    subst e3
    exact hn

theorem sortWorld_span {α : Type} [Inhabited α] (enc : α → Value) (w : World) (blk off n : Nat) (d : Array α) (os : Array Obj) : Span blk (blk + 1) w (sortWorld enc w blk off n d os) := by
  refine ⟨rfl, rfl, rfl, ?_, fun k hk hn => ?_⟩
  · unfold sortWorld
    rw [size_grow]
    simp [putRow, mapBlock, Sort.ahead]
  · show ((putRow enc (Sort.ahead w n) blk off d).heap ++ os)[k]? = _
    rw [Array.getElem?_append_left (by simpa [putRow, mapBlock, Sort.ahead] using hk)]
    show (w.heap.modify blk _)[k]? = _
    rw [Array.getElem?_modify, if_neg (by omega)]

/-- What the sorted row says. -/
theorem sorted_ord {L : List Ls} [Inhabited (Ix L)] {d0 : List (Ix L)} {d' : Array (Ix L)} (h0 : d0.map Subtype.val = lentIds L) (hp : PermIn 0 d0.toArray.size d0.toArray d') (hs : SortedIn (ltOf ixCmp) 0 d0.toArray.size d') : IsOrd L (d'.toList.map Subtype.val) := by
  obtain ⟨p1, p2, p3⟩ := hp
  have e1 : d'.extract 0 d0.toArray.size = d' := by rw [← p1]; simp
  have e2 : d0.toArray.extract 0 d0.toArray.size = d0.toArray := by simp
  rw [e1, e2] at p3
  refine ⟨?_, ?_⟩
  · rw [← h0]
    exact p3.map _
  · rw [List.pairwise_map, List.pairwise_iff_getElem]
    intro i j hi hj hij
    have hj' : j < d'.size := by simpa using hj
    have hi' : i < d'.size := by simpa using hi
    have := hs i j (Nat.zero_le _) hij (by rw [← p1]; exact hj')
    rw [ixLt, getElem!_pos d' j hj', getElem!_pos d' i hi'] at this
    simp only [decide_eq_false_iff_not] at this
    simp only [Array.getElem_toList]
    omega

set_option maxRecDepth 100000 in
set_option maxHeartbeats 4000000 in
theorem lentInOrder_any (L : List Ls) (b lo hi : Nat) (v : Value) (w : World) (hx : HasL b lo hi w v L) (hl : L.length ≤ 16) :
    Calls Try.prog 39 #[v] w (OrdS L w) := by
  obtain ⟨ip, hip, hzp, hsp, hbp⟩ := info_parts info_int
  have HX := Lib.hid hx
  obtain ⟨AL, cL, rfl, _, _⟩ := hx
  obtain ⟨ll, hll⟩ : ∃ n, n = L.length := ⟨_, rfl⟩
  have HLL := Lib.hid hll
  rw [← hll] at HX hl ⊢
  have hl16 : (ll : Int) ≤ 16 := by omega
  have H16 : Hid (ll ≤ 16) := hl
  have X0 := Lib.hid (Bx.new w #[.slice AL ll cL] 43)
  have HS := Lib.hid ((Span.refl 0 0 w).alloc (.cells #[.slice AL ll cL] 43))
  have cx := X0.out.cells
  clear hll hl
  go_enter Try.func39, Try.ntmps39
  go_wp2_with fail
  clear cx
  obtain ⟨bx, hbx⟩ : ∃ n, n = w.heap.size := ⟨_, rfl⟩
  have HBX := Lib.hid hbx
  rw [← hbx] at X0 ⊢
  generalize w.alloc (.cells #[.slice AL ll cL] 43) = w0 at *
  clear hbx
  go_loopw [3, 8] (fun co ck wr => ∃ (k m : Nat) (A : Option Addr) (q : Nat), k ≤ ll ∧ ck = .int .i64 (k : Int) ∧ m = (lentTo L k).length ∧ m ≤ k ∧ co = .slice A m q ∧ wr.ownsRow w0.heap.size 3 1 (.slice A m q) m ((lentTo L k).map natV) ∧ Span 0 0 w0 wr) (fun _ ck _ => ll - (intOf ck).toNat)
  case atStart => exact ⟨0, 0, none, 0, Nat.zero_le _, rfl, rfl, Nat.le_refl _, rfl, World.ownsRow_nil _ _ _ _, Span.refl _ _ _⟩
  case round =>
    obtain ⟨k, m, A, q, hk, rfl, hm, hmk, rfl, hown, hs⟩ := hrel
    by_cases hlt : k < ll
    · obtain ⟨x, hxk⟩ := getElem?_some (xs := L) (j := k) (by rw [← HLL.out]; exact hlt)
      obtain ⟨-, -, off, rfl, l0, l1, l2, l3⟩ := (HX.out.span (hs.after HS.out) (.inl (Nat.le_refl _))).at_ hxk
      have k0 : (0 : Int) ≤ (k : Int) := by omega
      have k1 : (k : Int) < (ll : Int) := by omega
      have HSU := Lib.hid (lentTo_succ hxk)
      have HM := Lib.hid (show m = (lentTo L k).length ∧ m ≤ k from ⟨hm, hmk⟩)
      have HKM : Hid (k < ll) := hlt
      obtain ⟨s, c, r, fr⟩ := x
      simp only at l0 l1 l2 l3 HSU
      have HOW2 := Lib.hid (hown.alloc (.cells #[.int .i64 (s : Int), .int .i64 (c : Int), .int .i64 (r : Int), .bool fr] 68))
      have HSR2 := Lib.hid (hs.alloc (.cells #[.int .i64 (s : Int), .int .i64 (c : Int), .int .i64 (r : Int), .bool fr] 68))
      have cl := (Bx.new wr #[.int .i64 (s : Int), .int .i64 (c : Int), .int .i64 (r : Int), .bool fr] 68).cells
      clear hxk hm hmk hown hs
      cases fr with
      | true =>
        simp only [if_true, List.append_nil] at HSU
        go_wp2_with fail
        go_roundw
        case rel => exact ⟨k + 1, m, A, q, HKM.out, by go_num, by rw [HSU.out]; exact HM.out.1, Nat.le_succ_of_le HM.out.2, rfl, by rw [HSU.out]; exact HOW2.out, HSR2.out⟩
        case measure => have := HKM.out; simp [intOf]; omega
      | false =>
        simp only [Bool.false_eq_true, if_false] at HSU
        go_upto_region 6 with fail
        clear l0 l1 l2 l3 cl
        generalize wr.alloc (.cells #[.int .i64 (s : Int), .int .i64 (c : Int), .int .i64 (r : Int), .bool false] 68) = w2 at *
        go_wp2_with (first
          | (at_builtin; go_loud (refine wpList_append_own_at _ rfl _ _ 32 rfl w0.heap.size 3 ip (.int .i64 0) 1 8 Try.underlying32 hip hzp hsp hbp rfl (by decide) _ _ _ rfl (HOW2.out.alloc _) ⟨w2.heap.size, 0, none⟩ 1 1 [natV k] rfl rfl ?c1 ?c2 ?c3 ?c4 ?c5 ?_; (case c1 => exact World.news_of_block (heap_alloc_new _ _)); (case c2 => intro u hu; rw [List.mem_singleton] at hu; subst hu; rfl); (case c3 => have := HM.out; have := H16.out; have := HKM.out; unfold maxLen; omega); (case c4 => have := HM.out; have := H16.out; have := HKM.out; omega); (case c5 => have := HSR2.out.size; simp; omega); intro v1 w5 ho hgr _ hat; obtain ⟨A3, q3, rfl⟩ := ownsRow_slice ho; have HO5 := Lib.hid ho; have HSW := Lib.hid ((HSR2.out.alloc (.cells #[.int .i64 (k : Int)] 3)).grown hgr (fun j hj => .inr (HOW2.out.lt j hj).1)); clear ho hgr hat)))
        have HLE : Hid ((lentTo L k).map natV ++ [natV k] = (lentTo L (k + 1)).map natV ∧ m + 1 = (lentTo L (k + 1)).length) := by
          refine ⟨by rw [HSU.out, List.map_append]; rfl, by rw [HSU.out, List.length_append, ← HM.out.1]; rfl⟩
        rw [HLE.out.1] at HO5
        go_wp2_with fail
        go_roundw
        case rel => exact ⟨k + 1, m + 1, A3, q3, HKM.out, by go_num, HLE.out.2, by have := HM.out.2; omega, rfl, HO5.out, HSW.out⟩
        case measure => have := HKM.out; simp [intOf]; omega
    · have hke : ll = k := by omega
      subst hke
      have hids : lentTo L ll = lentIds L := by rw [HLL.out]; rfl
      rw [hids] at hm hown
      have HOW := Lib.hid hown
      have HM := Lib.hid hm
      have HSR := Lib.hid (hs.after HS.out)
      have HM2 : Hid (m ≤ ll) := hmk
      have HBZ : Hid (w.heap.size ≤ w0.heap.size) := HS.out.size
      have XR := Lib.hid (X0.out.keep hs)
      have HQ : Hid (m ≤ q) := own_cap hown
      clear hm hown hs hk hlt hids hmk
      by_cases h0 : m = 0
      · subst h0
        have HE : Hid (lentIds L = []) := by
          have := HM.out
          exact List.eq_nil_of_length_eq_zero this.symm
        go_wp2_with (go_at_call 59; refine (sortFunc_none _ _ _ _).mono ?_; rintro e w' ⟨rfl, rfl⟩)
        go_ret
        exact ⟨[], _, 0, rfl, ⟨by rw [HE.out], List.Pairwise.nil⟩, HasS.empty _ _ _ _ _ _ _ _, HSR.out⟩
      · have hpos : 0 < L.length := by have := HM2.out; have := HLL.out; omega
        letI : Inhabited (Ix L) := ⟨⟨0, hpos⟩⟩
        obtain ⟨d0, hd0⟩ : ∃ d0 : List (Ix L), d0.map Subtype.val = lentIds L :=
          ⟨(lentIds L).attachWith (· < L.length) (fun i hi => by obtain ⟨x, hx, _⟩ := lentIds_mem.1 hi; exact (List.getElem?_eq_some_iff.1 hx).1), by simp [List.attachWith_map_subtype_val]⟩
        have hdl : d0.length = m := by have := congrArg List.length hd0; rw [List.length_map, ← HM.out] at this; exact this
        have hrow : wr.ownsRow w0.heap.size 3 1 (.slice A m q) m (d0.map ixV) := by
          have := HOW.out
          rw [← hd0, List.map_map] at this
          exact this
        obtain ⟨g, cap, hv, hgb, hgl⟩ := hrow.form (by omega)
        injection hv with e1 e2 e3
        clear e2
        subst e1 e3
        have hH : Holds ixV wr g 0 d0.toArray := by
          have h2 := hrow
          rw [← hdl] at h2
          exact ownsRow_holdsS h2
        have eg : ∀ args w, (callFunc 60 args).run Try.prog w = .ok (.enter 60 args) w := enters_of Try.func60 (by kernel_rfl) rfl
        have hbxg : bx < g := by have := X0.out.1; omega
        have hcmp : CmpLays1 Try.prog 60 #[.pointer (some ⟨bx, 0, none⟩)] (@ixV L) ixCmp g 0 d0.toArray.size wr := by
          intro mm os dk hsz x y
          have sp := sortWorld_span (@ixV L) wr g 0 mm dk os
          have xb := XR.out.span sp (.inr (.inl (by omega)))
          have hbz := HBZ.out
          have sp0 : Span 0 0 w (sortWorld (@ixV L) wr g 0 mm dk os) := ⟨sp.os.trans HSR.out.os, sp.tape.trans HSR.out.tape, sp.output.trans HSR.out.output, Nat.le_trans HSR.out.size sp.size, fun k hk _ => (sp.block k (Nat.lt_of_lt_of_le hk HSR.out.size) (by omega)).trans (HSR.out.block k hk (by omega))⟩
          have hx0 := HX.out.span sp0 (.inl (Nat.le_refl _))
          obtain ⟨z0, hz0⟩ := getElem?_some hpos
          obtain ⟨_, _, off, hal, _⟩ := hx0.at_ hz0
          have h := less_runs L bx b off cL x.1 y.1 x.2 y.2 (sortWorld (@ixV L) wr g 0 mm dk os) (by rw [xb.cells 0, ← hal, ← HLL.out]; rfl) (fun k z hk => by
            obtain ⟨_, _, off2, hal2, l0, _⟩ := hx0.at_ hk
            rw [hal] at hal2
            injection hal2 with hal2
            injection hal2 with _ hal2
            rw [hal2]
            exact l0)
          exact h.mono fun _ _ ⟨he, n, hn⟩ => ⟨he, n, #[], by rw [hn, grow_empty]⟩
        have hcon := Try.slices_SortFunc (@ixV L) (fun _ => rfl) ixCmp ixSwo 60 #[.pointer (some ⟨bx, 0, none⟩)] g 0 q d0.toArray wr eg hcmp hH hgl (by simp; have := H16.out; have := HM2.out; omega)
        rw [show d0.toArray.size = m by simpa using hdl] at hcon
        have HCON := Lib.hid hcon
        have HDO := Lib.hid hd0
        have HHO := Lib.hid hH
        have HDL := Lib.hid hdl
        have HGB := Lib.hid (show w0.heap.size ≤ g ∧ g < wr.heap.size from ⟨hgb, hgl⟩)
        clear hcon hd0 hdl hrow hH eg hcmp hgb hgl hbxg
        go_wp2_with (go_at_call 59; go_loud (refine HCON.out.mono ?_; rintro e w' ⟨rfl, d', n', os', hp', hs', rfl⟩; have HP := Lib.hid hp'; have HSO := Lib.hid hs'; clear hp' hs'))
        go_ret
        have hgb := HGB.out
        have hbz := HBZ.out
        have sp := sortWorld_span (@ixV L) wr g 0 n' d' os'
        have sp0 : Span 0 0 w (sortWorld (@ixV L) wr g 0 n' d' os') := ⟨sp.os.trans HSR.out.os, sp.tape.trans HSR.out.tape, sp.output.trans HSR.out.output, Nat.le_trans HSR.out.size sp.size, fun k hk _ => (sp.block k (Nat.lt_of_lt_of_le hk HSR.out.size) (by omega)).trans (HSR.out.block k hk (by omega))⟩
        have hp := HP.out
        have hs := HSO.out
        have hm : d0.toArray.size = m := by simpa using HDL.out
        have hps : d'.size = m := by have := hp.1; omega
        rw [← hm] at hp hs
        have hh := holds_sortWorld (@ixV L) wr g 0 n' d0.toArray d' os' hgb.2 HHO.out (by rw [hps, hm])
        refine ⟨d'.toList.map Subtype.val, _, g, rfl, sorted_ord HDO.out hp hs, ⟨some ⟨g, 0, none⟩, q, ?_, ?_, fun _ => ⟨0, rfl, by omega, Nat.lt_of_lt_of_le hgb.2 sp.size, Nat.lt_of_lt_of_le hgb.2 sp.size, fun j x hj => ?_, fun h => by cases h⟩⟩, sp0⟩
        · rw [List.length_map, Array.length_toList, hps]; rfl
        · rw [List.length_map, Array.length_toList, hps]
          exact HQ.out
        · rw [List.getElem?_map, Option.map_eq_some_iff] at hj
          obtain ⟨y, hy, rfl⟩ := hj
          have hjl : j < d'.size := by have := (List.getElem?_eq_some_iff.1 hy).1; simpa using this
          have := (hh j hjl).1
          rw [getElem!_pos d' j hjl] at this
          have hy2 : d'[j] = y := by have := (List.getElem?_eq_some_iff.1 hy).2; simpa using this
          rw [hy2] at this
          exact this
end Go.Proofs.Ytfafkdpefdpnkaa
