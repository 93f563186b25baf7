/- The program's pools: windows. A pool that is made; a pool in a box; the model's windows and free room. -/
import Derived.Test.YtlhocjoncblocaaJq40
import Derived.Test.YtlhocjoncblocaaJq19
import Derived.Test.YtlhocjoncblocaaJq34
import Derived.Deep.RegionWith
import Derived.Test.YtlhocjoncblocaaJq32
import Derived.Test.YtlhocjoncblocaaJq35
import Derived.Outline
namespace Go.Proofs.Ytlhocjoncblocaa
section
open Go.RowKit

/-- A part of a slice reads as that part. -/
theorem HasS.part {o : Bool} {b off lo hi n c : Nat} {w : World} {S : List Cx} (h : HasS cxV o b lo hi w (.slice (some ⟨b, off, none⟩) n c) S) {s k r : Nat} (h1 : s + k ≤ S.length) (h2 : k ≤ r) (h3 : 0 < S.length) : HasS cxV o b lo hi w (.slice (some ⟨b, off + s, none⟩) k r) ((S.drop s).take k) := by
  obtain ⟨A', cap, e, hcap, hc⟩ := h
  injection e with e1 e2 e3
  obtain ⟨off', e4, g1, g2, g3, g4, g5⟩ := hc h3
  rw [e4] at e1
  injection e1 with e1
  injection e1 with _ e5
  subst e5
  refine ⟨_, r, by rw [part_length h1], by rw [part_length h1]; exact h2, fun hp => ⟨_, rfl, g1, g2, g3, fun j x hj => ?_, fun ho j hj => ?_⟩⟩
  · rw [part_get] at hj
    by_cases hjk : j < k
    · rw [if_pos hjk] at hj
      rw [Nat.add_assoc]
      exact g4 (s + j) x hj
    · rw [if_neg hjk] at hj; cases hj
  · rw [part_length h1] at hj
    rw [Nat.add_assoc]
    exact g5 ho (s + j) (by omega)

set_option maxRecDepth 100000 in
set_option maxHeartbeats 1000000 in
theorem windowIn_any (b off n c : Nat) (x : Ls) (h1 : 1 ≤ x.room) (h2 : x.count ≤ x.room) (h3 : x.start + x.room ≤ n) (h4 : n ≤ c) (h5 : n ≤ 4194304) (w : World) :
    Calls Try.prog 51 #[.slice (some ⟨b, off, none⟩) n c, lsV x] w fun e w' => e = .returned (.slice (some ⟨b, off + x.start, none⟩) x.count x.room) ∧ Span 0 0 w w' := by
  obtain ⟨s, k, r, fr⟩ := x
  unfold lsV
  simp only at h1 h2 h3 ⊢
  have X := Bx.new w #[.int .i64 (s : Int), .int .i64 (k : Int), .int .i64 (r : Int), .bool fr] 30
  have cx := X.cells
  have S := Lib.hid ((Span.refl 0 0 w).alloc (.cells #[.int .i64 (s : Int), .int .i64 (k : Int), .int .i64 (r : Int), .bool fr] 30))
  have hw1 : wrap64 ((s : Int) + (k : Int)) = ((s + k : Nat) : Int) := wrap_le (by omega)
  have hw2 : wrap64 ((s : Int) + (r : Int)) = ((s + r : Nat) : Int) := wrap_le (by omega)
  have i1 : (s : Int) + (r : Int) ≤ (c : Int) := by omega
  have i2 : (k : Int) ≤ (r : Int) := by omega
  have i3 : s < c := by omega
  have i4 : (0 : Int) ≤ (s : Int) := by omega
  have i5 : ¬ s = s + r := by omega
  have i6 : ¬ r = 0 := by omega
  clear X h1 h2 h3 h4 h5
  go_enter Try.func51, Try.ntmps51
  go_wp2_with fail
  go_ret
  exact ⟨by show Ending.returned (.slice (some ⟨b, off + s, none⟩) (s + k - s) (s + r - s)) = _; rw [Nat.add_sub_cancel_left, Nat.add_sub_cancel_left], S.out⟩

/-- A window is given, or none. -/
def WinS (o : Option (List Cx)) (w : World) (e : Ending) (w' : World) : Prop :=
  (match o with
    | some xs => ∃ v b, e = .returned (.tuple #[v, .bool true]) ∧ HasS cxV true b w.heap.size w'.heap.size w' v xs
    | none => e = .returned (.tuple #[.slice none 0 0, .bool false])) ∧ Span 0 0 w w'

set_option maxRecDepth 100000 in
set_option maxHeartbeats 4000000 in
theorem impl_windowOf (p : Pl) (id : Nat) (lo hi : Nat) (v : Value) (w : World) (hx : HasP lo hi w v p) (hp : VP p) (hid : id ≤ 4194304) :
    Calls Try.prog 18 #[v, .int .i64 (id : Int)] w (WinS (winP p id) w) := by
  have HX := Lib.hid hx
  have HV := Lib.hid hp
  obtain ⟨b1, b2, vS, vL, rfl, g1, g2⟩ := hx
  have G1 := Lib.hid g1
  obtain ⟨AS, cS, rfl, hcap, _⟩ := g1
  have G2 := Lib.hid g2
  obtain ⟨AL, cL, rfl, _, _⟩ := g2
  obtain ⟨n, hn⟩ : ∃ n, n = p.1.length := ⟨_, rfl⟩
  obtain ⟨ll, hll⟩ : ∃ n, n = p.2.length := ⟨_, rfl⟩
  have HNN := Lib.hid hn
  have HLL := Lib.hid hll
  have HCAP : Hid (n ≤ cS) := by unfold Hid; omega
  rw [← hn, ← hll] at HX
  rw [← hll] at G2
  rw [← hn] at G1
  rw [← hn, ← hll]
  have X0 := Lib.hid (Bx.new w #[.slice AS n cS, .slice AL ll cL] 26)
  have HS := Lib.hid ((Span.refl 0 0 w).alloc (.cells #[.slice AS n cS, .slice AL ll cL] 26))
  have cx := X0.out.cells
  clear hp hn hll hcap
  go_enter Try.func18, Try.ntmps18
  go_wp2_with fail
  refine (isLent_any p id lo hi _ _ (HX.out.span HS.out (.inl (Nat.le_refl _))) HV.out hid).mono ?_
  rintro _ w1 ⟨rfl, s1⟩
  have X1 := Lib.hid (X0.out.keep s1)
  have S1 := Lib.hid (s1.after HS.out)
  clear s1 cx X0 HS
  cases hl : lentAt p id with
  | none =>
    have HG : Hid (winP p id = none) := by unfold Hid winP; rw [hl]; rfl
    simp only [Option.isSome_none]
    clear hl
    go_wp2_with fail
    go_ret2
    rw [HG.out]
    exact ⟨rfl, S1.out⟩
  | some x =>
    have HG : Hid (winP p id = some ((p.1.drop x.start).take x.count)) := by unfold Hid winP; rw [hl]; rfl
    have HL := Lib.hid (lentAt_some hl)
    have hil : id < ll := by rw [HLL.out]; exact (List.getElem?_eq_some_iff.1 HL.out.1).1
    obtain ⟨o1, o2, o3⟩ := (HV.out.ok _ (List.mem_of_getElem? HL.out.1)).lent HL.out.2
    have hsz := HV.out.size
    obtain ⟨off1, rfl, -⟩ := G1.out.addrS (show 0 < p.1.length by omega)
    have HPT := Lib.hid ((G1.out.span S1.out (.inl (Nat.le_refl _))).part (s := x.start) (k := x.count) (r := x.room) (by omega) o2 (by omega))
    have HWI := Lib.hid (fun w => windowIn_any b1 off1 n cS x o1 o2 (by rw [HNN.out]; exact o3) HCAP.out (by rw [HNN.out]; omega) w)
    have HPL : Hid (((p.1.drop x.start).take x.count).length = x.count ∧ x.count ≤ 4194304) := ⟨part_length (by omega), by omega⟩
    obtain ⟨-, -, off2, rfl, l0, l1, l2, l3⟩ := (G2.out.span S1.out (.inl (Nat.le_refl _))).at_ HL.out.1
    simp only [Option.isSome_some]
    have i0 : (0 : Int) ≤ (id : Int) := by omega
    have i1 : (id : Int) < (ll : Int) := by omega
    have cx := X1.out.cells
    clear hl o1 o2 o3 hsz hil
    obtain ⟨s, c, r, fr⟩ := x
    unfold lsV at HWI
    simp only at l0 l1 l2 l3 HPT HWI HG HPL
    go_wp2_with fail
    go_region_with (first
      | (go_at_call 51; go_loud ((refine (HWI.out _).mono ?_; rintro _ w2 ⟨rfl, s2⟩; have S2 : Hid (Span 0 0 w1 w2) := (by first | exact s2 | exact s2.undrawn' | exact Span.undrawn' (n := 1) s2); clear s2)))
      | (go_at_call 54; go_loud ((refine (cloneC_any ((p.1.drop s).take c) false b1 lo hi _ w2 (HPT.out.span S2.out (.inl (Nat.le_refl _))) (by rw [HPL.out.1]; exact HPL.out.2)).mono ?_; rintro _ w3 ⟨v3, b3, rfl, h3, s3⟩; have H3 := Lib.hid h3; have S3 := Lib.hid ((s3.after S2.out).after S1.out); have Z3 : Hid (w.heap.size ≤ w2.heap.size) := (S2.out.after S1.out).size; clear h3 s3))))
    all_goals
      go_wp2_with fail
      go_ret2
      rw [HG.out]
      exact ⟨⟨v3, b3, rfl, H3.out.weak Z3.out (.inl (Nat.le_refl _))⟩, S3.out⟩
end
section
open Go.RowKit

/-- A valid pool is made. -/
def MakesP (w : World) (e : Ending) (w' : World) : Prop :=
  ∃ p v, e = .returned v ∧ VP p ∧ HasP w.heap.size w'.heap.size w' v p ∧ Span 0 0 w w'

set_option maxRecDepth 100000 in
set_option maxHeartbeats 1000000 in
theorem makePool_any (A : Option Addr) (n c : Nat) (w : World) (hn : n ≤ 1048576) (h : HasBy w.heap.size w A n) :
    Calls Try.prog 9 #[.slice A n c] w (MakesP w) := by
  have Hn := Lib.hid hn
  have YA := Lib.hid (Bx.new w #[.slice none 0 0, .slice none 0 0] 26)
  have BA := Lib.hid ((Below.refl w.heap.size w).alloc (Nat.le_refl _) (.cells #[.slice none 0 0, .slice none 0 0] 26))
  have Hby : Hid (HasBy (w.alloc (.cells #[.slice none 0 0, .slice none 0 0] 26)).heap.size (w.alloc (.cells #[.slice none 0 0, .slice none 0 0] 26)) A n) := by
    unfold Hid
    intro hp
    obtain ⟨b, off, rfl, hb, hc⟩ := (h.below BA.out) hp
    exact ⟨b, off, rfl, by simp; omega, hc⟩
  clear hn h
  go_enter Try.func9, Try.ntmps9
  go_wp2_with fail
  refine (l01New_any A n c _ Hn.out Hby.out).mono ?_
  rintro _ w1 ⟨a, rfl, ha, hc, hb⟩
  have sz : (w.alloc (.cells #[.slice none 0 0, .slice none 0 0] 26)).heap.size = w.heap.size + 1 := by simp
  have hbs := hb.size
  rw [sz] at hbs
  have Y1 := Lib.hid (YA.out.keep (show Span 0 0 _ w1 from ⟨hb.os, hb.tape, hb.output, hb.size, fun k hk _ => hb.block k hk⟩))
  have HAB := Lib.hid (show a.block = w.heap.size + 1 by rw [ha, sz])
  have HC := Lib.hid hc
  have S1 := Lib.hid ((Span.of_below hb).after ((Span.refl 0 0 w).alloc (.cells #[.slice none 0 0, .slice none 0 0] 26)))
  have HBS := Lib.hid hbs
  clear ha hc hb hbs sz
  go_wp2_with fail
  refine (l3Pool_any _ a w1 HC.out).mono ?_
  rintro _ w2 ⟨p, v, rfl, hv, hp, hc2, s2⟩
  obtain ⟨A1, q1, A2, q2, rfl⟩ := hp.form
  have hab := HAB.out
  have hbs := HBS.out
  have Y2 := Y1.out.span s2 (.inr (.inl (by omega)))
  have cy := Y2.cells
  have fy := Y2.thaw
  have YS := Lib.hid (Y2.set2 (.slice A1 p.1.length q1) (.slice A2 p.2.length q2))
  have HV := Lib.hid hv
  have HP := Lib.hid hp
  have T := Lib.hid ((Span.refl w.heap.size (w.heap.size + 1) w2).put2 (b := w.heap.size) ⟨Nat.le_refl _, Nat.lt_succ_self _⟩ (.slice A1 p.1.length q1) (.slice A2 p.2.length q2))
  have S2 : Hid (Span 0 0 w w2) := ⟨s2.os.trans S1.out.os, s2.tape.trans S1.out.tape, s2.output.trans S1.out.output, Nat.le_trans S1.out.size s2.size, fun k hk _ => (s2.block k (Nat.lt_of_lt_of_le hk S1.out.size) (by omega)).trans (S1.out.block k hk (by omega))⟩
  clear hv hp hc2 s2 hab hbs Y2
  go_wp2_with fail
  have d1 := YS.out.cells
  have hbs := HBS.out
  refine bodyPost_ret (v := .agg #[.slice A1 p.1.length q1, .slice A2 p.2.length q2]) (by simp [results, Try.results9, go_sem, d1]) rfl ⟨p, _, rfl, HV.out, ?_, S2.out.set2 (Nat.le_refl _) _ _⟩
  exact (HP.out.span T.out (by omega)).weak (by omega) (.inl T.out.size)

/-- A valid pool in the box T. -/
structure PBox (T : Nat) (w : World) (p : Pl) (A : Option Addr) (q : Nat) (A' : Option Addr) (q' : Nat) (wr : World) : Prop where
  b : Bx T #[.slice A p.1.length q, .slice A' p.2.length q'] wr
  h : HasP 0 T wr (.agg #[.slice A p.1.length q, .slice A' p.2.length q']) p ∨ HasP (T + 1) wr.heap.size wr (.agg #[.slice A p.1.length q, .slice A' p.2.length q']) p
  s : Span 0 0 w wr
  lo : w.heap.size ≤ T
  v : VP p

theorem PBox.keep {T : Nat} {w : World} {p : Pl} {A : Option Addr} {q : Nat} {A' : Option Addr} {q' : Nat} {wr w' : World} (h : PBox T w p A q A' q' wr) (s : Span 0 0 wr w') : PBox T w p A q A' q' w' :=
  ⟨h.b.keep s, h.h.imp (fun g => g.span s (by omega)) (fun g => (g.span s (by omega)).weak (Nat.le_refl _) (.inl s.size)), s.after h.s, h.lo, h.v⟩

theorem PBox.whole {T : Nat} {w : World} {p : Pl} {A : Option Addr} {q : Nat} {A' : Option Addr} {q' : Nat} {wr : World} (h : PBox T w p A q A' q' wr) : HasP 0 wr.heap.size wr (.agg #[.slice A p.1.length q, .slice A' p.2.length q']) p := by
  have := h.b.1
  rcases h.h with g | g
  · exact g.weak (Nat.le_refl _) (.inl (by omega))
  · exact g.weak (by omega) (.inl (Nat.le_refl _))

theorem PBox.new {w w1 : World} {p : Pl} {A : Option Addr} {q : Nat} {A' : Option Addr} {q' : Nat} (hp : HasP w.heap.size w1.heap.size w1 (.agg #[.slice A p.1.length q, .slice A' p.2.length q']) p) (hv : VP p) (s : Span 0 0 w w1) :
    PBox w1.heap.size w p A q A' q' (w1.alloc (.cells #[.slice A p.1.length q, .slice A' p.2.length q'] 26)) :=
  ⟨Bx.new _ _ _, .inl ((hp.span ((Span.refl 0 0 w1).alloc _) (.inl (Nat.le_refl _))).weak (Nat.zero_le _) (.inl (Nat.le_refl _))), s.alloc _, s.size, hv⟩

/-- Another pool is put in the box. -/
theorem PBox.store {T lo hi : Nat} {w : World} {p r : Pl} {A : Option Addr} {q : Nat} {A' : Option Addr} {q' : Nat} {B : Option Addr} {u : Nat} {B' : Option Addr} {u' : Nat} {wr : World} (h : PBox T w p A q A' q' wr) (hv : VP r)
    (hr : HasP lo hi wr (.agg #[.slice B r.1.length u, .slice B' r.2.length u']) r) (hlo : T < lo) :
    PBox T w r B u B' u' ((wr.setCell ⟨T, 0, none⟩ (.slice B r.1.length u)).setCell ⟨T, 1, none⟩ (.slice B' r.2.length u')) := by
  have sp := (Span.refl T (T + 1) wr).put2 (b := T) ⟨Nat.le_refl _, Nat.lt_succ_self _⟩ (.slice B r.1.length u) (.slice B' r.2.length u')
  refine ⟨h.b.set2 _ _, .inr ((hr.span sp (by omega)).weak (by omega) (.inr ?_)), h.s.set2 h.lo _ _, h.lo, hv⟩
  exact Nat.le_refl _

theorem PBox.at_ {T : Nat} {w : World} {p : Pl} {A : Option Addr} {q : Nat} {A' : Option Addr} {q' : Nat} {wr : World} (h : PBox T w p A q A' q' wr) {k : Nat} {x : Ls} (hk : p.2[k]? = some x) :
    ∃ b off, A' = some ⟨b, off, none⟩ ∧ LsAt wr b (off + k * 4) x := by
  obtain ⟨b1, b2, vS, vL, e, _, g2⟩ := h.whole
  simp only [Value.agg.injEq, Array.mk.injEq, List.cons.injEq, and_true] at e
  obtain ⟨_, rfl⟩ := e
  obtain ⟨_, _, off, e, l⟩ := g2.at_ hk
  exact ⟨b2, off, e, l⟩

theorem hasBy_spanP {w w' : World} {A : Option Addr} {n : Nat} (h : HasBy w.heap.size w A n) (s : Span 0 0 w w') : HasBy w'.heap.size w' A n := fun hp => by
  obtain ⟨b, off, rfl, hb, hc⟩ := h hp
  refine ⟨b, off, rfl, Nat.lt_of_lt_of_le hb s.size, fun j hj => ?_⟩
  obtain ⟨u, u0, u1, hu⟩ := hc j hj
  exact ⟨u, u0, u1, ((s.cells (Nat.le_refl _)).1 b _ hb).trans hu⟩
end
end Go.Proofs.Ytlhocjoncblocaa
