/- A pool that is made; a pool in a box; the model's windows and free room. The text of a pool is one text. -/
import Derived.Test.YtfafkdpefdpnkaaJq56
import Derived.Test.YtfafkdpefdpnkaaJq49
import Derived.Test.YtfafkdpefdpnkaaJq44
import Derived.Outline
import Derived.Test.YtfafkdpefdpnkaaJq53
import Derived.BigQuiet
namespace Go.Proofs.Ytfafkdpefdpnkaa
section
open Go.RowKit

/-- A valid pool is made. -/
def MakesP (w : World) (e : Ending) (w' : World) : Prop :=
  ∃ p v, e = .returned v ∧ VP p ∧ HasP w.heap.size w'.heap.size w' v p ∧ Span 0 0 w w'

set_option maxRecDepth 100000 in
set_option maxHeartbeats 1000000 in
theorem makePool_any (A : Option Addr) (n c : Nat) (w : World) (hn : n ≤ 1048576) (h : HasBy w.heap.size w A n) :
    Calls Try.prog 17 #[.slice A n c] w (MakesP w) := by
  have Hn := Lib.hid hn
  have YA := Lib.hid (Bx.new w #[.slice none 0 0, .slice none 0 0] 45)
  have BA := Lib.hid ((Below.refl w.heap.size w).alloc (Nat.le_refl _) (.cells #[.slice none 0 0, .slice none 0 0] 45))
  have Hby : Hid (HasBy (w.alloc (.cells #[.slice none 0 0, .slice none 0 0] 45)).heap.size (w.alloc (.cells #[.slice none 0 0, .slice none 0 0] 45)) A n) := by
    unfold Hid
    intro hp
    obtain ⟨b, off, rfl, hb, hc⟩ := (h.below BA.out) hp
    exact ⟨b, off, rfl, by simp; omega, hc⟩
  clear hn h
  go_enter Try.func17, Try.ntmps17
  go_wp2_with fail
  refine (l01New_any A n c _ Hn.out Hby.out).mono ?_
  rintro _ w1 ⟨a, rfl, ha, hc, hb⟩
  have sz : (w.alloc (.cells #[.slice none 0 0, .slice none 0 0] 45)).heap.size = w.heap.size + 1 := by simp
  have hbs := hb.size
  rw [sz] at hbs
  have Y1 := Lib.hid (YA.out.keep (show Span 0 0 _ w1 from ⟨hb.os, hb.tape, hb.output, hb.size, fun k hk _ => hb.block k hk⟩))
  have HAB := Lib.hid (show a.block = w.heap.size + 1 by rw [ha, sz])
  have HC := Lib.hid hc
  have S1 := Lib.hid ((Span.of_below hb).after ((Span.refl 0 0 w).alloc (.cells #[.slice none 0 0, .slice none 0 0] 45)))
  have HBS := Lib.hid hbs
  clear ha hc hb hbs sz
  go_wp2_with fail
  refine (l3Pool_any _ a w1 HC.out).mono ?_
  rintro _ w2 ⟨p, v, rfl, hv, hp, hc2, s2⟩
  obtain ⟨A1, q1, A2, q2, rfl⟩ := hp.form
  have hab := HAB.out
  have hbs := HBS.out
  have Y2 := Y1.out.span s2 (.inr (.inl (by omega)))
  have cy := Y2.cells
  have fy := Y2.thaw
  have YS := Lib.hid (Y2.set2 (.slice A1 p.1.length q1) (.slice A2 p.2.length q2))
  have HV := Lib.hid hv
  have HP := Lib.hid hp
  have T := Lib.hid ((Span.refl w.heap.size (w.heap.size + 1) w2).put2 (b := w.heap.size) ⟨Nat.le_refl _, Nat.lt_succ_self _⟩ (.slice A1 p.1.length q1) (.slice A2 p.2.length q2))
  have S2 : Hid (Span 0 0 w w2) := ⟨s2.os.trans S1.out.os, s2.tape.trans S1.out.tape, s2.output.trans S1.out.output, Nat.le_trans S1.out.size s2.size, fun k hk _ => (s2.block k (Nat.lt_of_lt_of_le hk S1.out.size) (by omega)).trans (S1.out.block k hk (by omega))⟩
  clear hv hp hc2 s2 hab hbs Y2
  go_wp2_with fail
  have d1 := YS.out.cells
  have hbs := HBS.out
  refine bodyPost_ret (v := .agg #[.slice A1 p.1.length q1, .slice A2 p.2.length q2]) (by simp [results, Try.results17, go_sem, d1]) rfl ⟨p, _, rfl, HV.out, ?_, S2.out.set2 (Nat.le_refl _) _ _⟩
  exact (HP.out.span T.out (by omega)).weak (by omega) (.inl T.out.size)

/-- A valid pool in the box T. -/
structure PBox (T : Nat) (w : World) (p : Pl) (A : Option Addr) (q : Nat) (A' : Option Addr) (q' : Nat) (wr : World) : Prop where
  b : Bx T #[.slice A p.1.length q, .slice A' p.2.length q'] wr
  h : HasP 0 T wr (.agg #[.slice A p.1.length q, .slice A' p.2.length q']) p ∨ HasP (T + 1) wr.heap.size wr (.agg #[.slice A p.1.length q, .slice A' p.2.length q']) p
  s : Span 0 0 w wr
  lo : w.heap.size ≤ T
  v : VP p

theorem PBox.keep {T : Nat} {w : World} {p : Pl} {A : Option Addr} {q : Nat} {A' : Option Addr} {q' : Nat} {wr w' : World} (h : PBox T w p A q A' q' wr) (s : Span 0 0 wr w') : PBox T w p A q A' q' w' :=
  ⟨h.b.keep s, h.h.imp (fun g => g.span s (by omega)) (fun g => (g.span s (by omega)).weak (Nat.le_refl _) (.inl s.size)), s.after h.s, h.lo, h.v⟩

theorem PBox.whole {T : Nat} {w : World} {p : Pl} {A : Option Addr} {q : Nat} {A' : Option Addr} {q' : Nat} {wr : World} (h : PBox T w p A q A' q' wr) : HasP 0 wr.heap.size wr (.agg #[.slice A p.1.length q, .slice A' p.2.length q']) p := by
  have := h.b.1
  rcases h.h with g | g
  · exact g.weak (Nat.le_refl _) (.inl (by omega))
  · exact g.weak (by omega) (.inl (Nat.le_refl _))

theorem PBox.new {w w1 : World} {p : Pl} {A : Option Addr} {q : Nat} {A' : Option Addr} {q' : Nat} (hp : HasP w.heap.size w1.heap.size w1 (.agg #[.slice A p.1.length q, .slice A' p.2.length q']) p) (hv : VP p) (s : Span 0 0 w w1) :
    PBox w1.heap.size w p A q A' q' (w1.alloc (.cells #[.slice A p.1.length q, .slice A' p.2.length q'] 45)) :=
  ⟨Bx.new _ _ _, .inl ((hp.span ((Span.refl 0 0 w1).alloc _) (.inl (Nat.le_refl _))).weak (Nat.zero_le _) (.inl (Nat.le_refl _))), s.alloc _, s.size, hv⟩

/-- Another pool is put in the box. -/
theorem PBox.store {T lo hi : Nat} {w : World} {p r : Pl} {A : Option Addr} {q : Nat} {A' : Option Addr} {q' : Nat} {B : Option Addr} {u : Nat} {B' : Option Addr} {u' : Nat} {wr : World} (h : PBox T w p A q A' q' wr) (hv : VP r)
    (hr : HasP lo hi wr (.agg #[.slice B r.1.length u, .slice B' r.2.length u']) r) (hlo : T < lo) :
    PBox T w r B u B' u' ((wr.setCell ⟨T, 0, none⟩ (.slice B r.1.length u)).setCell ⟨T, 1, none⟩ (.slice B' r.2.length u')) := by
  have sp := (Span.refl T (T + 1) wr).put2 (b := T) ⟨Nat.le_refl _, Nat.lt_succ_self _⟩ (.slice B r.1.length u) (.slice B' r.2.length u')
  refine ⟨h.b.set2 _ _, .inr ((hr.span sp (by omega)).weak (by omega) (.inr ?_)), h.s.set2 h.lo _ _, h.lo, hv⟩
  exact Nat.le_refl _

theorem PBox.at_ {T : Nat} {w : World} {p : Pl} {A : Option Addr} {q : Nat} {A' : Option Addr} {q' : Nat} {wr : World} (h : PBox T w p A q A' q' wr) {k : Nat} {x : Ls} (hk : p.2[k]? = some x) :
    ∃ b off, A' = some ⟨b, off, none⟩ ∧ LsAt wr b (off + k * 4) x := by
  obtain ⟨b1, b2, vS, vL, e, _, g2⟩ := h.whole
  simp only [Value.agg.injEq, Array.mk.injEq, List.cons.injEq, and_true] at e
  obtain ⟨_, rfl⟩ := e
  obtain ⟨_, _, off, e, l⟩ := g2.at_ hk
  exact ⟨b2, off, e, l⟩

theorem hasBy_spanP {w w' : World} {A : Option Addr} {n : Nat} (h : HasBy w.heap.size w A n) (s : Span 0 0 w w') : HasBy w'.heap.size w' A n := fun hp => by
  obtain ⟨b, off, rfl, hb, hc⟩ := h hp
  refine ⟨b, off, rfl, Nat.lt_of_lt_of_le hb s.size, fun j hj => ?_⟩
  obtain ⟨u, u0, u1, hu⟩ := hc j hj
  exact ⟨u, u0, u1, ((s.cells (Nat.le_refl _)).1 b _ hb).trans hu⟩
end
section
open Go.RowKit

set_option maxRecDepth 100000 in
theorem l8Single_det (x : Nat) : ∃ l : List UInt8, l.length ≤ 44 ∧ ∀ w, Calls Try.prog 55 #[.float .f32 x] w (GivesTxt l w) := by
  cases hn : nanB .f32 x with
  | true =>
    refine ⟨[110, 97, 110], by simp, fun w => ?_⟩
    have ho : FloatKind.f32.format.order x x = none := by rw [order_self, hn]; rfl
    clear hn
    go_enter Try.func55, Try.ntmps55
    go_wp2_with fail
    go_ret
    exact ⟨rfl, Span.refl _ _ _⟩
  | false =>
    have ho : FloatKind.f32.format.order x x = some .eq := by rw [order_self, hn]; rfl
    by_cases h1 : rungOf Ieee.single x < 2139095040
    · refine ⟨fmtL x, fmtL_len x, fun w => ?_⟩
      have H1 : Hid (decide (rungOf Ieee.single x < 2139095040) = true) := by unfold Hid; rw [decide_eq_true_iff]; exact h1
      clear hn h1
      go_enter Try.func55, Try.ntmps55
      go_wp2_with fail
      refine (l1Finite_any x _).mono ?_
      rintro _ _ ⟨n, rfl, rfl⟩
      rw [H1.out]
      clear ho
      go_wp2_with fail
      refine (spec_formatSingle x _).mono ?_
      rintro _ w1 ⟨rfl, s1⟩
      have S1 := Lib.hid (s1.undrawn' (n := n))
      clear s1
      go_wp2_with fail
      go_ret
      exact ⟨rfl, S1.out⟩
    · have H1 : Hid (decide (rungOf Ieee.single x < 2139095040) = false) := by unfold Hid; rw [decide_eq_false_iff_not]; exact h1
      clear hn h1
      by_cases hg : FloatKind.f32.format.order x 0 = some .gt
      · refine ⟨[105, 110, 102], by simp, fun w => ?_⟩
        go_enter Try.func55, Try.ntmps55
        go_wp2_with fail
        refine (l1Finite_any x _).mono ?_
        rintro _ _ ⟨n, rfl, rfl⟩
        rw [H1.out]
        clear ho
        go_wp2_with fail
        go_ret
        exact ⟨rfl, (Span.refl _ _ _).drewN _⟩
      · refine ⟨[45, 105, 110, 102], by simp, fun w => ?_⟩
        have hb : (FloatKind.f32.format.order x 0 == some .gt) = false := by
          rw [beq_eq_false_iff_ne]; exact hg
        rcases ho3 : FloatKind.f32.format.order x 0 with _ | oo
        · clear hb hg
          go_enter Try.func55, Try.ntmps55
          go_wp2_with fail
          refine (l1Finite_any x _).mono ?_
          rintro _ _ ⟨n, rfl, rfl⟩
          rw [H1.out]
          clear ho
          go_wp2_with fail
          go_ret
          exact ⟨rfl, (Span.refl _ _ _).drewN _⟩
        · cases oo
          · clear hb hg
            go_enter Try.func55, Try.ntmps55
            go_wp2_with fail
            refine (l1Finite_any x _).mono ?_
            rintro _ _ ⟨n, rfl, rfl⟩
            rw [H1.out]
            clear ho
            go_wp2_with fail
            go_ret
            exact ⟨rfl, (Span.refl _ _ _).drewN _⟩
          · clear hb hg
            go_enter Try.func55, Try.ntmps55
            go_wp2_with fail
            refine (l1Finite_any x _).mono ?_
            rintro _ _ ⟨n, rfl, rfl⟩
            rw [H1.out]
            clear ho
            go_wp2_with fail
            go_ret
            exact ⟨rfl, (Span.refl _ _ _).drewN _⟩
          · exact absurd ho3 hg

theorem ba_space (a b : List UInt8) : (⟨a.toArray⟩ : ByteArray) ++ ⟨#[32]⟩ ++ ⟨b.toArray⟩ = ⟨(a ++ [32] ++ b).toArray⟩ := by
  rw [show (⟨#[32]⟩ : ByteArray) = ⟨[32].toArray⟩ from rfl, ba_app, ba_app]

theorem l8Point_det (z : Cx) : ∃ l : List UInt8, l.length ≤ 90 ∧ ∀ w, Calls Try.prog 33 #[cxV z] w (GivesTxt l w) := by
  obtain ⟨x, y⟩ := z
  obtain ⟨l1, n1, c1⟩ := l8Single_det x
  obtain ⟨l2, n2, c2⟩ := l8Single_det y
  refine ⟨l1 ++ [32] ++ l2, by simp; omega, fun w => ?_⟩
  have C1 := Lib.hid c1
  have C2 := Lib.hid c2
  clear c1 c2
  unfold cxV
  go_enter Try.func33, Try.ntmps33
  go_wp2_with fail
  refine (C1.out _).mono ?_
  rintro _ w1 ⟨rfl, s1⟩
  have S1 := Lib.hid s1
  clear s1
  go_wp2_with fail
  refine (C2.out _).mono ?_
  rintro _ w2 ⟨rfl, s2⟩
  have S2 := Lib.hid (s2.after S1.out)
  clear s2
  go_wp2_with fail
  go_ret
  exact ⟨congrArg (fun b => Ending.returned (Value.string b)) (ba_space l1 l2), S2.out⟩

theorem l8Int_any (n : Nat) (hn : n ≤ 4194304) (w : World) : Calls Try.prog 34 #[.int .i64 (n : Int)] w (GivesTxt (Lib.itoa (n : Int)) w) := by
  have i0 : (0 : Int) ≤ (n : Int) := by omega
  have i1 : (n : Int) ≤ 4194304 := by omega
  have i2 : ¬ (n : Int) < -9223372036854775807 := by omega
  clear hn
  go_enter Try.func34, Try.ntmps34
  go_wp2_with fail
  refine (l1Number_any (n : Int) (by omega) (by omega) _).mono ?_
  rintro _ w1 ⟨rfl, s1⟩
  have S1 := Lib.hid s1
  clear s1
  go_wp2_with fail
  go_ret
  exact ⟨rfl, S1.out⟩

/-- The text of the store, of the leases. -/
def storeT (f : Cx → List UInt8) (S : List Cx) : List UInt8 := (S.map fun z => f z ++ [59]).flatten
def leaseT (x : Ls) : List UInt8 := Lib.itoa (x.start : Int) ++ [32] ++ Lib.itoa (x.count : Int) ++ [32] ++ Lib.itoa (x.room : Int) ++ (if x.free then [32, 102, 114, 101, 101] else []) ++ [59]
def leasesT (L : List Ls) : List UInt8 := (L.map leaseT).flatten

theorem storeT_succ {f : Cx → List UInt8} {S : List Cx} {k : Nat} {z : Cx} (h : S[k]? = some z) : storeT f (S.take (k + 1)) = storeT f (S.take k) ++ f z ++ [59] := by
  rw [take_snoc_of h]; unfold storeT; simp
theorem leasesT_succ {L : List Ls} {k : Nat} {x : Ls} (h : L[k]? = some x) : leasesT (L.take (k + 1)) = leasesT (L.take k) ++ leaseT x := by
  rw [take_snoc_of h]; unfold leasesT; simp
theorem storeT_len {f : Cx → List UInt8} (hf : ∀ z, (f z).length ≤ 90) : ∀ S : List Cx, (storeT f S).length ≤ 91 * S.length
  | [] => by simp [storeT]
  | z :: S => by
    have := storeT_len hf S
    have := hf z
    unfold storeT at *
    simp only [List.map_cons, List.flatten_cons, List.length_append, List.length_cons, List.length_nil] at *
    omega
theorem leaseT_len {x : Ls} (h : x.start ≤ 4194304 ∧ x.count ≤ 4194304 ∧ x.room ≤ 4194304) : (leaseT x).length ≤ 71 := by
  have l1 := itoa_len (n := (x.start : Int)) (by omega) (by omega)
  have l2 := itoa_len (n := (x.count : Int)) (by omega) (by omega)
  have l3 := itoa_len (n := (x.room : Int)) (by omega) (by omega)
  have l4 : (if x.free then ([32, 102, 114, 101, 101] : List UInt8) else []).length ≤ 5 := by split <;> simp
  unfold leaseT
  simp only [List.length_append, List.length_cons, List.length_nil] at l4 ⊢
  omega
theorem leasesT_len : ∀ L : List Ls, (∀ x ∈ L, x.start ≤ 4194304 ∧ x.count ≤ 4194304 ∧ x.room ≤ 4194304) → (leasesT L).length ≤ 71 * L.length
  | [], _ => by simp [leasesT]
  | x :: L, h => by
    have := leasesT_len L (fun y hy => h y (List.mem_cons_of_mem _ hy))
    have := leaseT_len (h x (List.mem_cons_self ..))
    unfold leasesT at *
    simp only [List.map_cons, List.flatten_cons, List.length_append, List.length_cons] at *
    omega

theorem VP.small {p : Pl} (h : VP p) : ∀ x ∈ p.2, x.start ≤ 256 ∧ x.count ≤ 256 ∧ x.room ≤ 256 := by
  intro x hx
  have := h.size
  cases hf : x.free with
  | true => obtain ⟨a, b, c⟩ := (h.ok x hx).fr hf; omega
  | false => obtain ⟨a, b, c⟩ := (h.ok x hx).lent hf; omega

theorem ba_semi (a b : List UInt8) : (⟨a.toArray⟩ : ByteArray) ++ ⟨b.toArray⟩ ++ ⟨#[59]⟩ = ⟨(a ++ b ++ [59]).toArray⟩ := by
  rw [show (⟨#[59]⟩ : ByteArray) = ⟨[59].toArray⟩ from rfl, ba_app, ba_app]

theorem ba_leaseT (a s c r : List UInt8) : (⟨a.toArray⟩ : ByteArray) ++ ⟨s.toArray⟩ ++ ⟨#[32]⟩ ++ ⟨c.toArray⟩ ++ ⟨#[32]⟩ ++ ⟨r.toArray⟩ ++ ⟨#[32, 102, 114, 101, 101]⟩ ++ ⟨#[59]⟩ = ⟨(a ++ (s ++ [32] ++ c ++ [32] ++ r ++ (if true = true then [32, 102, 114, 101, 101] else []) ++ [59])).toArray⟩ := by
  rw [show (⟨#[32]⟩ : ByteArray) = ⟨[32].toArray⟩ from rfl, show (⟨#[59]⟩ : ByteArray) = ⟨[59].toArray⟩ from rfl, show (⟨#[32, 102, 114, 101, 101]⟩ : ByteArray) = ⟨[32, 102, 114, 101, 101].toArray⟩ from rfl]
  simp only [ba_app, if_true, List.append_assoc]
theorem ba_leaseF (a s c r : List UInt8) : (⟨a.toArray⟩ : ByteArray) ++ ⟨s.toArray⟩ ++ ⟨#[32]⟩ ++ ⟨c.toArray⟩ ++ ⟨#[32]⟩ ++ ⟨r.toArray⟩ ++ ⟨#[59]⟩ = ⟨(a ++ (s ++ [32] ++ c ++ [32] ++ r ++ (if false = true then [32, 102, 114, 101, 101] else []) ++ [59])).toArray⟩ := by
  rw [show (⟨#[32]⟩ : ByteArray) = ⟨[32].toArray⟩ from rfl, show (⟨#[59]⟩ : ByteArray) = ⟨[59].toArray⟩ from rfl]
  simp only [ba_app, Bool.false_eq_true, if_false, List.nil_append, List.append_assoc]
end
end Go.Proofs.Ytfafkdpefdpnkaa
