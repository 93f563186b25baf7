/- The program's pools: leases cloned, a pool copied. The program's pools: a lease fits the store; the lent leases in order. -/
import Derived.Test.YtlhocjoncblocaaJq25
import Derived.Test.YtlhocjoncblocaaJq31
import Derived.Test.YtlhocjoncblocaaJq36
import Derived.Test.YtlhocjoncblocaaJq34
import Derived.Test.YtlhocjoncblocaaJq26
namespace Go.Proofs.Ytlhocjoncblocaa
section
open Go.RowKit

/-- Leases that the call owns. -/
def GivesLo (L : List Ls) (w : World) (en : Ending) (w' : World) : Prop :=
  ∃ A q, en = .returned (.slice A L.length q) ∧ w'.ownsRow w.heap.size 30 4 (.slice A L.length q) L.length (flat L) ∧ Span 0 0 w w'

set_option maxRecDepth 100000 in
set_option maxHeartbeats 1000000 in
theorem cloneL_own (L : List Ls) (b lo hi : Nat) (v : Value) (w : World) (hx : HasL b lo hi w v L) (hlen : L.length ≤ 4194304) :
    Calls Try.prog 44 #[v] w (GivesLo L w) := by
  have HX := Lib.hid hx
  obtain ⟨ip, hip, hzp, hsp, hbp⟩ := info_parts info_lease
  obtain ⟨A, cap, rfl, hcap, hc⟩ := hx
  obtain ⟨len, hl⟩ : ∃ len, len = L.length := ⟨_, rfl⟩
  have HL := Lib.hid hl
  rw [← hl] at hcap hlen HX ⊢
  cases A with
  | none =>
    have h0 : len = 0 := by
      by_cases h : 0 < len
      · obtain ⟨off, e, _⟩ := hc (by omega)
        cases e
      · omega
    subst h0
    have HE : Hid (L = []) := by cases L with | nil => exact rfl | cons a l => simp at hl
    clear hc hl
    have hq := Lib.run_eql_slice_nil (P := Try.prog) w 24 30 none 0 cap 0 0 Try.underlying24
    go_enter Try.func44, Try.ntmps44
    go_wp2
    go_ret
    rw [HE.out]
    exact ⟨none, 0, rfl, World.ownsRow_nil _ _ _ _, Span.refl _ _ _⟩
  | some ad =>
    have HO := Lib.hid (World.ownsRow_made (base := w.heap.size) (e := 30) (size := 4) w #[] 0 (Nat.le_refl _) (Nat.zero_le _) rfl)
    have HN : Hid (∀ (o : Obj) (j : Nat) u, (flat L)[j]? = some u → (w.alloc o).cell? (ad.add j) = some u) := by
      unfold Hid
      intro o j u hj
      exact (HX.out.span ((Span.refl 0 0 w).alloc o) (.inl (Nat.le_refl _))).newsOf.2.2 ad rfl j u hj
    clear hc hl
    have hq := Lib.run_eql_slice_nil (P := Try.prog) w 24 30 (some ad) len cap 0 0 Try.underlying24
    go_enter Try.func44, Try.ntmps44
    go_wp2_with (at_builtin; go_loud ((refine wpList_append_own _ rfl _ _ 24 rfl w.heap.size 30 ip (.agg #[.int .i64 0, .int .i64 0, .int .i64 0, .bool false]) 4 32 Try.underlying24 hip hzp hsp hbp rfl (by decide) _ _ _ rfl HO.out ad len cap (flat L) rfl ?c1 ?c2 ?c3 ?c4 ?c5 ?c6 ?_); (case c1 => rw [flat_length, ← HL.out]); (case c2 => exact HN.out _); (case c3 => exact fun u hu => flat_one' u hu); (case c4 => unfold maxLen; omega); (case c5 => omega); (case c6 => simp); intro v1 w1 ho hgr _; rw [Nat.zero_add, List.nil_append] at ho; obtain ⟨A1, q1, rfl⟩ := ownsRow_slice ho; have HO1 := Lib.hid ho; have HG1 := Lib.hid hgr; clear ho hgr))
    go_ret
    have ho := HO1.out
    rw [HL.out] at ho
    exact ⟨A1, q1, by rw [HL.out]; rfl, ho, ((Span.refl _ _ _).alloc _).grown HG1.out (fun k hk => by have hk' : some w.heap.size = some k := hk; injection hk' with hk'; right; omega)⟩

set_option maxRecDepth 100000 in
set_option maxHeartbeats 2000000 in
theorem copyPool_own (p : Pl) (lo hi : Nat) (v : Value) (w : World) (hx : HasP lo hi w v p) (hm : p.1.length ≤ 4194304) (ht : p.2.length ≤ 4194304) :
    Calls Try.prog 50 #[v] w (OwnsP p w) := by
  obtain ⟨b1, b2, vP, vL, rfl, g1, g2⟩ := hx
  have G1 := Lib.hid g1
  have G2 := Lib.hid g2
  obtain ⟨AP, cP, rfl, _, _⟩ := g1
  obtain ⟨AL, cL, rfl, _, _⟩ := g2
  have HT := Lib.hid ht
  have HM := Lib.hid hm
  obtain ⟨lp, hlp⟩ : ∃ n, n = p.1.length := ⟨_, rfl⟩
  obtain ⟨ll, hll⟩ : ∃ n, n = p.2.length := ⟨_, rfl⟩
  have HLP := Lib.hid hlp
  have HLL := Lib.hid hll
  rw [← hlp] at G1 ⊢
  rw [← hll] at G2 ⊢
  clear ht hm hlp hll
  go_enter Try.func50, Try.ntmps50
  go_wp2_with fail
  have X0 := Lib.hid ((Box.new w (.slice AP lp cP) (.slice AL ll cL) 26).alloc (.cells #[.slice none 0 0, .slice none 0 0] 26))
  have X1 := Lib.hid (Box.new (w.alloc (.cells #[.slice AP lp cP, .slice AL ll cL] 26)) (.slice none 0 0) (.slice none 0 0) 26)
  have HS := Lib.hid ((((Span.refl 0 0 w).alloc (.cells #[.slice AP lp cP, .slice AL ll cL] 26))).alloc (.cells #[.slice none 0 0, .slice none 0 0] 26))
  rw [show (w.alloc (.cells #[.slice AP lp cP, .slice AL ll cL] 26)).heap.size = w.heap.size + 1 by simp] at X1
  generalize (w.alloc (.cells #[.slice AP lp cP, .slice AL ll cL] 26)).alloc (.cells #[.slice none 0 0, .slice none 0 0] 26) = w0 at *
  obtain ⟨hz, x0, x1, _, _⟩ := X0.out
  have HZ := Lib.hid hz
  clear hz
  go_region_with (first
    | (go_at_call 54; go_loud ((refine (cloneC_own p.1 false b1 lo hi _ _ ((G1.out.span HS.out (.inl (Nat.le_refl _))).drewN _) HM.out).mono ?_; rintro _ w1 ⟨A1, q1, rfl, h1, s1⟩; rw [← HLP.out] at h1 ⊢; have X01 := (X0.out.drewN 1).span s1 (.inl (Nat.le_refl _)); have X11 := Lib.hid ((X1.out.drewN 1).span s1 (.inl (Nat.le_refl _))); have S1 := Lib.hid (s1.after (HS.out.drewN 1)); have H1 := Lib.hid h1; have Z1 : Hid (w0.heap.size ≤ w1.heap.size) := s1.size; obtain ⟨_, z0, z1, _, _⟩ := X01; clear h1 s1)))
    | (go_at_call 44; go_loud ((refine (cloneL_own p.2 b2 lo hi _ _ (G2.out.span S1.out (.inl (Nat.le_refl _))) HT.out).mono ?_; rintro _ w2 ⟨A2, q2, rfl, h2, s2⟩; rw [← HLL.out] at h2 ⊢; have X12 := X11.out.span s2 (.inl (Nat.le_refl _)); have S2 := Lib.hid (s2.after S1.out); have H12 := Lib.hid (ownsRow_span H1.out s2); have H2 := Lib.hid h2; have Z2 : Hid (w1.heap.size ≤ w2.heap.size) := s2.size; have HB := Lib.hid (box_stored (u' := .slice A1 lp q1) (v' := .slice A2 ll q2) X12); obtain ⟨_, r0, r1, r2, r3⟩ := X12; clear h2 s2))))
  all_goals
    go_wp2_with fail
    have z1 := X1.out.1
    have z4 : w0.heap.size ≤ w1.heap.size := Z1.out
    have z5 : w1.heap.size ≤ w2.heap.size := Z2.out
    refine bodyPost_ret (v := .agg #[.slice A1 lp q1, .slice A2 ll q2]) (by simp [results, Try.results50, go_sem, HB.out.1, HB.out.2]) rfl ⟨A1, q1, A2, q2, by rw [← HLP.out, ← HLL.out], ?_, ?_, ?_⟩
    · rw [← HLP.out]
      have g1 : w2.ownsRow w0.heap.size 48 1 (.slice A1 lp q1) lp (p.1.map cxV) := H12.out
      exact ownsRow_lower (ownsRow_setCell_below (ownsRow_setCell_below g1 (a := ⟨w.heap.size + 1, 0, none⟩) z1 (.slice A1 lp q1)) (a := ⟨w.heap.size + 1, 1, none⟩) z1 (.slice A2 ll q2)) (by omega)
    · rw [← HLL.out]
      have g2 : w2.ownsRow w1.heap.size 30 4 (.slice A2 ll q2) ll (flat p.2) := H2.out
      exact ownsRow_lower (ownsRow_setCell_below (ownsRow_setCell_below g2 (a := ⟨w.heap.size + 1, 0, none⟩) (by simp only; omega) (.slice A1 lp q1)) (a := ⟨w.heap.size + 1, 1, none⟩) (by simp only; omega) (.slice A2 ll q2)) (by omega)
    · exact (S2.out.setCell (.inr (by simp)) _).setCell (.inr (by simp)) _
end
section
open Go.RowKit

theorem lease_eq_free (w : World) : (binOp .eql 30 (.agg #[.int .i64 0, .int .i64 0, .int .i64 0, .bool true]) (.agg #[.int .i64 0, .int .i64 0, .int .i64 0, .bool true])).run Try.prog w = .ok (.bool true) w := by
  have u3 := Try.underlying3
  have a3 := Try.isAgg3
  have z3 := Try.sizeOf3
  have u4 := Try.underlying4
  have a4 := Try.isAgg4
  have z4 := Try.sizeOf4
  have hS : Try.prog.underlying 30 = some (.struct (Try.prog.fieldsOf 30)) := by kernel_rfl
  have hp : Try.prog.stoodInHeld 30 = false := by kernel_rfl
  rw [run_eql_struct, show (10000 : Nat) = 9999 + 1 from rfl, run_equalIn_agg w 9999 30 _ _ hS hp]
  simp only [Program.fieldsOf, Try.underlying30]
  go_simp

set_option maxRecDepth 100000 in
set_option maxHeartbeats 1000000 in
theorem fitsStore_true (x : Ls) (n : Nat) (h : OkL n x) (hn : n ≤ 256) (w : World) :
    Calls Try.prog 75 #[lsV x, .int .i64 (n : Int)] w (Bool0 true w) := by
  obtain ⟨s, c, r, fr⟩ := x
  unfold lsV
  simp only
  cases fr with
  | true =>
    obtain ⟨e1, e2, e3⟩ := h.fr rfl
    simp only at e1 e2 e3
    subst e1 e2 e3
    have X := Bx.new w #[.int .i64 ((0 : Nat) : Int), .int .i64 ((0 : Nat) : Int), .int .i64 ((0 : Nat) : Int), .bool true] 30
    have cx := X.cells
    have S := Lib.hid ((Span.refl 0 0 w).alloc (.cells #[.int .i64 ((0 : Nat) : Int), .int .i64 ((0 : Nat) : Int), .int .i64 ((0 : Nat) : Int), .bool true] 30))
    have he := lease_eq_free (w.alloc (.cells #[.int .i64 0, .int .i64 0, .int .i64 0, .bool true] 30))
    clear h X
    go_enter Try.func75, Try.ntmps75
    go_wp2_with fail
    go_ret
    exact ⟨rfl, S.out⟩
  | false =>
    obtain ⟨o1, o2, o3⟩ := h.lent rfl
    simp only at o1 o2 o3
    have X := Bx.new w #[.int .i64 (s : Int), .int .i64 (c : Int), .int .i64 (r : Int), .bool false] 30
    have cx := X.cells
    have S := Lib.hid ((Span.refl 0 0 w).alloc (.cells #[.int .i64 (s : Int), .int .i64 (c : Int), .int .i64 (r : Int), .bool false] 30))
    have i1 : (1 : Int) ≤ (r : Int) := by omega
    have i2 : (c : Int) ≤ (r : Int) := by omega
    have i3 : (r : Int) ≤ wrap64 ((n : Int) - (s : Int)) := by rw [IntWalk.wrap64_in _ (by omega)]; omega
    clear h X o1 o2 o3
    go_enter Try.func75, Try.ntmps75
    go_wp2_with fail
    go_ret
    exact ⟨rfl, S.out⟩
end
end Go.Proofs.Ytlhocjoncblocaa
