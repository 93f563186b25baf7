/- The model's MergeTables, of valid tables. -/
import Derived.Test.YtealnolpcoalgaaU17
namespace Go.Proofs.Ytealnolpcoalgaa
open Go.RowKit

/-- The model's merge under way: the table in the box T, the other one in the box T3, the result's box R. -/
structure SMrg (R T3 T : Nat) (w : World) (u3 v3 : Value) (M : Tab) (vP vL : Value) (wr : World) : Prop where
  r : Box R (.slice none 0 0) (.slice none 0 0) wr
  b3 : Box T3 u3 v3 wr
  bt : Box T vP vL wr
  tab : HasTab true (R + 1) T wr (.agg #[vP, vL]) M ∨ HasTab true (T + 1) wr.heap.size wr (.agg #[vP, vL]) M
  s : Span 0 0 w wr

theorem SMrg.span {R T3 T : Nat} {w : World} {u3 v3 : Value} {M : Tab} {vP vL : Value} {wr w' : World} (h : SMrg R T3 T w u3 v3 M vP vL wr) (s : Span 0 0 wr w') : SMrg R T3 T w u3 v3 M vP vL w' :=
  ⟨h.r.span s (.inl (Nat.le_refl _)), h.b3.span s (.inl (Nat.le_refl _)), h.bt.span s (.inl (Nat.le_refl _)),
    h.tab.imp (fun g => g.span s (.inl (Nat.le_refl _))) (fun g => (g.span s (.inl (Nat.le_refl _))).weak (Nat.le_refl _) (.inl s.size)), s.after h.s⟩

theorem SMrg.limbs {R T3 T : Nat} {w : World} {u3 v3 : Value} {M : Tab} {vP vL : Value} {wr w' : World} (h : SMrg R T3 T w u3 v3 M vP vL wr) (s : Span 0 0 wr w') {p : Addr} {x : Value} (hp : ∀ w', Span 0 0 wr w' → w'.cell? p = some x) :
    w'.cell? ⟨T, 0, none⟩ = some vP ∧ w'.cell? ⟨T, 1, none⟩ = some vL ∧ w'.cell? ⟨T3, 1, none⟩ = some v3 ∧ w'.cell? p = some x ∧ Span 0 0 wr w' := by
  obtain ⟨_, t0, t1, _⟩ := h.bt.span s (.inl (Nat.le_refl _))
  obtain ⟨_, _, t3, _⟩ := h.b3.span s (.inl (Nat.le_refl _))
  exact ⟨t0, t1, t3, hp _ s, s⟩

theorem far2 {wr w' : World} {N : Nat} (s : Span 0 0 wr w') (hN : wr.heap.size ≤ N) (u v : Value) : Span 0 0 wr ((w'.setCell ⟨N, 0, none⟩ u).setCell ⟨N, 1, none⟩ v) := (s.setCell (.inr hN) _).setCell (.inr hN) _

/-- The whole table of the box, whatever its blocks. -/
theorem SMrg.whole {R T3 T : Nat} {w : World} {u3 v3 : Value} {M : Tab} {vP vL : Value} {wr : World} (h : SMrg R T3 T w u3 v3 M vP vL wr) (hT : R < T) (hw : w.heap.size ≤ R) : HasTab true w.heap.size wr.heap.size wr (.agg #[vP, vL]) M := by
  have := h.bt.1
  rcases h.tab with g | g
  · exact g.weak (by omega) (.inl (by omega))
  · exact g.weak (by omega) (.inl (Nat.le_refl _))

theorem SMrg.tabR {R T3 T : Nat} {w : World} {u3 v3 : Value} {M : Tab} {vP vL : Value} {wr w' : World} (h : SMrg R T3 T w u3 v3 M vP vL wr) (hT : R < T) (hw : w.heap.size ≤ R) (sp : Span R (R + 1) wr w') : HasTab true w.heap.size w'.heap.size w' (.agg #[vP, vL]) M := by
  have h1 := h.bt.1
  have h2 := sp.size
  rcases h.tab with g | g
  · exact (g.span sp (by omega)).weak (by omega) (.inl (by omega))
  · exact (g.span sp (by omega)).weak (by omega) (.inl h2)

/-- What the region that puts a point leaves: the table is as it was, the new one lies in the box N. -/
def SPut (R T3 T : Nat) (w : World) (u3 v3 : Value) (M : Tab) (vP vL : Value) (M' : Tab) (s9 s10 : Value) (wx : World) : Prop :=
  ∃ (N : Nat) (A7 : Option Addr) (q7 : Nat) (A8 : Option Addr) (q8 : Nat), s9 = .pointer (some ⟨N, 0, none⟩) ∧ s10 = .bool true ∧ SMrg R T3 T w u3 v3 M vP vL wx ∧
    HasTab true (T + 1) wx.heap.size wx (.agg #[.slice A7 M'.1.length q7, .slice A8 M'.2.length q8]) M' ∧
    wx.cell? ⟨N, 0, none⟩ = some (.slice A7 M'.1.length q7) ∧ wx.cell? ⟨N, 1, none⟩ = some (.slice A8 M'.2.length q8)

theorem SPut.mk' {R T3 T : Nat} {w : World} {u3 v3 : Value} {M M' : Tab} {vP vL : Value} {wr w' : World} {N lo hi : Nat} {A7 : Option Addr} {q7 : Nat} {A8 : Option Addr} {q8 : Nat} (h : SMrg R T3 T w u3 v3 M vP vL wr) (s : Span 0 0 wr w') (hb : Box N (.slice none 0 0) (.slice none 0 0) w') (hN : wr.heap.size ≤ N)
    (hu : HasTab true lo hi w' (.agg #[.slice A7 M'.1.length q7, .slice A8 M'.2.length q8]) M') (hlo : wr.heap.size ≤ lo) (hn : N < lo ∨ hi ≤ N) :
    SPut R T3 T w u3 v3 M vP vL M' (.pointer (some ⟨N, 0, none⟩)) (.bool true) ((w'.setCell ⟨N, 0, none⟩ (.slice A7 M'.1.length q7)).setCell ⟨N, 1, none⟩ (.slice A8 M'.2.length q8)) := by
  have sp : Span N (N + 1) w' ((w'.setCell ⟨N, 0, none⟩ (.slice A7 M'.1.length q7)).setCell ⟨N, 1, none⟩ (.slice A8 M'.2.length q8)) := ((Span.refl _ _ w').setCell (p := ⟨N, 0, none⟩) (.inl ⟨Nat.le_refl _, Nat.lt_succ_self _⟩) _).setCell (p := ⟨N, 1, none⟩) (.inl ⟨Nat.le_refl _, Nat.lt_succ_self _⟩) _
  have hTl := h.bt.1
  have h1 := hu.span sp (by omega)
  refine ⟨N, A7, q7, A8, q8, rfl, rfl, h.span (far2 s hN _ _), ?_, (box_stored hb).1, (box_stored hb).2⟩
  obtain ⟨b1, b2, vP', vL', e, hne, g1, g2⟩ := h1
  exact ⟨b1, b2, vP', vL', e, hne, g1.weak (by omega) (.inr (Nat.le_refl _)), g2.weak (by omega) (.inr (Nat.le_refl _))⟩

theorem SPut.new {R T3 T : Nat} {w : World} {u3 v3 : Value} {M M' : Tab} {vP vL : Value} {wr w' : World} {lo hi : Nat} {A7 : Option Addr} {q7 : Nat} {A8 : Option Addr} {q8 : Nat} (h : SMrg R T3 T w u3 v3 M vP vL wr) (s : Span 0 0 wr w')
    (hu : HasTab true lo hi w' (.agg #[.slice A7 M'.1.length q7, .slice A8 M'.2.length q8]) M') (hlo : wr.heap.size ≤ lo) (hh : hi ≤ w'.heap.size) :
    SPut R T3 T w u3 v3 M vP vL M' (.pointer (some ⟨w'.heap.size, 0, none⟩)) (.bool true) (w'.alloc (.cells #[.slice A7 M'.1.length q7, .slice A8 M'.2.length q8] 26)) := by
  have hTl := h.bt.1
  refine ⟨w'.heap.size, A7, q7, A8, q8, rfl, rfl, h.span (s.alloc _), ?_, (box2_new _ _ _ _).1, (box2_new _ _ _ _).2⟩
  exact (hu.span ((Span.refl 0 0 w').alloc _) (.inl (Nat.le_refl _))).weak (by omega) (.inl (by simp; omega))

theorem SMrg.store {R T3 T : Nat} {w : World} {u3 v3 : Value} {M M' : Tab} {vP vL vP' vL' : Value} {wr : World} (h : SMrg R T3 T w u3 v3 M vP vL wr) (hR : R < T) (hT3 : T3 < T) (hw : w.heap.size ≤ T) (hu : HasTab true (T + 1) wr.heap.size wr (.agg #[vP', vL']) M') :
    SMrg R T3 T w u3 v3 M' vP' vL' ((wr.setCell ⟨T, 0, none⟩ vP').setCell ⟨T, 1, none⟩ vL') := by
  have hTl := h.bt.1
  have sp : Span T (T + 1) wr ((wr.setCell ⟨T, 0, none⟩ vP').setCell ⟨T, 1, none⟩ vL') := ((Span.refl T (T + 1) wr).setCell (p := ⟨T, 0, none⟩) (.inl ⟨Nat.le_refl _, Nat.lt_succ_self _⟩) vP').setCell (p := ⟨T, 1, none⟩) (.inl ⟨Nat.le_refl _, Nat.lt_succ_self _⟩) vL'
  have hs := box_stored (u' := vP') (v' := vL') h.bt
  exact ⟨h.r.span sp (by omega), h.b3.span sp (by omega), ⟨by simpa [World.setCell] using hTl, hs.1, hs.2, by rw [World.frozen?_setCell, World.frozen?_setCell]; exact h.bt.2.2.2.1, by rw [World.frozen?_setCell, World.frozen?_setCell]; exact h.bt.2.2.2.2⟩,
    .inr ((hu.span sp (by omega)).weak (Nat.le_refl _) (.inl sp.size)), (h.s.setCell (.inr hw) _).setCell (.inr hw) _⟩

/-- What the loop keeps. -/
def SMLoop (R T3 T : Nat) (w : World) (u3 v3 : Value) (a b : Tab) (c : Value) (wr : World) : Prop :=
  ∃ (k : Nat) (M : Tab) (A : Option Addr) (q : Nat) (A' : Option Addr) (q' : Nat), k ≤ b.1.length ∧ c = .int .i64 k ∧ Merged a b k M ∧ SMrg R T3 T w u3 v3 M (.slice A M.1.length q) (.slice A' M.2.length q') wr

set_option maxRecDepth 100000 in
set_option maxHeartbeats 4000000 in
theorem spec_mergeTables (a b : Tab) (oa ob : Bool) (la ha' lb' hb' : Nat) (va vb : Value) (w : World) (hxa : HasTab oa la ha' w va a) (hxb : HasTab ob lb' hb' w vb b) (hva : Valid a) (hvb : Valid b) (hsum : a.1.length + b.1.length ≤ 64) :
    Calls Try.prog 11 #[va, vb] w (GivesMerged a b w) := by
  obtain ⟨b1, b2, vP1, vL1, ea, hne1, g1, g2⟩ := id hxa
  obtain ⟨AP, cP, rfl, _, _⟩ := id g1
  obtain ⟨AL, cL, rfl, _, _⟩ := id g2
  subst ea
  obtain ⟨b4, b5, vP4, vL4, eb, hne4, g4, g5⟩ := id hxb
  obtain ⟨BP, cB, rfl, hcB, hB4⟩ := id g4
  obtain ⟨BL, cBL, rfl, hcBL, hB5⟩ := id g5
  subst eb
  obtain ⟨lp, hlp⟩ : ∃ n, n = a.1.length := ⟨_, rfl⟩
  have hll : lp = a.2.length := by rw [hva.len]; exact hlp
  obtain ⟨lb, hlb⟩ : ∃ n, n = b.1.length := ⟨_, rfl⟩
  have hlbl : lb = b.2.length := by rw [hvb.len]; exact hlb
  rw [← hll, ← hlp] at hxa
  rw [← hlp] at g1
  rw [← hlb] at hxb g4 hB4 hcB
  rw [← hlbl] at hxb g5 hB5 hcBL
  rw [← hlp] at hsum
  rw [← hlb] at hsum
  rw [← hll, ← hlp, ← hlb, ← hlbl]
  have HXA := Lib.hid hxa
  have HXB := Lib.hid hxb
  have HG4 := Lib.hid g4
  have HG5 := Lib.hid g5
  have HVA := Lib.hid hva
  have HVB := Lib.hid hvb
  have HLP := Lib.hid hlp
  have HLL := Lib.hid hll
  have HLB := Lib.hid hlb
  have HLBL := Lib.hid hlbl
  have HSM : Hid (lp + lb ≤ 64) := hsum
  clear hxa hxb g1 g2 g4 g5 hne1 hva hvb hlp hll hlb hlbl hcB hB4 hcBL hB5 hsum hne4
  have X0 := Lib.hid (((Box.new w (.slice AP lp cP) (.slice AL lp cL) 26).alloc (.cells #[.slice BP lb cB, .slice BL lb cBL] 26)).alloc (.cells #[.slice none 0 0, .slice none 0 0] 26))
  have X1 := Lib.hid ((Box.new (w.alloc (.cells #[.slice AP lp cP, .slice AL lp cL] 26)) (.slice BP lb cB) (.slice BL lb cBL) 26).alloc (.cells #[.slice none 0 0, .slice none 0 0] 26))
  have X2 := Lib.hid (Box.new ((w.alloc (.cells #[.slice AP lp cP, .slice AL lp cL] 26)).alloc (.cells #[.slice BP lb cB, .slice BL lb cBL] 26)) (.slice none 0 0) (.slice none 0 0) 26)
  rw [show (w.alloc (.cells #[.slice AP lp cP, .slice AL lp cL] 26)).heap.size = w.heap.size + 1 by simp] at X1
  rw [show ((w.alloc (.cells #[.slice AP lp cP, .slice AL lp cL] 26)).alloc (.cells #[.slice BP lb cB, .slice BL lb cBL] 26)).heap.size = w.heap.size + 1 + 1 by simp] at X2
  have HS := Lib.hid ((((Span.refl 0 0 w).alloc (.cells #[.slice AP lp cP, .slice AL lp cL] 26)).alloc (.cells #[.slice BP lb cB, .slice BL lb cBL] 26)).alloc (.cells #[.slice none 0 0, .slice none 0 0] 26))
  go_enter Try.func11, Try.ntmps11
  go_wp2_with fail
  refine (spec_isTable_true a oa _ _ _ _ (HXA.out.span HS.out (.inl (Nat.le_refl _))) HVA.out).mono ?_
  rintro _ w1 ⟨rfl, s1⟩
  have Y0 := Lib.hid (X0.out.span s1 (.inl (Nat.le_refl _)))
  have Y1 := Lib.hid (X1.out.span s1 (.inl (Nat.le_refl _)))
  have Y2 := Lib.hid (X2.out.span s1 (.inl (Nat.le_refl _)))
  have S1 := Lib.hid (s1.after HS.out)
  obtain ⟨_, x0, x1, _, _⟩ := Y1.out
  clear s1 X0 X1 X2 HS
  go_wp2_with fail
  refine (spec_isTable_true b ob _ _ _ _ (HXB.out.span S1.out (.inl (Nat.le_refl _))) HVB.out).mono ?_
  rintro _ w2 ⟨rfl, s2⟩
  have Z0 := Lib.hid (Y0.out.span s2 (.inl (Nat.le_refl _)))
  have Z1 := Lib.hid (Y1.out.span s2 (.inl (Nat.le_refl _)))
  have Z2 := Lib.hid (Y2.out.span s2 (.inl (Nat.le_refl _)))
  have S2 := Lib.hid (s2.after S1.out)
  clear s2 Y0 Y1 Y2 S1 x0 x1
  obtain ⟨_, x0, x1, _, _⟩ := Z0.out
  go_wp2_with fail
  refine (l2Copy_any a oa _ _ _ _ (HXA.out.span S2.out (.inl (Nat.le_refl _))) (by have := HVA.out.most; omega) (by have := HVA.out.most; have := HVA.out.len; omega)).mono ?_
  rintro _ w3 ⟨A1, q1, A2, q2, rfl, hp, hl, s3⟩
  have HRB : Hid (w.heap.size + 1 + 1 < w3.heap.size) := Nat.lt_of_lt_of_le Z2.out.1 s3.size
  have hs2 := S2.out.size
  have s2' := s3.size
  have TP : Hid (SMrg (w.heap.size + 1 + 1) (w.heap.size + 1) w3.heap.size w (.slice BP lb cB) (.slice BL lb cBL) a (.slice A1 a.1.length q1) (.slice A2 a.2.length q2) (w3.alloc (.cells #[.slice A1 a.1.length q1, .slice A2 a.2.length q2] 26))) :=
    ⟨(Z2.out.span s3 (.inl (Nat.le_refl _))).alloc _, (Z1.out.span s3 (.inl (Nat.le_refl _))).alloc _, Box.new _ _ _ _,
      .inl (((owned_tab hp hl).span ((Span.refl 0 0 w3).alloc _) (.inl (Nat.le_refl _))).weak Z2.out.1 (.inl (Nat.le_refl _))), (s3.after S2.out).alloc _⟩
  rw [← HLP.out, ← HLL.out]
  rw [← HLP.out, ← HLL.out] at TP
  clear s3 hp hl s2' hs2 Z0 Z1 Z2 x0 x1
  obtain ⟨_, x0, x1, _, _⟩ := TP.out.b3
  go_wp2_with fail
  clear x0 x1
  go_loopw [25] (fun c wr => SMLoop (w.heap.size + 1 + 1) (w.heap.size + 1) w3.heap.size w (.slice BP lb cB) (.slice BL lb cBL) a b c wr) (fun c _ => lb - (intOf c).toNat)
  case atStart => exact ⟨0, a, A1, q1, A2, q2, Nat.zero_le _, rfl, Merged.zero b HVA.out, by rw [← HLP.out, ← HLL.out]; exact TP.out⟩
  case round =>
    clear TP
    obtain ⟨k, M, A7, m7, A8, m8, hk, rfl, hM, hR⟩ := hrel
    rw [← HLB.out] at hk
    have HMG := Lib.hid hM
    have HMr := Lib.hid hR
    clear hM hR
    by_cases hlt : k < lb
    · have HKL : Hid (k < lb) := hlt
      have HWR : Hid (wrap64 ((k : Int) + 1) = ((k + 1 : Nat) : Int)) := by
        have := HSM.out
        unfold Hid
        rw [IntWalk.wrap64_in _ (by omega)]; omega
      have HMS : Hid (lb - (k + 1) < lb - k) := by unfold Hid; omega
      have HK1 : Hid (k + 1 ≤ b.1.length) := by unfold Hid; rw [← HLB.out]; exact hlt
      obtain ⟨z, hz⟩ := getElem?_some (xs := b.1) (j := k) (by rw [← HLB.out]; exact hlt)
      obtain ⟨n, hn⟩ := getElem?_some (xs := b.2) (j := k) (by rw [← HLBL.out]; exact hlt)
      obtain ⟨M', hput, hM', -, -⟩ := HMG.out.step HVB.out (by rw [← HLP.out, ← HLB.out]; exact HSM.out) hz hn
      have HM' := Lib.hid hM'
      have HPUT := Lib.hid hput
      have HFZ := Lib.hid (HVB.out.fin z (List.mem_of_getElem? hz))
      have HML : Hid (M.1.length < 64) := by
        have h1 := HMG.out.len.2
        have h2 := HSM.out
        rw [← HLP.out] at h1
        unfold Hid; omega
      obtain ⟨_, _, e3, _, hB4⟩ := HG4.out.span HMr.out.s (.inl (Nat.le_refl _))
      injection e3 with e3 el eq
      clear el eq
      subst e3
      obtain ⟨off4, rfl, _, _, _, hc4, _⟩ := hB4 (by rw [← HLB.out]; omega)
      have ck : wr.cell? ⟨b4, off4 + k, none⟩ = some (.complex .f32 z.1 z.2) := hc4 k z hz
      obtain ⟨_, _, e3, _, hB5⟩ := id HG5.out
      injection e3 with e3 el eq
      clear el eq
      subst e3
      obtain ⟨off5, rfl, _, _, hb5, hc5, _⟩ := hB5 (by rw [← HLBL.out]; omega)
      have HN5 : Hid (∀ w', Span 0 0 wr w' → w'.cell? ⟨b5, off5 + k, none⟩ = some (.int .i64 n)) := by
        intro w' s'
        have s2 := s'.after HMr.out.s
        rw [World.cell?_of_block (w := w) (s2.block b5 hb5 (by omega))]
        exact hc5 k n hn
      clear hc4 hc5 hB4 hB5 hz hn hM' hput hb5
      obtain ⟨z1, z2⟩ := z
      simp only at ck
      have k0 : (0 : Int) ≤ (k : Int) := by omega
      have k1 : (k : Int) < (lb : Int) := by omega
      have HZ : Hid (smallC (z1, z2)) := ⟨HFZ.out.1.1, HFZ.out.2.1⟩
      go_upto_region 7 with fail
      clear ck
      go_cut [9, 10] (fun s9 s10 wx => SPut (w.heap.size + 1 + 1) (w.heap.size + 1) w3.heap.size w (.slice (some ⟨b4, off4, none⟩) lb cB) (.slice (some ⟨b5, off5, none⟩) lb cBL) M (.slice A7 M.1.length m7) (.slice A8 M.2.length m8) M' s9 s10 wx)
      case first =>
        go_wp2_with fail
        go_region_held3 (fun w' => w'.cell? ⟨w3.heap.size, 0, none⟩ = some (.slice A7 M.1.length m7) ∧ w'.cell? ⟨w3.heap.size, 1, none⟩ = some (.slice A8 M.2.length m8) ∧ w'.cell? ⟨w.heap.size + 1, 1, none⟩ = some (.slice (some ⟨b5, off5, none⟩) lb cBL) ∧ w'.cell? ⟨b5, off5 + k, none⟩ = some (.int .i64 n) ∧ Span 0 0 wr w')
          (first
            | exact HMr.out.limbs (Span.refl 0 0 wr).drew HN5.out
            | (go_split_ands; exact HMr.out.limbs (Span.alloc (by assumption) _) HN5.out)
            | exact HMr.out.limbs sp7 HN5.out
            | (go_split_ands; exact HMr.out.limbs (far2 (by assumption) (by first | exact Nat.le_refl _ | exact sp7.size) _ _) HN5.out))
          ((go_split_ands
            first
            | (go_at_call 42; (with_reducible refine (spec_putPoint M (z1, z2) n true w.heap.size wr.heap.size _ _ ?htab HMG.out.valid HML.out HZ.out).mono ?_); (case htab => exact (HMr.out.whole HRB.out (by omega)).span (by assumption) (.inl (Nat.le_refl _)))
               rw [HPUT.out]
               rintro _ w7 ⟨⟨v7, rfl, ht7⟩, s7⟩
               obtain ⟨A5, q5, A6, q6, rfl⟩ := ht7.form
               have sp7 := Span.trans (by assumption) s7
               first
               | (have YB : Box wr.heap.size (.slice none 0 0) (.slice none 0 0) w7 := (Box.new wr.drew _ _ _).span s7 (.inl (Nat.le_refl _))
                  have YX := Lib.hid (SPut.mk' HMr.out sp7 YB (Nat.le_refl _) ht7 (by simp) (.inl (by simp)))
                  obtain ⟨_, r0, r1, r2, r3⟩ := YB)
               | (have YX := Lib.hid (SPut.new HMr.out sp7 ht7 (Nat.le_refl _) (Nat.le_refl _))))))
        all_goals
          go_wp2_with fail
          go_meet
          exact YX.out
      case rest =>
        clear HMr
        obtain ⟨N, A5, q5, A6, q6, rfl, rfl, ht, hu, n0, n1⟩ := hcut
        obtain ⟨_, c0, c1, c2, c3⟩ := ht.bt
        have HN := Lib.hid (ht.store HRB.out (by have := HRB.out; omega) (by have := HRB.out; omega) hu)
        clear ht hu
        go_wp2_with fail
        go_roundw
        case rel => exact ⟨k + 1, M', A5, q5, A6, q6, HK1.out, congrArg (Value.int IntKind.i64) HWR.out, HM'.out, HN.out⟩
        case measure =>
          rw [HWR.out]
          simp only [intOf, Int.toNat_natCast]
          exact HMS.out
    · have hke : k = lb := by omega
      subst hke
      have HMW : Hid (Merged a b b.1.length M) := by rw [← HLB.out]; exact HMG.out
      obtain ⟨_, c0, c1, c2, c3⟩ := HMr.out.bt
      obtain ⟨_, d0, d1, d2, d3⟩ := HMr.out.r
      have hR := HMr.out.r
      have HB := Lib.hid (box_stored (u' := .slice A7 M.1.length m7) (v' := .slice A8 M.2.length m8) hR)
      have sp : Span (w.heap.size + 1 + 1) (w.heap.size + 1 + 1 + 1) wr ((wr.setCell ⟨w.heap.size + 1 + 1, 0, none⟩ (.slice A7 M.1.length m7)).setCell ⟨w.heap.size + 1 + 1, 1, none⟩ (.slice A8 M.2.length m8)) := ((Span.refl _ _ wr).setCell (p := ⟨w.heap.size + 1 + 1, 0, none⟩) (.inl ⟨Nat.le_refl _, Nat.lt_succ_self _⟩) _).setCell (p := ⟨w.heap.size + 1 + 1, 1, none⟩) (.inl ⟨Nat.le_refl _, Nat.lt_succ_self _⟩) _
      have HT := Lib.hid (HMr.out.tabR HRB.out (by omega) sp)
      have HS := Lib.hid ((HMr.out.s.setCell (p := ⟨w.heap.size + 1 + 1, 0, none⟩) (.inr (by simp only; omega)) (.slice A7 M.1.length m7)).setCell (p := ⟨w.heap.size + 1 + 1, 1, none⟩) (.inr (by simp only; omega)) (.slice A8 M.2.length m8))
      clear sp hR
      go_wp2_with fail
      exact bodyPost_ret (v := .tuple #[.agg #[.slice A7 M.1.length m7, .slice A8 M.2.length m8], .bool true]) (by simp [results, Try.results11, go_sem, HB.out.1, HB.out.2]) rfl ⟨M, _, rfl, HMW.out, HT.out, HS.out⟩
end Go.Proofs.Ytealnolpcoalgaa
