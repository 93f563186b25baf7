/- A circuit is made of any valid rack. -/
import Derived.Test.YtkjlodoppmipfaaGreatJg18
import Derived.Deep.RegionWith
import Derived.Deep.RegionHeld3
import Derived.Deep.RegionLaw
import Derived.Deep.DeepCutAuto
import Derived.Outline
namespace Go.Proofs.YtkjlodoppmipfaaGreat
open Go.RowKit

theorem Reads.keep {w w' : World} {Ms : List Mw} {Rs : List (List Cx × Tab)} (h : Reads w Ms Rs) (s : Span 0 0 w w') : Reads w' Ms Rs := ⟨h.1, fun i m r hm hr => by
  obtain ⟨h1, h2, h3, o, bs, lo, mid, hi, hh⟩ := h.2 i m r hm hr
  exact ⟨h1, h2, h3, o, bs, lo, mid, hi, hh.span s (.inl (Nat.le_refl _))⟩⟩
theorem info_unit : (Tryz.prog.info? 94).map (fun i => (i.zero, i.size, i.bytes)) = some (some .nilIface, 1, 16) := by kernel_rfl
theorem info_ints : (Tryz.prog.info? 28).map (fun i => (i.zero, i.size, i.bytes)) = some (some (.slice none 0 0), 1, 24) := by kernel_rfl
theorem info_station : (Tryz.prog.info? 113).map (fun i => (i.zero, i.size, i.bytes)) = some (some (.agg #[.int .i64 0, .slice none 0 0, .nilFunc]), 3, 40) := by kernel_rfl

theorem hasS_zc (w : World) (n : Nat) : HasS cxV true w.heap.size w.heap.size (w.heap.size + 1) (w.alloc (.cells (zerosV (.complex .f32 0 0) n) 23)) (.slice (some ⟨w.heap.size, 0, none⟩) n n) (List.replicate n (0, 0)) := by
  refine ⟨_, n, by simp, by simp, fun hp => ⟨0, rfl, Nat.le_refl _, Nat.lt_succ_self _, by simp, fun j x hj => ?_, fun _ j _ => World.frozen?_alloc_new ..⟩⟩
  rw [World.cell?_alloc_new, Nat.zero_add]
  rw [List.getElem?_replicate] at hj
  split at hj
  · rename_i hlt
    cases hj
    simp [zerosV, cxV, hlt]
  · cases hj
theorem Span.allThen {lo hi : Nat} {w w1 w2 : World} (s : Span 0 0 w w1) (s' : Span lo hi w1 w2) : Span lo hi w w2 :=
  ⟨s'.os.trans s.os, s'.tape.trans s.tape, s'.output.trans s.output, Nat.le_trans s.size s'.size, fun k hk hn => (s'.block k (Nat.lt_of_lt_of_le hk s.size) hn).trans (s.block k hk (by omega))⟩
theorem Span.newTo {lo hi : Nat} {w w1 w2 : World} (s : Span 0 0 w w1) (s' : Span lo hi w1 w2) (h : w.heap.size ≤ lo) : Span 0 0 w w2 :=
  ⟨s'.os.trans s.os, s'.tape.trans s.tape, s'.output.trans s.output, Nat.le_trans s.size s'.size, fun k hk _ => (s'.block k (Nat.lt_of_lt_of_le hk s.size) (by omega)).trans (s.block k hk (by omega))⟩
theorem UnitsAt.zero (Q : Nat) (Ns : List Mw) (w : World) : UnitsAt Q 0 (.slice none 0 0) Ns [] w :=
  ⟨rfl, World.ownsRow_nil .., fun b hb => by simp [Value.ownBlock] at hb, fun i x hx => by simp at hx, fun i j x y hx => by simp at hx⟩

theorem feedsC_most (n : Nat) (Cs : List (Nat × Nat)) : ∀ l ∈ feedsC n Cs, l.length ≤ Cs.length := by
  have key : ∀ (Cs : List (Nat × Nat)) (L : List (List Nat)) (k : Nat), (∀ l ∈ L, l.length ≤ k) → ∀ l ∈ Cs.foldl feedOne L, l.length ≤ k + Cs.length := by
    intro Cs
    induction Cs with
    | nil => intro L k h l hl; exact h l hl
    | cons c Cs ih =>
      intro L k h l hl
      have := ih (feedOne L c) (k + 1) (feedOne_most L c k h) l hl
      rw [List.length_cons]; omega
  intro l hl
  have := key Cs (List.replicate n []) 0 (fun l hl => by rw [List.eq_of_mem_replicate hl]; exact Nat.le_refl _) l hl
  omega
theorem ordIt_inv {K : List Int} {Cs : List (Nat × Nat)} {n : Nat} : ∀ (j : Nat) (xs : List Bool) (os : List Int), ordIt K Cs j (List.replicate n false, []) = some (xs, os) → xs.length = n ∧ os.length = j ∧ ∀ i ∈ os, ∃ t : Nat, i = (t : Int) ∧ t < n
  | 0, xs, os, h => by
    unfold ordIt at h
    cases h
    exact ⟨by simp, rfl, fun i hi => by simp at hi⟩
  | j + 1, xs, os, h => by
    have h' : (ordIt K Cs j (List.replicate n false, [])).bind (ordStep K Cs) = some (xs, os) := h
    cases he : ordIt K Cs j (List.replicate n false, []) with
    | none => rw [he] at h'; cases h'
    | some s =>
      obtain ⟨xs', os'⟩ := s
      rw [he] at h'
      obtain ⟨g1, g2, g3⟩ := ordIt_inv j xs' os' he
      have h2 : ordStep K Cs (xs', os') = some (xs, os) := h'
      unfold ordStep at h2
      simp only at h2
      split at h2
      · cases h2
      · rename_i hn
        cases h2
        refine ⟨by simp [g1], by simp [g2], fun i hi => ?_⟩
        rcases List.mem_append.1 hi with hi | hi
        · exact g3 i hi
        · simp at hi
          subst hi
          rcases firstNo_range (passed K Cs xs') with h3 | ⟨t, h3, h4⟩
          · omega
          · exact ⟨t, h4, by rw [passed_len, g1] at h3; exact h3⟩
theorem orderC_inv {K : List Int} {Cs : List (Nat × Nat)} {n : Nat} {os : List Int} (h : orderC K Cs n = some os) : os.length = n ∧ ∀ i ∈ os, ∃ t : Nat, i = (t : Int) ∧ t < n := by
  unfold orderC at h
  cases he : ordIt K Cs n (List.replicate n false, []) with
  | none => rw [he] at h; cases h
  | some s =>
    rw [he] at h
    cases h
    exact (ordIt_inv n s.1 s.2 he).2
theorem FeedsAt.zero (w : World) (n : Nat) : FeedsAt w.heap.size n (List.replicate n []) (List.replicate n (.slice none 0 0)) (w.alloc (.cells (zerosV (.slice none 0 0) n) 28)) := by
  refine ⟨⟨by simp, by simp⟩, ?_, ?_, ?_⟩
  · have h := Bx.new w (zerosV (.slice none 0 0) n) 28
    rwa [show zerosV (.slice none 0 0) n = (List.replicate n (Value.slice none 0 0)).toArray by simp [zerosV]] at h ⊢
  · intro i v l hv hl
    rw [List.getElem?_replicate] at hv hl
    split at hv
    · rename_i hlt
      rw [if_pos hlt] at hl
      cases hv; cases hl
      exact World.ownsRow_nil ..
    · cases hv
  · intro i j v v' b hv hv' hb
    rw [List.getElem?_replicate] at hv
    split at hv
    · cases hv; simp [Value.ownBlock] at hb
    · cases hv
theorem flatG_snoc {α : Type} (fl : α → List Value) (L : List α) (x : α) : flatG fl (L ++ [x]) = flatG fl L ++ fl x := by simp [flatG]
theorem StAt.zero (Z : Nat) (os : List Int) (vs : List Value) (us : List (Kd × Nat)) (w : World) : StAt Z 0 (.slice none 0 0) os vs us [] w :=
  ⟨rfl, World.ownsRow_nil .., fun j s hs => by simp at hs⟩
theorem StAt.next {Z k : Nat} {V : Value} {os : List Int} {vs : List Value} {us : List (Kd × Nat)} {sts : List (Nat × Value × (Kd × Nat))} {wr w6 : World} (h : StAt Z k V os vs us sts wr) (s : Nat × Value × (Kd × Nat)) (h1 : os[k]? = some (s.1 : Int)) (h2 : vs[s.1]? = some s.2.1) (h3 : us[s.1]? = some s.2.2) {Q : Nat} (hQ : Q < Z) {g c : Nat}
    (ho : w6.ownsRow Z 113 3 (.slice (some ⟨g, 0, none⟩) (k + 1) c) (k + 1) (flatG stC sts ++ stC s)) : StAt Z (k + 1) (.slice (some ⟨g, 0, none⟩) (k + 1) c) os vs us (sts ++ [s]) (w6.setCell ⟨Q, 2, none⟩ (.slice (some ⟨g, 0, none⟩) (k + 1) c)) := by
  refine ⟨by rw [List.length_append, h.len]; rfl, ?_, fun j x hx => ?_⟩
  · rw [flatG_snoc]
    exact ownsRow_span ho (setSpan Q 2 _ w6) (fun b hb => by have := ho.lt b hb; omega)
  · rcases Nat.lt_trichotomy j sts.length with hlt | he | hgt
    · rw [List.getElem?_append_left hlt] at hx; exact h.is j x hx
    · rw [he, List.getElem?_append_right (Nat.le_refl _), Nat.sub_self] at hx
      simp at hx
      subst hx
      rw [he, h.len]
      exact ⟨h1, h2, h3⟩
    · rw [List.getElem?_eq_none (by simp; omega)] at hx; cases hx
theorem StAt.bx {Z k : Nat} {V : Value} {os : List Int} {vs : List Value} {us : List (Kd × Nat)} {sts : List (Nat × Value × (Kd × Nat))} {wr w6 : World} (h : StAt Z k V os vs us sts wr) {Q : Nat} (hQ : Q < Z) {x0 x1 x3 x4 : Value} (b : Bx Q #[x0, x1, V, x3, x4] wr) (o : Obj) (hgr : (wr.alloc o).grownBy w6 V.ownBlock) (v : Value) : Bx Q #[x0, x1, v, x3, x4] (w6.setCell ⟨Q, 2, none⟩ v) := by
  have hub := h.own.lt
  have h1 := ((b.alloc o).grown hgr (fun e => by have := hub _ e; omega)).set 2 v (by simp)
  simpa using h1
theorem StAt.frame {Z k : Nat} {V : Value} {os : List Int} {vs : List Value} {us : List (Kd × Nat)} {sts : List (Nat × Value × (Kd × Nat))} {wg wr w6 : World} (h : StAt Z k V os vs us sts wr) (hZ : wg.heap.size = Z) {Q : Nat} (s : Span Q (Q + 1) wg wr) (o : Obj) (hgr : (wr.alloc o).grownBy w6 V.ownBlock) (v : Value) : Span Q (Q + 1) wg (w6.setCell ⟨Q, 2, none⟩ v) := by
  have hub := h.own.lt
  have h1 := (s.thenAll ((Span.refl 0 0 wr).alloc o)).thenGrown hgr (fun g e => by have := (hub g e).1; omega)
  exact h1.trans (setSpan Q 2 v w6)

/-- A circuit of a rack: what was copied, in the world w2, and what was made behind it. -/
def NewC (n m : Nat) (Ms : List Mw) (Rs : List (List Cx × Tab)) (Cs : List (Nat × Nat)) (os : List Int) (w : World) (e : Ending) (w' : World) : Prop :=
  ∃ (Q O F Z b : Nat) (A : Option Addr) (q bC : Nat) (U : Value) (V : Value) (Ns : List Mw) (us : List (Kd × Nat)) (vs : List Value) (sts : List (Nat × Value × (Kd × Nat))) (w2 : World),
    e = .returned (.tuple #[.pointer (some ⟨Q, 0, none⟩), .bool true]) ∧
    Span 0 0 w w2 ∧ w.heap.size ≤ b ∧ Copied b w2 Ms Rs Ns ∧ Ns.length = n ∧ HasC 2 cabC bC (b + 1) w2.heap.size w2 (.slice A m q) Cs ∧
    Span 0 0 w2 w' ∧ w2.heap.size < O ∧ Q = O + 1 ∧ Q < F ∧ F < Z ∧
    Bx Q #[.slice A m q, U, V, .slice (some ⟨O, 0, none⟩) n n, .func (.func 58) #[] #[]] w' ∧
    HasS cxV true O O (O + 1) w' (.slice (some ⟨O, 0, none⟩) n n) (List.replicate n (0, 0)) ∧
    UnitsAt Q n U Ns us w' ∧ (∀ x ∈ us, x.2 < F) ∧ (∀ g, U.ownBlock = some g → g < F) ∧
    FeedsAt F n (feedsC n Cs) vs w' ∧ StAt Z os.length V os vs us sts w'

set_option maxRecDepth 100000 in
set_option maxHeartbeats 8000000 in
theorem newCircuit_any {w : World} {bM bC lo hi : Nat} {AM : Option Addr} {n cM : Nat} {AC : Option Addr} {m cC : Nat} {Ms : List Mw} {Cs : List (Nat × Nat)} (hr : RkAt w bM bC lo hi AM n cM AC m cC Ms Cs) (Rs : List (List Cx × Tab)) (hR : Reads w Ms Rs) (hk : ∀ x ∈ Ms, ∃ kd : Kd, x.k = kd.num) (os : List Int) (hord : orderC (Ms.map Mw.k) Cs n = some os) :
    Calls Tryz.prog 39 #[.agg #[.slice AM n cM, .slice AC m cC]] w (NewC n m Ms Rs Cs os w) := by
  have HR := Lib.hid hr
  have HN := Lib.hid hr.mods.len.1
  have HM := Lib.hid hr.cabs.len.1
  have HRS := Lib.hid hR
  have HK := Lib.hid hk
  have HOS := Lib.hid (orderC_inv hord).2
  have HOL : Hid (os.length ≤ 16) := by unfold Hid; rw [(orderC_inv hord).1]; exact hr.most.1
  have h16 : n ≤ 16 := hr.most.1
  have i3 : (n : Int) ≤ 16 := by omega
  have H40 := Lib.hid hr.most.2
  have OO : Hid (∀ w', Span 0 0 w w' → Calls Tryz.prog 56 #[.agg #[.slice AM n cM, .slice AC m cC]] w' (GivesOrd (some os) w')) := fun w' s => by
    rw [← hord]; exact orderOf_any (hr.keep s)
  obtain ⟨iu, hiu, hzu, hsu, hbu⟩ := info_parts info_unit
  obtain ⟨il, hil, hzl, hsl, hbl⟩ := info_parts info_int
  obtain ⟨is, his, hzs, hss, hbs⟩ := info_parts info_station
  clear hr hR hk hord
  go_enter Tryz.func39, Tryz.ntmps39
  go_wp2_with fail
  obtain ⟨G, hG⟩ : ∃ b, b = w.heap.size := ⟨_, rfl⟩
  have BX := Lib.hid (Bx.new w #[.slice AM n cM, .slice AC m cC] 37)
  have HS := Lib.hid ((Span.refl 0 0 w).alloc (.cells #[.slice AM n cM, .slice AC m cC] 37))
  rw [← hG] at BX ⊢
  generalize w.alloc (.cells #[.slice AM n cM, .slice AC m cC] 37) = w0 at *
  refine (OO.out _ HS.out).mono ?_
  rintro _ w1 ⟨⟨v, bO, rfl, hO⟩, s1⟩
  obtain ⟨Ao, co, rfl, -, -⟩ := id hO
  have cB := (BX.out.keep s1).cells
  have S1 := Lib.hid (HS.out.trans s1)
  have HO := Lib.hid hO
  clear s1 hO HS BX hG OO
  go_wp2_with fail
  refine (copyRack_any (HR.out.keep S1.out) Rs (HRS.out.keep S1.out)).mono ?_
  rintro _ w2 ⟨b, A, q, bC', Ns, rfl, hb, hmk, hNs, hcp, hC, s2⟩
  have HO2 := Lib.hid (HO.out.span s2 (.inl (Nat.le_refl _)))
  have HO1Z : Hid (w1.heap.size ≤ w2.heap.size) := s2.size
  have S2 := Lib.hid (S1.out.trans s2)
  have HNS := Lib.hid hNs
  have HBB := Lib.hid (Nat.le_trans S1.out.size hb)
  have HMK := Lib.hid hmk
  have HCP := Lib.hid hcp
  have HC := Lib.hid hC
  clear s2 hmk hNs hcp hC hb cB S1 HO
  go_upto_region 5 with fail
  have BB := Lib.hid (Bx.new w2 #[.slice (some ⟨b, 0, none⟩) n n, .slice A m q] 37)
  have S3 := Lib.hid ((Span.refl 0 0 w2).alloc (.cells #[.slice (some ⟨b, 0, none⟩) n n, .slice A m q] 37))
  have e3 : (w2.alloc (.cells #[.slice (some ⟨b, 0, none⟩) n n, .slice A m q] 37)).heap.size = w2.heap.size + 1 := by simp
  obtain ⟨R, hRR⟩ : ∃ b, b = w2.heap.size := ⟨_, rfl⟩
  rw [← hRR] at BB e3 ⊢
  generalize w2.alloc (.cells #[.slice (some ⟨b, 0, none⟩) n n, .slice A m q] 37) = wB at *
  have HE3 := Lib.hid e3
  have HRE := Lib.hid hRR
  have b0 := BB.out.cells 0
  have b1 := BB.out.cells 1
  have a0 := fun o => BB.out.cellsA o 0
  have a1 := fun o => BB.out.cellsA o 1
  have t0 := fun o o' => ((BB.out.alloc o).alloc o').cells 0
  have t1 := fun o o' => ((BB.out.alloc o).alloc o').cells 1
  have hmk : ∀ W : World, (Instr.makeSlice 25 (.int .i64 (n : Int)) (.int .i64 (n : Int))).run Tryz.prog W = .ok (.slice (some ⟨W.heap.size, 0, none⟩) n n) (W.alloc (.cells (zerosV (.complex .f32 0 0) n) 23)) := fun W => run_make_zeros (P := Tryz.prog) W 25 23 (.complex .f32 0 0) 8 Tryz.underlying25 info_c64 rfl n (by omega) (by omega)
  clear hRR e3
  go_cut [7] (fun s7 wx => s7 = .pointer (some ⟨R + 2, 0, none⟩) ∧ Span 0 0 wB wx ∧ Bx (R + 2) #[.slice A m q, .slice none 0 0, .slice none 0 0, .slice (some ⟨R + 1, 0, none⟩) n n, .func (.func 58) #[] #[]] wx ∧ HasS cxV true (R + 1) (R + 1) (R + 2) wx (.slice (some ⟨R + 1, 0, none⟩) n n) (List.replicate n (0, 0)) ∧ wx.heap.size = R + 3)
  case first => as_aux_lemma =>
    go_region_held3 (fun w' => w'.cell? ⟨R, 0, none⟩ = some (.slice (some ⟨b, 0, none⟩) n n) ∧ w'.cell? ⟨R, 1, none⟩ = some (.slice A m q))
      (first
        | exact ⟨b0, b1⟩
        | exact ⟨a0 _, a1 _⟩
        | exact ⟨t0 _ _, t1 _ _⟩)
      ((fail))
    all_goals
      go_wp2_with fail
      go_meet
      have e := HE3.out
      rw [e]
      refine ⟨rfl, (((Span.refl 0 0 wB).alloc _).alloc _).drew, ?_, ?_, ?_⟩
      · have h := Bx.new2 wB (.cells (zerosV (.complex .f32 0 0) n) 23) #[.slice A m q, .slice none 0 0, .slice none 0 0, .slice (some ⟨R + 1, 0, none⟩) n n, .func (.func 58) #[] #[]] 70
        rw [e] at h
        exact h
      · have h := (hasS_zc wB n).alloc (.cells #[.slice A m q, .slice none 0 0, .slice none 0 0, .slice (some ⟨R + 1, 0, none⟩) n n, .func (.func 58) #[] #[]] 70)
        rw [e] at h
        exact h
      · simp [e]
  case rest =>
    obtain ⟨rfl, s4, hbq, hout, hsz⟩ := hcut
    clear b0 b1 a0 a1 t0 t1 hmk
    have cb0 := (BB.out.keep s4).cells
    obtain ⟨Q, hQ⟩ : ∃ t, t = R + 2 := ⟨_, rfl⟩
    rw [← hQ] at hbq ⊢
    have HQ := Lib.hid hQ
    have HQZ : Hid (wc.heap.size = Q + 1) := by unfold Hid; omega
    have HBQ := Lib.hid hbq
    have HOUT := Lib.hid hout
    have S4 := Lib.hid s4
    have SC := Lib.hid (S3.out.trans s4)
    clear hQ hbq hout hsz s4
    go_wp2_with fail
    go_loopw [35] (fun c wr => ∃ (k : Nat) (U : Value) (us : List (Kd × Nat)), k ≤ n ∧ c = .int .i64 k ∧ UnitsAt Q k U Ns us wr ∧ Bx Q #[.slice A m q, U, .slice none 0 0, .slice (some ⟨R + 1, 0, none⟩) n n, .func (.func 58) #[] #[]] wr ∧ Span Q (Q + 1) wc wr) (fun c _ => n - (intOf c).toNat)
    case atStart => exact ⟨0, _, [], Nat.zero_le _, rfl, UnitsAt.zero .., HBQ.out, Span.refl ..⟩
    case round =>
      clear cb0
      obtain ⟨k, U, us, hk, rfl, hun, hbx, hs⟩ := hrel
      by_cases hlt : k < n
      · obtain ⟨x, hx⟩ := getElem?_some (xs := Ns) (j := k) (by rw [HNS.out]; exact hlt)
        obtain ⟨kd, hkd⟩ : ∃ kd : Kd, x.k = kd.num := by
          obtain ⟨m', r, _, _, _, _, h1, _, h3, _⟩ := HCP.out k x hx
          obtain ⟨kd, hkd⟩ := HK.out m' (List.mem_of_getElem? h1)
          exact ⟨kd, by rw [← hkd, h3]⟩
        have UO : Hid (∀ W, Calls Tryz.prog 59 #[.agg #[.int .i64 x.k, .complex .f32 x.t1 x.t2, .complex .f32 x.s1 x.s2, .float .f32 x.lv, .slice x.S x.sn x.sp, .int .i64 x.a, .int .i64 x.cnt, .slice x.P x.pn x.pp, .slice x.L x.ln x.lp, .int .i64 x.c, .int .i64 x.f]] W fun e w' => ∃ g, e = .returned (.iface kd.t (.pointer (some ⟨g, 0, none⟩))) ∧ Bx g (uC kd x) w' ∧ W.heap.size ≤ g ∧ Span 0 0 W w') := fun W => unitOf_any kd x hkd W
        have SR := SC.out.allThen hs
        have MR := HMK.out.span SR (by have := HMK.out.1; have := HRE.out; have := HQ.out; omega)
        have hC11 := MR.hasC (HNS.out)
        obtain ⟨c0, c1, c2, c3, c4, c5, c6, c7, c8, c9, c10⟩ := hC11.mw hx
        simp only [Nat.zero_add] at c0 c1 c2 c3 c4 c5 c6 c7 c8 c9 c10
        have HX := Lib.hid hx
        have HKD := Lib.hid hkd
        have HUN := Lib.hid hun
        have HBX := Lib.hid hbx
        have HSR := Lib.hid hs
        have j1 : (0 : Int) ≤ (k : Int) := by omega
        have j2 : (k : Int) < (n : Int) := by omega
        have HLT := Lib.hid hlt
        clear hx hkd SR MR hC11 hun hbx hs hk hlt
        obtain ⟨k', t1, t2, s1, s2, lv, S, sn, sp, a, cnt, P, pn, pp, L, ln, lp, c, f⟩ := x
        simp only at c0 c1 c2 c3 c4 c5 c6 c7 c8 c9 c10 UO
        go_upto_region 9 with fail
        have BQA := Lib.hid (HBX.out.alloc (.cells #[.int .i64 k', .complex .f32 t1 t2, .complex .f32 s1 s2, .float .f32 lv, .slice S sn sp, .int .i64 a, .int .i64 cnt, .slice P pn pp, .slice L ln lp, .int .i64 c, .int .i64 f] 32))
        have BNA := Lib.hid (Bx.new wr #[.int .i64 k', .complex .f32 t1 t2, .complex .f32 s1 s2, .float .f32 lv, .slice S sn sp, .int .i64 a, .int .i64 cnt, .slice P pn pp, .slice L ln lp, .int .i64 c, .int .i64 f] 32)
        have SA := Lib.hid ((Span.refl 0 0 wr).alloc (.cells #[.int .i64 k', .complex .f32 t1 t2, .complex .f32 s1 s2, .float .f32 lv, .slice S sn sp, .int .i64 a, .int .i64 cnt, .slice P pn pp, .slice L ln lp, .int .i64 c, .int .i64 f] 32))
        obtain ⟨NB, hNB⟩ : ∃ t, t = wr.heap.size := ⟨_, rfl⟩
        rw [← hNB] at BNA ⊢
        clear hNB c0 c1 c2 c3 c4 c5 c6 c7 c8 c9 c10
        generalize wr.alloc (.cells #[.int .i64 k', .complex .f32 t1 t2, .complex .f32 s1 s2, .float .f32 lv, .slice S sn sp, .int .i64 a, .int .i64 cnt, .slice P pn pp, .slice L ln lp, .int .i64 c, .int .i64 f] 32) = wA at *
        have qa : wA.cell? ⟨Q, 1, none⟩ = some U := BQA.out.cells 1
        have na := BNA.out.cells
        --L1A
        go_region_law (first
          | (go_simp; go_at_call 59; refine (UO.out _).mono ?_; rintro _ w5 ⟨g, rfl, x5, g5, s5⟩; have S5 := Lib.hid (SA.out.trans (show Span 0 0 wA w5 from ⟨s5.os, s5.tape, s5.output, s5.size, s5.block⟩)); have G5 := Lib.hid (Nat.le_trans SA.out.size g5); have X5 := Lib.hid x5; have q5 : w5.cell? ⟨Q, 1, none⟩ = some U := (HBX.out.keep S5.out).cells 1; have q5a : ∀ o, (w5.alloc o).cell? ⟨Q, 1, none⟩ = some U := fun o => (HBX.out.keep S5.out).cellsA o 1; clear x5 g5 s5)
          | (refine step_append_lies _ (by rfl) (.tmp 43) (.tmp 46) 66 (by rfl) (Q + 1) 94 iu .nilIface 1 16 Tryz.underlying66 hiu hzu hsu hbu (by rfl) (by decide) U k (us.map uxV) (by rfl) ?own ⟨w5.heap.size, 0, none⟩ 1 1 [uxV (kd, g)] (by rfl) (by rfl) ?nw ?one (by decide) ?l1 ?l2 ?l3 (w5.heap.size + 1) (by simp) ?_
             case own => exact (ownsRow_farK HUN.out.own S5.out (.inl (Nat.le_refl _))).alloc _
             case nw => exact one_new w5 _ _
             case one => exact one_cell (by rfl)
             case l1 => have := HLT.out; unfold maxLen; omega
             case l2 => have := HLT.out; omega
             case l3 => have := HBX.out.1; have := S5.out.size; simp; omega
             intro gU cU w6 ho hgr hat hlt6
             have B6 := ((HBX.out.keep S5.out).alloc _).grown hgr (fun e => by have := HUN.out.own.lt _ e; omega)
             have q6 : w6.cell? ⟨Q, 1, none⟩ = some U := B6.cells 1
             have f6 := B6.thaw
             have HU7 := Lib.hid (HUN.out.next HBX.out.1 HX.out HKD.out S5.out G5.out X5.out _ ho hgr hat)
             have HB7 := Lib.hid (HUN.out.bx HBX.out S5.out _ hgr (.slice (some ⟨gU, 0, none⟩) (k + 1) cU))
             have HS7 := Lib.hid (HUN.out.frame HQZ.out HSR.out S5.out _ hgr (.slice (some ⟨gU, 0, none⟩) (k + 1) cU))
             clear ho hgr hat hlt6 B6))
        all_goals
          go_wp2_with fail
          go_roundw
          case rel => exact ⟨k + 1, _, us ++ [(kd, g)], HLT.out, by go_num, HU7.out, HB7.out, HS7.out⟩
          case measure => have := HLT.out; simp [intOf]; omega
        --L1B
      · have hkn : k = n := by omega
        subst hkn
        have br := ((BB.out.keep S4.out).span hs (by have := HQ.out; omega))
        have cr0 := br.cells
        have cr1 := br.cellsA
        have hmkF : ∀ W : World, (Instr.makeSlice 110 (.int .i64 (k : Int)) (.int .i64 (k : Int))).run Tryz.prog W = .ok (.slice (some ⟨W.heap.size, 0, none⟩) k k) (W.alloc (.cells (zerosV (.slice none 0 0) k) 28)) := fun W => run_make_zeros (P := Tryz.prog) W 110 28 (.slice none 0 0) 24 Tryz.underlying110 info_ints rfl k (by omega) (by omega)
        have HUN := Lib.hid hun
        have HBX := Lib.hid hbx
        have HSR := Lib.hid hs
        clear hun hbx hs hk hlt br
        go_wp2_with fail
        clear cr0 cr1 hmkF
        obtain ⟨wp, rfl⟩ : ∃ t, t = wr := ⟨_, rfl⟩
        have FZ := Lib.hid (FeedsAt.zero wp k)
        have SPF := Lib.hid ((Span.refl 0 0 wp).alloc (.cells (zerosV (.slice none 0 0) k) 28))
        have EF : Hid ((wp.alloc (.cells (zerosV (.slice none 0 0) k) 28)).heap.size = wp.heap.size + 1) := by unfold Hid; simp
        have QF : Hid (Q < wp.heap.size) := HBX.out.1
        have UF : Hid ((∀ x ∈ us, x.2 < wp.heap.size) ∧ ∀ g, U.ownBlock = some g → g < wp.heap.size) := ⟨fun x hx => by
          obtain ⟨i, hi⟩ := List.getElem?_of_mem hx
          obtain ⟨_, _, _, _, hb⟩ := HUN.out.box i x hi
          exact hb.1, fun g hg => (HUN.out.own.lt g hg).2⟩
        generalize wp.alloc (.cells (zerosV (.slice none 0 0) k) 28) = wF at *
        obtain ⟨F, hF⟩ : ∃ t, t = wp.heap.size := ⟨_, rfl⟩
        have HFE := Lib.hid hF
        rw [← hF] at FZ EF QF UF ⊢
        have HCF := Lib.hid (((HC.out.keep SC.out).span HSR.out (.inr (.inl (by have := HRE.out; have := HQ.out; omega)))).keep SPF.out)
        have HOF := Lib.hid (((HO2.out.span SC.out (.inl (Nat.le_refl _))).span HSR.out (.inr (.inl (by have := HRE.out; have := HQ.out; have := HO1Z.out; omega)))).span SPF.out (.inl (Nat.le_refl _)))
        have OUF := Lib.hid ((HOUT.out.span HSR.out (.inr (.inl (by have := HQ.out; omega)))).span SPF.out (.inl (Nat.le_refl _)))
        clear hF
        go_loopw [58] (fun c wr => ∃ (j : Nat) (vs : List Value), j ≤ m ∧ c = .int .i64 j ∧ FeedsAt F k (feedsC k (Cs.take j)) vs wr ∧ Span F (F + 1) wF wr) (fun c _ => m - (intOf c).toNat)
        case atStart => exact ⟨0, _, Nat.zero_le _, rfl, FZ.out, Span.refl ..⟩
        case round =>
          clear FZ
          obtain ⟨j, vs, hj, rfl, hfd, hs⟩ := hrel
          by_cases hlt : j < m
          · obtain ⟨⟨x, y⟩, hx⟩ := getElem?_some (xs := Cs) (j := j) (by rw [← HM.out]; exact hlt)
            obtain ⟨hxn, hyn⟩ := HR.out.ends (x, y) (List.mem_of_getElem? hx)
            simp only at hxn hyn
            have CC := HCF.out.span hs (.inr (.inl (by have := HRE.out; have := HQ.out; have := QF.out; omega)))
            obtain ⟨off, hoff⟩ := CC.addr (by rw [← HM.out]; omega)
            subst hoff
            obtain ⟨c0, c1⟩ := CC.cable hx
            simp only at c0 c1
            have HTK : Hid (feedsC k (Cs.take (j + 1)) = feedOne (feedsC k (Cs.take j)) (x, y)) := by
              unfold Hid; rw [List.take_add_one, hx]; exact feedsC_snoc ..
            obtain ⟨v, hv⟩ := getElem?_some (xs := vs) (j := y) (by rw [hfd.len.1]; exact hyn)
            obtain ⟨l, hl⟩ := getElem?_some (xs := feedsC k (Cs.take j)) (j := y) (by rw [hfd.len.2]; exact hyn)
            have HLE : Hid (l.length < 40) := by
              have h1 := feedsC_most k (Cs.take j) l (List.mem_of_getElem? hl)
              have := H40.out
              unfold Hid
              rw [List.length_take] at h1; omega
            have HV := Lib.hid hv
            have HL := Lib.hid hl
            have HFD := Lib.hid hfd
            have HSX := Lib.hid hs
            have HLT := Lib.hid hlt
            have j1 : (0 : Int) ≤ (j : Int) := by omega
            have j2 : (j : Int) < (m : Int) := by omega
            have j3 : (0 : Int) ≤ (y : Int) := by omega
            have j4 : (y : Int) < (k : Int) := by omega
            clear hx hxn CC hv hl hfd hs hlt hj hyn
            go_upto_region 15 with fail
            have BNA := Lib.hid (Bx.new wr #[.int .i64 (x : Int), .int .i64 (y : Int)] 42)
            have SA := Lib.hid ((Span.refl 0 0 wr).alloc (.cells #[.int .i64 (x : Int), .int .i64 (y : Int)] 42))
            obtain ⟨NB, hNB⟩ : ∃ t, t = wr.heap.size := ⟨_, rfl⟩
            rw [← hNB] at BNA ⊢
            have HNB := Lib.hid hNB
            clear hNB c0 c1
            generalize wr.alloc (.cells #[.int .i64 (x : Int), .int .i64 (y : Int)] 42) = wA at *
            have na := BNA.out.cells
            have naa := BNA.out.cellsA
            have hva : wA.cell? ⟨F, y, none⟩ = some v := by rw [(HFD.out.box.keep SA.out).cells y]; simpa using HV.out
            have hvaa : ∀ o, (wA.alloc o).cell? ⟨F, y, none⟩ = some v := fun o => by rw [(HFD.out.box.keep SA.out).cellsA o y]; simpa using HV.out
            --L2A
            have i5 : (m : Int) ≤ 40 := by have := H40.out; omega
            go_region_law (first
              | (refine step_append_lies _ (by rfl) (.tmp 69) (.tmp 72) 28 (by rfl) (F + 1) 3 il (.int .i64 0) 1 8 Tryz.underlying28 hil hzl hsl hbl (by rfl) (by decide) v l.length (l.map nV) (by rfl) ?own ⟨wA.heap.size, 0, none⟩ 1 1 [nV x] (by rfl) (by rfl) ?nw ?one (by decide) ?l1 ?l2 ?l3 (wA.heap.size + 1) (by simp) ?_
                 case own => exact (show wA.drew.ownsRow _ _ _ _ _ _ from ownsRow_farK (HFD.out.own y v l HV.out HL.out) SA.out.drew (.inl (Nat.le_refl _))).alloc _
                 case nw => exact one_new wA.drew _ _
                 case one => exact one_cell (by rfl)
                 case l1 => have := HLE.out; unfold maxLen; omega
                 case l2 => have := HLE.out; omega
                 case l3 => have := HFD.out.box.1; have := SA.out.size; simp; omega
                 intro g cg w6 ho hgr hat hlt6
                 have hgr' : (wA.alloc (.cells #[.int .i64 (x : Int)] 3)).grownBy w6 v.ownBlock := ⟨hgr.os, hgr.tape, hgr.output, hgr.size, hgr.block⟩
                 have B6 := ((HFD.out.box.keep SA.out).alloc (.cells #[.int .i64 (x : Int)] 3)).grown hgr' (fun e => by have := (HFD.out.own y v l HV.out HL.out).lt _ e; omega)
                 have q6 : w6.cell? ⟨F, y, none⟩ = some v := by rw [B6.cells y]; simpa using HV.out
                 have f6 := B6.thaw
                 have n6 := ((BNA.out.alloc (.cells #[.int .i64 (x : Int)] 3)).grown hgr' (fun e => by have := (HFD.out.own y v l HV.out HL.out).lt _ e; have := HNB.out; omega)).cells
                 have n7 := (((BNA.out.alloc (.cells #[.int .i64 (x : Int)] 3)).grown hgr' (fun e => by have := (HFD.out.own y v l HV.out HL.out).lt _ e; have := HNB.out; omega)).other (a := ⟨F, y, none⟩) (by have := HFD.out.box.1; have := HNB.out; simp only; omega) (.slice (some ⟨g, 0, none⟩) (l.length + 1) cg)).cells
                 have HF7 := HFD.out.next (x := x) HV.out HL.out SA.out _ ho hgr' hat
                 have HS7 := HFD.out.frame HV.out HL.out EF.out HSX.out SA.out _ hgr' (.slice (some ⟨g, 0, none⟩) (l.length + 1) cg)
                 have HF7 := Lib.hid HF7
                 have HS7 := Lib.hid HS7
                 clear ho hgr hgr' hat hlt6 B6))
            all_goals
              go_wp2_with fail
              go_roundw
              case rel => exact ⟨j + 1, _, HLT.out, by go_num, by rw [HTK.out]; exact HF7.out, HS7.out⟩
              case measure => have := HLT.out; simp [intOf]; omega
            --L2B
          · have hjm : j = m := by omega
            subst hjm
            have hfd' : FeedsAt F k (feedsC k Cs) vs wr := by
              have h := hfd
              rwa [HM.out, List.take_length] at h
            have SG := Lib.hid (SPF.out.allThen hs)
            have UNG := Lib.hid (HUN.out.span SG.out (.inr (.inl (by have := HFE.out; omega))))
            have BXG := Lib.hid (HBX.out.span SG.out (.inr (.inl QF.out)))
            have FDG := Lib.hid hfd'
            have HOG := Lib.hid (HOF.out.span hs (.inr (.inl (by have := HRE.out; have := HQ.out; have := HO1Z.out; have := QF.out; omega))))
            have OUG := Lib.hid (OUF.out.span hs (.inr (.inl (by have := HQ.out; have := QF.out; omega))))
            have SWG : Hid (Span 0 0 w2 wr) := (SC.out.newTo HSR.out (by have := HQ.out; have := HRE.out; omega)).newTo SG.out (by have := HFE.out; have := SC.out.size; have := HSR.out.size; omega)
            have GF : Hid (F < wr.heap.size) := hfd.box.1
            have hmf : ∀ (fn : Fn) (first cap : Array Value) (W : World), (Instr.makeFunc fn first cap).run Tryz.prog W = .ok (.func fn first cap) W := fun _ _ _ _ => rfl
            clear hfd hfd' hs hj hlt HUN HBX HOF OUF HCF
            obtain ⟨wg, rfl⟩ : ∃ t, t = wr := ⟨_, rfl⟩
            go_wp2_with fail
            obtain ⟨Z, hZ⟩ : ∃ t, t = wg.heap.size := ⟨_, rfl⟩
            have HZ := Lib.hid hZ
            rw [← hZ] at GF
            clear hZ
            go_loopw [78] (fun c wr => ∃ (p : Nat) (V : Value) (sts : List (Nat × Value × (Kd × Nat))), p ≤ os.length ∧ c = .int .i64 p ∧ StAt Z p V os vs us sts wr ∧ Bx Q #[.slice A j q, U, V, .slice (some ⟨R + 1, 0, none⟩) k k, .func (.func 58) #[] #[]] wr ∧ Span Q (Q + 1) wg wr) (fun c _ => os.length - (intOf c).toNat)
            case atStart => exact ⟨0, _, [], Nat.zero_le _, rfl, StAt.zero .., BXG.out, Span.refl ..⟩
            case round =>
              obtain ⟨p, V, sts, hp, rfl, hst, hbx, hs⟩ := hrel
              by_cases hlt : p < os.length
              · obtain ⟨i0, hi0⟩ := getElem?_some (xs := os) (j := p) hlt
                obtain ⟨i, rfl, hik⟩ := HOS.out i0 (List.mem_of_getElem? hi0)
                obtain ⟨⟨kd, g⟩, hu⟩ := getElem?_some (xs := us) (j := i) (by rw [UNG.out.len]; exact hik)
                obtain ⟨v, hv⟩ := getElem?_some (xs := vs) (j := i) (by rw [FDG.out.len.1]; exact hik)
                obtain ⟨l, hl⟩ := getElem?_some (xs := feedsC k Cs) (j := i) (by rw [FDG.out.len.2]; exact hik)
                obtain ⟨Av, cv, rfl⟩ := ownsRow_slice (FDG.out.own i v l hv hl)
                have UNR := UNG.out.span hs (.inl (Nat.le_refl _))
                obtain ⟨gU, cU, rfl, -, -⟩ := UNR.own.form (by omega)
                have uc : wr.cell? ⟨gU, i, none⟩ = some (.iface kd.t (.pointer (some ⟨g, 0, none⟩))) := by
                  have h := UNR.own.cells rfl i (uxV (kd, g)) (by rw [List.getElem?_map, hu]; rfl)
                  rwa [Addr.add_lit, Nat.zero_add] at h
                have fv : wr.cell? ⟨F, i, none⟩ = some (.slice Av l.length cv) := by rw [(FDG.out.box.span hs (by have := QF.out; have := HFE.out; omega)).cells i]; simpa using hv
                have oo := HOG.out.span hs (.inr (.inl (by have := HRE.out; have := HQ.out; have := HO1Z.out; omega)))
                obtain ⟨A8, c8, e8, -, hoc⟩ := id oo
                injection e8 with e9 e10 e11
                subst e9
                obtain ⟨offO, rfl, -, -, -, hoc2, -⟩ := hoc (by omega)
                have oc : wr.cell? ⟨bO, offO + p, none⟩ = some (.int .i64 (i : Int)) := hoc2 p _ hi0
                have q1 : wr.cell? ⟨Q, 1, none⟩ = some (.slice (some ⟨gU, 0, none⟩) k cU) := hbx.cells 1
                have q2 : wr.cell? ⟨Q, 2, none⟩ = some V := hbx.cells 2
                have q2a : ∀ o, (wr.alloc o).cell? ⟨Q, 2, none⟩ = some V := fun o => hbx.cellsA o 2
                have q1a : ∀ o, (wr.alloc o).cell? ⟨Q, 1, none⟩ = some (.slice (some ⟨gU, 0, none⟩) k cU) := fun o => hbx.cellsA o 1
                have fva : ∀ o, (wr.alloc o).cell? ⟨F, i, none⟩ = some (.slice Av l.length cv) := fun o => by rw [((FDG.out.box.span hs (by have := QF.out; have := HFE.out; omega))).cellsA o i]; simpa using hv
                have uca : ∀ o, (wr.alloc o).cell? ⟨gU, i, none⟩ = some (.iface kd.t (.pointer (some ⟨g, 0, none⟩))) := fun o => by
                  have h := (UNR.own.alloc o).cells rfl i (uxV (kd, g)) (by rw [List.getElem?_map, hu]; rfl)
                  rwa [Addr.add_lit, Nat.zero_add] at h
                have GUZ : Hid (gU < F ∧ Q < gU) := ⟨UF.out.2 gU rfl, by have := (UNR.own.lt gU rfl).1; omega⟩
                have HI0 := Lib.hid hi0
                have HU := Lib.hid hu
                have HV := Lib.hid hv
                have HST := Lib.hid hst
                have HBX := Lib.hid hbx
                have HSR := Lib.hid hs
                have HLT := Lib.hid hlt
                have j1 : (0 : Int) ≤ (p : Int) := by omega
                have j2 : (p : Int) < (os.length : Int) := by omega
                have j3 : (0 : Int) ≤ (i : Int) := by omega
                have j4 : (i : Int) < (k : Int) := by omega
                clear hi0 hu hv hl UNR oo hoc hoc2 hst hbx hs hlt hp e10 e11 hik
                go_upto_region 20 with fail
                --L3A
                have i5 : (os.length : Int) ≤ 16 := by have := HOL.out; omega
                go_region_law (first
                  | (refine step_append_lies _ (by rfl) (.tmp 86) (.tmp 102) 67 (by rfl) Z 113 is (.agg #[.int .i64 0, .slice none 0 0, .nilFunc]) 3 40 Tryz.underlying67 his hzs hss hbs (by rfl) (by decide) V p (flatG stC sts) (by rfl) ?own ⟨wr.heap.size, 0, none⟩ 1 1 (stC (i, .slice Av l.length cv, (kd, g))) (by rfl) (by rfl) ?nw ?one (by decide) ?l1 ?l2 ?l3 (wr.heap.size + 1) (by simp) ?_
                     case own => exact (show wr.drew.ownsRow _ _ _ _ _ _ from HST.out.own).alloc _
                     case nw => exact World.news_of_block (heap_alloc_new _ _)
                     case one => intro u hu; simp only [stC, List.mem_cons, List.not_mem_nil, or_false] at hu; rcases hu with rfl | rfl | rfl <;> rfl
                     case l1 => have := HLT.out; have := HOL.out; unfold maxLen; omega
                     case l2 => have := HLT.out; have := HOL.out; omega
                     case l3 => have := HZ.out; have := HSR.out.size; simp; omega
                     intro gS cS w6 ho hgr hat hlt6
                     have hgr' : (wr.alloc (.cells #[.int .i64 (i : Int), .slice Av l.length cv, .func (.method "loop.example/g03223/impl.step") #[.iface kd.t (.pointer (some ⟨g, 0, none⟩))] #[]] 113)).grownBy w6 V.ownBlock := ⟨hgr.os, hgr.tape, hgr.output, hgr.size, hgr.block⟩
                     have B6 := (HBX.out.alloc (.cells #[.int .i64 (i : Int), .slice Av l.length cv, .func (.method "loop.example/g03223/impl.step") #[.iface kd.t (.pointer (some ⟨g, 0, none⟩))] #[]] 113)).grown hgr' (fun e => by have := HST.out.own.lt _ e; have := QF.out; have := GF.out; omega)
                     have q6 : w6.cell? ⟨Q, 2, none⟩ = some V := B6.cells 2
                     have f6 := B6.thaw
                     have HT7 := Lib.hid (HST.out.next (i, .slice Av l.length cv, (kd, g)) HI0.out HV.out HU.out (Q := Q) (by have := QF.out; have := GF.out; omega) ho)
                     have HB7 := Lib.hid (HST.out.bx (by have := QF.out; have := GF.out; omega) HBX.out _ hgr' (.slice (some ⟨gS, 0, none⟩) (p + 1) cS))
                     have HS7 := Lib.hid (HST.out.frame HZ.out.symm HSR.out _ hgr' (.slice (some ⟨gS, 0, none⟩) (p + 1) cS))
                     clear ho hgr hgr' hat hlt6 B6))
                all_goals
                  go_wp2_with fail
                  go_roundw
                  case rel => exact ⟨p + 1, _, sts ++ [(i, .slice Av l.length cv, (kd, g))], HLT.out, by go_num, HT7.out, HB7.out, HS7.out⟩
                  case measure => have := HLT.out; simp [intOf]; omega
                --L3B
              · have hpn : p = os.length := by omega
                subst hpn
                have HST := Lib.hid hst
                have HBX := Lib.hid hbx
                have HSR := Lib.hid hs
                clear hst hbx hs hp hlt
                go_wp2_with fail
                refine bodyPost_ret (v := .tuple #[.pointer (some ⟨Q, 0, none⟩), .bool true]) (by simp [results, Tryz.results39, go_sem]) rfl ?_
                have z1 := HRE.out
                have z2 := HQ.out
                have z3 := QF.out
                have z4 := HFE.out
                have z5 := GF.out
                have hs := HSR.out
                exact ⟨Q, R + 1, F, Z, b, A, q, bC', U, V, Ns, us, vs, sts, w2, rfl, S2.out, HBB.out, HCP.out, HNS.out, HC.out, SWG.out.newTo hs (by omega), by omega, by omega, by omega, by omega, HBX.out, OUG.out.span hs (.inr (.inl (by omega))), UNG.out.span hs (.inl (Nat.le_refl _)), UF.out.1, UF.out.2, FDG.out.span hs (.inl (by omega)), HST.out⟩
end Go.Proofs.YtkjlodoppmipfaaGreat
