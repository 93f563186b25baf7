/- The program's pools: LendRoom. -/
import Derived.Test.YtlhocjoncblocaaJq42
import Derived.Test.YtlhocjoncblocaaJq45
import Derived.Lib.SliceRun
namespace Go.Proofs.Ytlhocjoncblocaa
open Go.RowKit

theorem overlay_cons {S : List Cx} {i : Nat} {x : Cx} {xs : List Cx} (h : i + (xs.length + 1) ≤ S.length) : overlay (S.set i x) (i + 1) xs = overlay S i (x :: xs) := by
  apply List.ext_getElem?
  intro j
  rw [overlay_get (by simp; omega), overlay_get (by simp; omega)]
  simp only [List.length_cons]
  by_cases h1 : j < i
  · rw [if_pos (by omega), if_pos h1, List.getElem?_set_ne (by omega)]
  · rw [if_neg h1]
    by_cases h2 : j = i
    · subst h2
      rw [if_pos (by omega), if_pos (by omega), List.getElem?_set_self (by omega)]
      simp
    · rw [if_neg (by omega)]
      by_cases h3 : j < i + (xs.length + 1)
      · rw [if_pos (by omega), if_pos h3, show j - i = (j - (i + 1)) + 1 by omega, List.getElem?_cons_succ]
      · rw [if_neg (by omega), if_neg h3, List.getElem?_set_ne (by omega)]

theorem overlay_nil (S : List Cx) (i : Nat) : overlay S i [] = S := by unfold overlay; simp

theorem Own.setSs {R T B : Nat} {w : World} {L : List Ls} {g q : Nat} {A' : Option Addr} {q' : Nat} (hR : R < B) (hw : w.heap.size ≤ B) : ∀ (xs : List Cx) (S : List Cx) (i : Nat) (wr : World), Own R T B w S L (some ⟨g, 0, none⟩) q A' q' wr → i + xs.length ≤ S.length →
    Own R T B w (overlay S i xs) L (some ⟨g, 0, none⟩) q A' q' (wr.setCells g i (xs.map cxV))
  | [], S, i, wr, h, _ => by rw [overlay_nil]; exact h
  | x :: xs, S, i, wr, h, hl => by
    have h1 := h.setS hR hw i x
    have := Own.setSs hR hw xs (S.set i x) (i + 1) _ h1 (by rw [List.length_set]; simp at hl; omega)
    rw [overlay_cons (by simpa using hl)] at this
    exact this

theorem Own.cellS {R T B : Nat} {w : World} {S : List Cx} {L : List Ls} {g q : Nat} {A' : Option Addr} {q' : Nat} {wr : World} (h : Own R T B w S L (some ⟨g, 0, none⟩) q A' q' wr) {j : Nat} (hj : j < S.length) : (wr.cell? ⟨g, j, none⟩).isSome = true := by
  obtain ⟨b, hb, _, _⟩ := ownsRow_hasS h.hs
  obtain ⟨A, c, e, _, hc⟩ := hb
  injection e with e1 e2 e3
  obtain ⟨off, e4, _, _, _, h4, _⟩ := hc (by omega)
  rw [← e1] at e4
  injection e4 with e4
  injection e4 with e4 e5
  subst e4 e5
  have := h4 j _ (List.getElem?_eq_getElem hj)
  rw [Nat.zero_add] at this
  rw [this]; rfl

set_option maxRecDepth 100000 in
set_option maxHeartbeats 4000000 in
theorem impl_lendRoom (p : Pl) (room : Nat) (hr1 : 1 ≤ room) (hr2 : room ≤ 4194304) (lo hi : Nat) (v : Value) (w : World) (hx : HasP lo hi w v p) (hp : VP p) :
    Calls Try.prog 21 #[v, .int .i64 (room : Int)] w (GivesQ3 (lendP p room) w) := by
  have HX := Lib.hid hx
  have HV := Lib.hid hp
  have HR1 := Lib.hid hr1
  have HR2 := Lib.hid hr2
  obtain ⟨AS, cS, AL, cL, rfl⟩ := hx.form
  have X0 := Lib.hid ((Box.new w (.slice AS p.1.length cS) (.slice AL p.2.length cL) 26).alloc (.cells #[.slice none 0 0, .slice none 0 0] 26))
  have X1 := Lib.hid (Box.new (w.alloc (.cells #[.slice AS p.1.length cS, .slice AL p.2.length cL] 26)) (.slice none 0 0) (.slice none 0 0) 26)
  rw [show (w.alloc (.cells #[.slice AS p.1.length cS, .slice AL p.2.length cL] 26)).heap.size = w.heap.size + 1 by simp] at X1
  have HS := Lib.hid (((Span.refl 0 0 w).alloc (.cells #[.slice AS p.1.length cS, .slice AL p.2.length cL] 26)).alloc (.cells #[.slice none 0 0, .slice none 0 0] 26))
  have i0 : ¬ (room : Int) < 1 := by omega
  clear hx hp hr1 hr2
  go_enter Try.func21, Try.ntmps21
  go_wp2_with fail
  refine (isPool_true p lo hi _ _ (HX.out.span HS.out (.inl (Nat.le_refl _))) HV.out).mono ?_
  rintro _ w0 ⟨rfl, s0⟩
  have Y0 := Lib.hid (X0.out.span s0 (.inl (Nat.le_refl _)))
  have Y1 := Lib.hid (X1.out.span s0 (.inl (Nat.le_refl _)))
  have S0 := Lib.hid (s0.after HS.out)
  obtain ⟨_, y0, y1, _, _⟩ := Y0.out
  clear s0 X0 X1 HS
  go_wp2_with fail
  refine (findPlace_valid p room lo hi _ _ (HX.out.span S0.out (.inl (Nat.le_refl _))) HV.out).mono ?_
  rintro _ w1 ⟨o, r, ho, hr, rfl, s1⟩
  have HO := Lib.hid ho
  have HR := Lib.hid hr
  have Z0 := Lib.hid (Y0.out.span s1 (.inl (Nat.le_refl _)))
  have Z1 := Lib.hid (Y1.out.span s1 (.inl (Nat.le_refl _)))
  have S1 := Lib.hid (s1.after S0.out)
  have HLE := Lib.hid (HV.out.lend_eq ho HR1.out)
  clear s1 ho hr Y0 Y1 S0 y0 y1
  rw [← HR.out] at HLE
  cases r with
  | none =>
    have HG : Hid (lendP p room = none) := HLE.out
    obtain ⟨_, y0, y1, y2, y3⟩ := Z1.out
    have HB := Lib.hid (box_stored (u' := .slice none 0 0) (v' := .slice none 0 0) Z1.out)
    have HSF := Lib.hid ((S1.out.setCell (p := ⟨w.heap.size + 1, 0, none⟩) (.inr (by simp only; omega)) (.slice none 0 0)).setCell (p := ⟨w.heap.size + 1, 1, none⟩) (.inr (by simp only; omega)) (.slice none 0 0))
    simp only [Option.isSome_none, Option.getD_none]
    go_wp2_with fail
    refine bodyPost_ret (v := .tuple #[.agg #[.slice none 0 0, .slice none 0 0], .int .i64 0, .bool false]) (by simp [results, Try.results21, go_sem, HB.out.1, HB.out.2]) rfl ?_
    rw [HG.out]
    exact ⟨rfl, HSF.out⟩
  | some s =>
    have HSR := Lib.hid (HV.out.found HO.out HR1.out HR.out.symm)
    simp only [Option.isSome_some, Option.getD_some]
    obtain ⟨_, x0, x1, _, _⟩ := Z0.out
    go_wp2_with fail
    refine (copyPool_own p lo hi _ _ (HX.out.span S1.out (.inl (Nat.le_refl _))) (by have := HV.out.size; omega) (by have := HV.out.most; omega)).mono ?_
    rintro _ w3 ⟨A1, q1, A2, q2, rfl, ho1, ho2, s3⟩
    have HRB : Hid (w.heap.size + 1 < w1.heap.size) := Z1.out.1
    have HOW := Lib.hid (Own.new (Z1.out.span s3 (.inl (Nat.le_refl _))) ho1 ho2 (s3.after S1.out))
    obtain ⟨g, cap, hv, hgb, hgl⟩ := ho1.form (by have := HSR.out; have := HR1.out; omega)
    injection hv with e1 e2 e3
    clear e2
    subst e1 e3
    have hcap := own_cap ho1
    clear ho1 ho2 s3 Z0 Z1 S1 x0 x1 hgb hgl
    obtain ⟨_, t0, t1, _, _⟩ := HOW.out.t
    obtain ⟨n, hn⟩ : ∃ n, n = p.1.length := ⟨_, rfl⟩
    have HN := Lib.hid hn
    have hsr := HSR.out
    have hsz := HV.out.size
    have hr1 := HR1.out
    rw [← hn] at hsr hsz hcap
    have i3 : s < q1 := by omega
    have i4 : (s : Int) + (room : Int) ≤ (q1 : Int) := by omega
    have HQ4 : Hid (s + room ≤ q1 ∧ s + room ≤ n) := ⟨by omega, hsr⟩
    have i1 : (0 : Int) ≤ (s : Int) := by omega
    have i2 : (s : Int) + (room : Int) ≤ (n : Int) := by omega
    clear hsr hsz hr1 hcap
    have HW : wrap64 ((s : Int) + (room : Int)) = ((s + room : Nat) : Int) := wrap_le (by have := HSR.out; have := HV.out.size; omega)
    rw [← hn] at t0 ⊢
    clear hn
    have hcl := Lib.run_clear_slice (P := Try.prog) (w3.alloc (.cells #[.slice (some ⟨g, 0, none⟩) n q1, .slice A2 p.2.length q2] 26)) 23 48 0 (.complex .f32 0 0) Try.underlying23 Try.zeroValue48 rfl rfl g s room (q1 - s) (Nat.lt_of_lt_of_le Nat.zero_lt_one HR1.out) (fun j hj => by rw [HN.out]; exact HOW.out.cellS (by have := HSR.out; omega)) (fun j hj => by rw [HN.out]; exact HOW.out.hs.frozenAt _)
    go_upto_region 8 with fail
    clear hcl t0 t1
    obtain ⟨wS, hwS⟩ : ∃ wS, wS = (w3.alloc (.cells #[.slice (some ⟨g, 0, none⟩) n q1, .slice A2 p.2.length q2] 26)).setCells g s (List.replicate room (.complex .f32 0 0)) := ⟨_, rfl⟩
    rw [← hwS]
    have HOS : Hid (Own (w.heap.size + 1) w3.heap.size w1.heap.size w (overlay p.1 s (List.replicate room (0, 0))) p.2 (some ⟨g, 0, none⟩) q1 A2 q2 wS) := by
      have := HOW.out.setSs HRB.out (by have := HRB.out; omega) (List.replicate room (0, 0)) p.1 s _ (by rw [List.length_replicate]; exact HSR.out)
      rw [List.map_replicate, ← HN.out] at this
      rw [hwS]; exact this
    have HLO : Hid ((overlay p.1 s (List.replicate room (0, 0))).length = n) := by
      unfold Hid; rw [overlay_length (by rw [List.length_replicate]; exact HSR.out)]; exact HN.out.symm
    clear hwS HOW
    obtain ⟨_, t0, t1, _, _⟩ := HOS.out.t
    rw [HLO.out] at t0
    obtain ⟨lo', hi', hb1, hb2⟩ := block_of (.slice A2 p.2.length q2)
    have C := addLease_own (some ⟨g, 0, none⟩) n q1 p.2 A2 q2 ⟨s, 0, room, false⟩ w1.heap.size lo' hi' wS HOS.out.hl (Nat.le_of_lt (Nat.lt_of_le_of_lt (HOS.out.hs.lt g rfl).1 (HOS.out.hs.lt g rfl).2)) HV.out.most hb1
    have HC2 := Lib.hid C
    have HB2 := Lib.hid hb2
    clear C hb1 hb2
    go_wp2_with fail
    cases hpu : putL p.2 ⟨s, 0, room, false⟩ with
    | none =>
      have HG : Hid (lendP p room = none) := by
        unfold Hid; rw [HLE.out, Option.bind_some, hpu]; rfl
      rw [hpu] at HC2
      refine HC2.out.mono ?_
      rintro _ w4 ⟨rfl, sp⟩
      obtain ⟨hr, hs⟩ := HOS.out.away HRB.out (by omega) HB2.out sp
      have hr2 := hr
      obtain ⟨_, y0, y1, y2, y3⟩ := hr2
      have HB := Lib.hid (box_stored (u' := .slice none 0 0) (v' := .slice none 0 0) hr)
      have HSF := Lib.hid ((hs.setCell (p := ⟨w.heap.size + 1, 0, none⟩) (.inr (by simp only; omega)) (.slice none 0 0)).setCell (p := ⟨w.heap.size + 1, 1, none⟩) (.inr (by simp only; omega)) (.slice none 0 0))
      clear hpu sp hr hs t0 t1
      go_wp2_with fail
      refine bodyPost_ret (v := .tuple #[.agg #[.slice none 0 0, .slice none 0 0], .int .i64 0, .bool false]) (by simp [results, Try.results21, go_sem, HB.out.1, HB.out.2]) rfl ?_
      rw [HG.out]
      exact ⟨rfl, HSF.out⟩
    | some LL =>
      obtain ⟨L', id'⟩ := LL
      have HG : Hid (lendP p room = some ((overlay p.1 s (List.replicate room (0, 0)), L'), id')) := by
        unfold Hid; rw [HLE.out, Option.bind_some, hpu]; rfl
      rw [hpu] at HC2
      refine HC2.out.mono ?_
      rintro _ w4 ⟨⟨A5, q5, rfl, ho⟩, sp⟩
      obtain ⟨hr, hh, hs⟩ := HOS.out.put HRB.out (by omega) HB2.out ho sp
      have hr2 := hr
      obtain ⟨_, y0, y1, y2, y3⟩ := hr2
      have HB := Lib.hid (box_stored (u' := .slice (some ⟨g, 0, none⟩) n q1) (v' := .slice A5 L'.length q5) hr)
      rw [HLO.out] at hh hs
      have HH := Lib.hid hh
      have HSF := Lib.hid hs
      clear hpu ho sp hr hh hs t0 t1
      go_wp2_with fail
      refine bodyPost_ret (v := .tuple #[.agg #[.slice (some ⟨g, 0, none⟩) n q1, .slice A5 L'.length q5], .int .i64 (id' : Int), .bool true]) (by simp [results, Try.results21, go_sem, HB.out.1, HB.out.2]) rfl ?_
      rw [HG.out]
      exact ⟨⟨_, rfl, HH.out⟩, HSF.out⟩
end Go.Proofs.Ytlhocjoncblocaa
