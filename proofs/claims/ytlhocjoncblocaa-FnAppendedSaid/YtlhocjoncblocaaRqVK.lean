/- The program's pools: AppendTo. -/
import Derived.Test.YtlhocjoncblocaaJq29
import Derived.Test.YtlhocjoncblocaaJq42
import Derived.Test.YtlhocjoncblocaaJq46
import Derived.Test.YtlhocjoncblocaaJq41
import Derived.Test.YtlhocjoncblocaaJq47
import Derived.Deep.AppendSrc
namespace Go.Proofs.Ytlhocjoncblocaa
open Go.RowKit

/-- An append for which there is room. -/
theorem wpList_append_room {P : Program} {w : World} {ops : Array Oper} {rest : List Oper} {o : Oper} {a : Act} {Q : Exit → Act → World → Prop} (hgd : o.guard = none) (s x : Operand) (t : TypeId)
    (ho : o.op = .call { callee := .builtin .append, args := #[s, x], argTypes := #[t, t] })
    (e : TypeId) (i : TypeInfo) (ht : P.underlying t = some (.slice e)) (hi : P.info? e = some i) (hsize : i.size = 1) (b off sLen sCap : Nat) (hs : a.eval s = .slice (some ⟨b, off, none⟩) sLen sCap) (vx : Value) (hx : a.eval x = vx)
    (n : Nat) (news : List Value) (hsrc : Src P 1 t vx n news w) (hroom : sLen + n ≤ sCap) (hc : ∀ j, j < news.length → (w.cell? ⟨b, off + sLen + j, none⟩).isSome = true) (hf : ∀ j, j < news.length → w.frozen? ⟨b, off + sLen + j, none⟩ = false)
    (h : wpList P ops Q rest (a.put o.dst (.slice (some ⟨b, off, none⟩) (sLen + n) sCap)) (w.setCells b (off + sLen) news)) : wpList P ops Q (o :: rest) a w := by
  refine wpList_plain hgd fun K hK => ?_
  have hr := run_append_room_src (P := P) w t t o.type e i ht hi b off sLen sCap vx n news (by rw [hsize]; exact hsrc) hroom (by rw [hsize, Nat.mul_one]; exact hc) (by rw [hsize, Nat.mul_one]; exact hf)
  rw [hsize, Nat.mul_one] at hr
  unfold Oper.wp execOp
  simp only [ho, resolve, invoke, builtin, Sem.run_bind, Sem.run_pure, Result.andThen_ok, List.map_toArray, List.map_cons, List.map_nil, hs, hx, hr]
  exact hK _ _ h

theorem HasS.src {P : Program} {o : Bool} {b lo hi n c : Nat} {w : World} {A : Option Addr} {xs : List Cx} {t e : TypeId} (hk : P.underlying t = some (.slice e)) (h : HasS cxV o b lo hi w (.slice A n c) xs) : Src P 1 t (.slice A n c) n (xs.map cxV) w := by
  obtain ⟨A', cap, e1, _, hc⟩ := h
  injection e1 with e1 e2 e3
  subst e1 e2 e3
  cases A with
  | none =>
    have h0 : xs = [] := by
      cases xs with
      | nil => rfl
      | cons z l => obtain ⟨off, h, _⟩ := hc (by simp); cases h
    subst h0
    exact Src.ofNil (P := P) w (size := 1) (tx := t) hk c
  | some ad =>
    refine Src.ofSlice (P := P) w hk ad xs.length c (xs.map cxV) (by simp) (fun j u hj => ?_) (fun u hu => one_cells u hu)
    have hj' := (List.getElem?_eq_some_iff.1 hj).1
    rw [List.length_map] at hj'
    obtain ⟨off, hh, _, _, _, h4, _⟩ := hc (by omega)
    cases hh
    rw [List.getElem?_map, Option.map_eq_some_iff] at hj
    obtain ⟨x, hx, rfl⟩ := hj
    rw [Addr.add_lit]
    exact h4 j x hx

set_option maxRecDepth 100000 in
set_option maxHeartbeats 4000000 in
theorem impl_appendTo (p : Pl) (id : Nat) (xs : List Cx) (lo hi b3 lo3 hi3 : Nat) (v vl : Value) (w : World) (hx : HasP lo hi w v p) (hp : VP p) (hid : id ≤ 4194304) (hl : HasS cxV false b3 lo3 hi3 w vl xs) (hlen : xs.length ≤ 4194304) :
    Calls Try.prog 16 #[v, .int .i64 (id : Int), vl] w (GivesQ (appP p id xs) w) := by
  obtain ⟨ip, hip, hzp, hsp, hbp⟩ := info_parts info_c64
  have HX := Lib.hid hx
  have HV := Lib.hid hp
  have HXS := Lib.hid hl
  obtain ⟨b1, b2, vS, vL, rfl, g1, g2⟩ := hx
  obtain ⟨AS, cS, rfl, _, _⟩ := g1
  have G2 := Lib.hid g2
  obtain ⟨AL, cL, rfl, _, _⟩ := g2
  obtain ⟨AX, cX, rfl, _, _⟩ := hl
  obtain ⟨m, hm⟩ : ∃ m, m = xs.length := ⟨_, rfl⟩
  have HMX := Lib.hid hm
  rw [← hm] at HXS hlen ⊢
  have mi : (m : Int) ≤ 4194304 := by omega
  clear hm hlen
  have X0 := Lib.hid ((Box.new w (.slice AS p.1.length cS) (.slice AL p.2.length cL) 26).alloc (.cells #[.slice none 0 0, .slice none 0 0] 26))
  have X1 := Lib.hid (Box.new (w.alloc (.cells #[.slice AS p.1.length cS, .slice AL p.2.length cL] 26)) (.slice none 0 0) (.slice none 0 0) 26)
  rw [show (w.alloc (.cells #[.slice AS p.1.length cS, .slice AL p.2.length cL] 26)).heap.size = w.heap.size + 1 by simp] at X1
  have HS := Lib.hid (((Span.refl 0 0 w).alloc (.cells #[.slice AS p.1.length cS, .slice AL p.2.length cL] 26)).alloc (.cells #[.slice none 0 0, .slice none 0 0] 26))
  clear hp
  go_enter Try.func16, Try.ntmps16
  go_wp2_with fail
  refine (isLent_any p id lo hi _ _ (HX.out.span HS.out (.inl (Nat.le_refl _))) HV.out hid).mono ?_
  rintro _ w1 ⟨rfl, s1⟩
  have Y0 := Lib.hid (X0.out.span s1 (.inl (Nat.le_refl _)))
  have Y1 := Lib.hid (X1.out.span s1 (.inl (Nat.le_refl _)))
  have S1 := Lib.hid (s1.after HS.out)
  clear s1 X0 X1 HS
  cases hl : lentAt p id with
  | none =>
    have HG : Hid (appP p id xs = none) := by unfold Hid appP; rw [hl]; rfl
    obtain ⟨_, y0, y1, y2, y3⟩ := Y1.out
    have HB := Lib.hid (box_stored (u' := .slice none 0 0) (v' := .slice none 0 0) Y1.out)
    have HSF := Lib.hid ((S1.out.setCell (p := ⟨w.heap.size + 1, 0, none⟩) (.inr (by simp only; omega)) (.slice none 0 0)).setCell (p := ⟨w.heap.size + 1, 1, none⟩) (.inr (by simp only; omega)) (.slice none 0 0))
    simp only [Option.isSome_none]
    clear hl
    go_wp2_with fail
    refine bodyPost_ret (v := .tuple #[.agg #[.slice none 0 0, .slice none 0 0], .bool false]) (by simp [results, Try.results16, go_sem, HB.out.1, HB.out.2]) rfl ?_
    rw [HG.out]
    exact ⟨rfl, HSF.out⟩
  | some x =>
    have HL := Lib.hid (lentAt_some hl)
    have HIL : Hid (id < p.2.length) := (List.getElem?_eq_some_iff.1 HL.out.1).1
    obtain ⟨-, hb2, off, rfl, l0, l1, l2, l3⟩ := (G2.out.span S1.out (.inl (Nat.le_refl _))).at_ HL.out.1
    have HLE := Lib.hid hl
    simp only [Option.isSome_some]
    clear hl
    obtain ⟨_, x0, x1, _, _⟩ := Y0.out
    obtain ⟨s, c, r, fr⟩ := x
    obtain ⟨o1, o2, o3⟩ := (HV.out.ok _ (List.mem_of_getElem? HL.out.1)).lent HL.out.2
    have hsz := HV.out.size
    simp only at o1 o2 o3 l0 l1 l2 l3
    have i0 : (0 : Int) ≤ (id : Int) := by omega
    have i1 : (id : Int) < (p.2.length : Int) := by have := HIL.out; omega
    have hfr : fr = false := HL.out.2
    subst hfr
    have HB9 := Lib.hid (lsBox w1 ⟨s, c, r, false⟩ 30)
    have S2 := Lib.hid (S1.out.alloc (.cells #[.int .i64 (s : Int), .int .i64 (c : Int), .int .i64 (r : Int), .bool false] 30))
    have Z0 := Lib.hid (Y0.out.alloc (.cells #[.int .i64 (s : Int), .int .i64 (c : Int), .int .i64 (r : Int), .bool false] 30))
    have Z1 := Lib.hid (Y1.out.alloc (.cells #[.int .i64 (s : Int), .int .i64 (c : Int), .int .i64 (r : Int), .bool false] 30))
    have HR1 : Hid (w.heap.size + 1 < w1.heap.size) := Y1.out.1
    have HOK : Hid (1 ≤ r ∧ c ≤ r ∧ s + r ≤ p.1.length ∧ p.1.length ≤ 256) := ⟨o1, o2, o3, hsz⟩
    clear hb2 o1 o2 o3 hsz
    go_upto_region 4 with fail
    clear l0 l1 l2 l3 x0 x1 Y0 Y1 S1
    generalize hw2 : w1.alloc (.cells #[.int .i64 (s : Int), .int .i64 (c : Int), .int .i64 (r : Int), .bool false] 30) = w2 at *
    have HR2 : Hid (w1.heap.size < w2.heap.size) := by unfold Hid; rw [← hw2]; simp
    clear hw2
    obtain ⟨l0, l1, l2, l3⟩ := HB9.out
    simp only [Nat.zero_add] at l0 l1 l2 l3
    have r0 : (r : Int) ≤ 256 := by have := HOK.out; omega
    have r1 : (c : Int) ≤ (r : Int) := by have := HOK.out; omega
    by_cases hle : m ≤ r - c
    · have HLEM : Hid (c + m ≤ r) := by have := HOK.out; unfold Hid; omega
      have hle2 : ¬ (r : Int) - (c : Int) < (m : Int) := by have := HOK.out; omega
      have HG : Hid (appP p id xs = some (overlay p.1 (s + c) xs, p.2.set id ⟨s, c + m, r, false⟩)) := by
        unfold Hid appP; rw [HLE.out]; simp only [Option.bind_some]; rw [← HMX.out, if_pos hle]
      clear hle
      obtain ⟨_, x0, x1, _, _⟩ := Z0.out
      go_wp2_with fail
      refine (copyPool_own p lo hi _ _ (HX.out.span S2.out (.inl (Nat.le_refl _))) (by have := HV.out.size; omega) (by have := HV.out.most; omega)).mono ?_
      rintro _ w3 ⟨A1, q1, A2, q2, rfl, ho1, ho2, s3⟩
      have HRB : Hid (w.heap.size + 1 < w2.heap.size) := Z1.out.1
      have HO := Lib.hid (Own.new (Z1.out.span s3 (.inl (Nat.le_refl _))) ho1 ho2 (s3.after S2.out))
      have HB10 := Lib.hid ((HB9.out.span s3 (.inl (Nat.le_refl _))).span ((Span.refl 0 0 w3).alloc (.cells #[.slice A1 p.1.length q1, .slice A2 p.2.length q2] 26)) (.inl (Nat.le_refl _)))
      have HCAP := Lib.hid (own_cap ho1)
      obtain ⟨g, cap1, hv1, hgb, -⟩ := ho1.form (by have := HOK.out; omega)
      injection hv1 with e1 e2 e3
      clear e2
      subst e1 e3
      have HGB : Hid (w2.heap.size ≤ g) := hgb
      clear ho1 ho2 s3 Z0 Z1 S2 x0 x1 l0 l1 l2 l3 HB9 hgb
      go_upto_region 7 with fail
      generalize w3.alloc (.cells #[.slice (some ⟨g, 0, none⟩) p.1.length q1, .slice A2 p.2.length q2] 26) = w4 at *
      obtain ⟨l0, l1, l2, l3⟩ := HB10.out
      simp only [Nat.zero_add] at l0 l1 l2 l3
      obtain ⟨_, t0, t1, _, _⟩ := HO.out.t
      have WI := windowIn_any g 0 p.1.length q1 ⟨s, c, r, false⟩ (by have := HOK.out; exact this.1) (by have := HOK.out; exact this.2.1) (by have := HOK.out; exact this.2.2.1) HCAP.out (by have := HOK.out; omega) w4
      unfold lsV at WI
      simp only [Nat.zero_add] at WI
      have HWI := Lib.hid WI
      clear WI
      go_wp2_with fail
      refine HWI.out.mono ?_
      rintro _ w5 ⟨rfl, s5⟩
      have HO5 := Lib.hid (HO.out.span s5)
      have HB11 := Lib.hid (HB10.out.span s5 (.inl (Nat.le_refl _)))
      have HXS5 := Lib.hid (HXS.out.span HO5.out.s (.inl (Nat.le_refl _)))
      clear s5 t0 t1 l0 l1 l2 l3 HO HB10 HWI
      have HSRC := Lib.hid (HXS5.out.src (P := Try.prog) Try.underlying23)
      have HO6 := Lib.hid (HO5.out.setSs HRB.out (by have := HRB.out; omega) xs p.1 (s + c) w5 (by rw [← HMX.out]; have := HLEM.out; have := HOK.out; omega))
      have HOL : Hid ((overlay p.1 (s + c) xs).length = p.1.length) := overlay_length (by rw [← HMX.out]; have := HLEM.out; have := HOK.out; omega)
      have HB12 := Lib.hid (HB11.out.span (Span.setCells' (lo := g) (hi := g + 1) (Nat.le_refl _) (Nat.lt_succ_self _) (xs.map cxV) (s + c) w5 (Span.refl g (g + 1) w5)) (.inr (.inl (by have := HGB.out; have := HR2.out; omega))))
      go_upto_region 8 with (at_builtin; go_loud (refine wpList_append_room rfl (.tmp 35) (.tmp 36) 23 rfl 48 ip Try.underlying23 hip hsp g s c r rfl _ rfl m (xs.map cxV) HSRC.out HLEM.out ?hc ?hf ?_; (case hc => exact fun j hj => HO5.out.cellS (by rw [List.length_map, ← HMX.out] at hj; have := HLEM.out; have := HOK.out; omega)); (case hf => exact fun j hj => HO5.out.hs.frozenAt _)))
      generalize w5.setCells g (s + c) (xs.map cxV) = w6 at *
      clear HO5 HB11 HXS5 HSRC
      obtain ⟨g2, rfl, ⟨n0, n1, n2, n3⟩, hfz⟩ := HO6.out.lease HL.out.1
      have f1 := hfz (id * 4 + 1)
      obtain ⟨_, t0, t1, _, _⟩ := HO6.out.t
      rw [HOL.out] at t0
      have HSC := Lib.hid (HO6.out.setC HRB.out (by have := HRB.out; omega) HL.out.1 (c + m))
      have hcast : ((c + m : Nat) : Int) = (c : Int) + (m : Int) := by omega
      rw [hcast] at HSC
      have HLS : Hid ((p.2.set id ⟨s, c + m, r, false⟩).length = p.2.length) := List.length_set ..
      simp only at HSC
      clear hfz hcast
      go_upto_region 9 with fail
      clear n0 n1 n2 n3 f1 t0 t1
      generalize w6.setCell ⟨g2, id * 4 + 1, none⟩ (.int .i64 ((c : Int) + (m : Int))) = wS at *
      obtain ⟨_, t0, t1, _, _⟩ := HSC.out.t
      obtain ⟨_, y0, y1, y2, y3⟩ := HSC.out.r
      have HB := Lib.hid (box_stored (u' := .slice (some ⟨g, 0, none⟩) (overlay p.1 (s + c) xs).length q1) (v' := .slice (some ⟨g2, 0, none⟩) (p.2.set id ⟨s, c + m, r, false⟩).length q2) HSC.out.r)
      have HR := Lib.hid (HSC.out.result HRB.out (by omega))
      rw [HOL.out] at t0
      rw [HLS.out] at t1
      rw [HOL.out, HLS.out] at HB HR
      go_wp2_with fail
      refine bodyPost_ret (v := .tuple #[.agg #[.slice (some ⟨g, 0, none⟩) p.1.length q1, .slice (some ⟨g2, 0, none⟩) p.2.length q2], .bool true]) (by simp [results, Try.results16, go_sem, HB.out.1, HB.out.2]) rfl ?_
      rw [HG.out]
      exact ⟨⟨_, rfl, HR.out.1⟩, HR.out.2⟩
    · have HG : Hid (appP p id xs = none) := by
        unfold Hid appP; rw [HLE.out]; simp only [Option.bind_some]; rw [← HMX.out, if_neg hle]
      have hle2 : (r : Int) - (c : Int) < (m : Int) := by have := HOK.out; omega
      clear hle
      obtain ⟨_, y0, y1, y2, y3⟩ := Z1.out
      have HB := Lib.hid (box_stored (u' := .slice none 0 0) (v' := .slice none 0 0) Z1.out)
      have HSF := Lib.hid ((S2.out.setCell (p := ⟨w.heap.size + 1, 0, none⟩) (.inr (by simp only; omega)) (.slice none 0 0)).setCell (p := ⟨w.heap.size + 1, 1, none⟩) (.inr (by simp only; omega)) (.slice none 0 0))
      go_wp2_with fail
      refine bodyPost_ret (v := .tuple #[.agg #[.slice none 0 0, .slice none 0 0], .bool false]) (by simp [results, Try.results16, go_sem, HB.out.1, HB.out.2]) rfl ?_
      rw [HG.out]
      exact ⟨rfl, HSF.out⟩
end Go.Proofs.Ytlhocjoncblocaa
