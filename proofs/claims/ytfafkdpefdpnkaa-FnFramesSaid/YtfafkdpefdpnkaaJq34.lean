/- The law FnFrames. -/
import Derived.Test.YtfafkdpefdpnkaaJq30
import Derived.Test.YtfafkdpefdpnkaaJq32
import Derived.Test.YtfafkdpefdpnkaaJq33
import Derived.Test.YtfafkdpefdpnkaaJq28
import Derived.Deep.RegionWith
import Derived.BigQuiet
import Derived.Deep.DeepCutAuto
import Derived.Outline
namespace Go.Proofs.Ytfafkdpefdpnkaa
open Go.RowKit

theorem hbyUpF {B : Nat} {w : World} {A : Option Addr} {n : Nat} (h : HasBy B w A n) (hB : B ≤ w.heap.size) : HasBy w.heap.size w A n := fun hp => by
  obtain ⟨b, off, rfl, hb, hc⟩ := h hp
  exact ⟨b, off, rfl, by omega, hc⟩

theorem wpList_append_anyF {P : Program} {w : World} {α : Type} {val : α → Value} (h1 : ∀ a, (val a).oneCell' = true) {ops : Array Oper} {rest : List Oper} {o : Oper} {a : Act} {Q : Exit → Act → World → Prop} (hw : Region.wanted o (yielded ops a.tmps) = true) (s x : Operand) (t : TypeId)
    (ho : o.op = .call { callee := .builtin .append, args := #[s, x], argTypes := #[t, t] })
    (base : Nat) (e : TypeId) (i : TypeInfo) (z : Value) (bytes : Nat) (ht : P.underlying t = some (.slice e)) (hi : P.info? e = some i) (hz : i.zero = some z)
    (hsize : i.size = 1) (hby : i.bytes = bytes) (hzs : z.cells.size = 1)
    (v : Value) (n : Nat) (ys : List Value) (hs : a.eval s = v) (hown : w.ownsRow base e 1 v n ys)
    {own : Bool} {b lo hi' : Nat} {vx : Value} {xs : List α} (hxv : HasS val own b lo hi' w vx xs) (hx : a.eval x = vx)
    (h63 : n + xs.length ≤ maxLen) (hbytes : (n + xs.length) * bytes ≤ 140737488355328) (hbase : base ≤ w.heap.size)
    (h : ∀ v' w', w'.ownsRow base e 1 v' (n + xs.length) (ys ++ xs.map val) → w.grownBy w' v.ownBlock → (v'.ownBlock = v.ownBlock ∨ v'.ownBlock = some w.heap.size) → wpList P ops Q rest (a.put o.dst v') w') :
    wpList P ops Q (o :: rest) a w := by
  refine wpList_step fun K hK => ?_
  rw [if_pos hw]
  obtain ⟨v', w', hr, h2, h3, h4⟩ := run_append_any (P := P) h1 w base t o.type e i z bytes ht hi hz hsize hby hzs v n ys hown hxv h63 hbytes hbase
  unfold Oper.wp execOp
  simp only [ho, resolve, invoke, builtin, Sem.run_bind, Sem.run_pure, Result.andThen_ok, List.map_toArray, List.map_cons, List.map_nil, hs, hx, hr]
  exact hK _ _ (h v' w' h2 h3 h4)

/-- What the loops look at: the frames, what is listed, and how often. -/
def Looks (L : List Fr) (w : World) (AL : Option Addr) (nl ql : Nat) (AK : Option Addr) (nk qk : Nat) (AC : Option Addr) (qc : Nat) : Prop :=
  (∃ b lo hi, HasFr b lo hi w (.slice AL nl ql) L) ∧ (∃ b lo hi, HasFr b lo hi w (.slice AK nk qk) (countF L).1) ∧ (∃ b lo hi, HasS natV true b lo hi w (.slice AC nk qc) (countF L).2)
theorem Looks.keep {L : List Fr} {w w' : World} {AL : Option Addr} {nl ql : Nat} {AK : Option Addr} {nk qk : Nat} {AC : Option Addr} {qc : Nat} (h : Looks L w AL nl ql AK nk qk AC qc) (s : Span 0 0 w w') : Looks L w' AL nl ql AK nk qk AC qc := by
  obtain ⟨⟨b1, l1, h1, x1⟩, ⟨b2, l2, h2, x2⟩, ⟨b3, l3, h3, x3⟩⟩ := h
  exact ⟨⟨b1, l1, h1, x1.keep s⟩, ⟨b2, l2, h2, x2.keep s⟩, ⟨b3, l3, h3, x3.span s (.inl (Nat.le_refl _))⟩⟩

theorem sum_take_succ {l : List Nat} {i c : Nat} (h : l[i]? = some c) : (l.take (i + 1)).sum = (l.take i).sum + c := by
  rw [take_snoc_of h, List.sum_append, List.sum_cons, List.sum_nil, Nat.add_zero]
theorem sum_take_le (l : List Nat) (i : Nat) : (l.take i).sum ≤ l.sum := by
  have : l.sum = (l.take i).sum + (l.drop i).sum := by rw [← List.sum_append, List.take_append_drop]
  omega

/-- Where the loop over what is listed has come to. -/
structure Sums (L : List Fr) (P : List Nat) (i : Nat) (s : Nat) (last : Int) : Prop where
  sum : s = ((countF L).2.take i).sum
  low : -1 ≤ last
  high : last ≤ 14
  up : ∀ j p, i ≤ j → P[j]? = some p → last < (p : Int)

theorem sub_nan {p : Nat} {w : World} (h : (FloatKind.f32.format.order (fAr .sub .f32 p p w) 0 == some .eq) = true) : nanB .f32 p = false := by
  cases hn : nanB .f32 p with
  | false => rfl
  | true =>
    rw [order_nan_left (fAr_nan w (floatBits_nan_left hn))] at h
    cases h

set_option maxRecDepth 100000 in
set_option maxHeartbeats 16000000 in
theorem law_frames (A : Option Addr) (n c : Nat) (w : World) (h : HasBy w.heap.size w A n) : Calls Try.prog 3 #[.slice A n c] w (Says w) := by
  by_cases hn : n ≤ 1048576
  · have Hn := Lib.hid hn
    have Hby := Lib.hid h
    obtain ⟨ip, hip, hzp, hsp, hbp⟩ := info_parts info_c64
    obtain ⟨il, hil, hzl, hsl, hbl⟩ := info_parts info_frame
    have i0 : decide ((1048576 : Int) < (n : Int)) = false := by rw [decide_eq_false_iff_not]; omega
    clear hn h
    go_enter Try.func3, Try.ntmps3
    go_wp2_with fail
    refine (makeSamples_any 60 (by omega) (by omega) A n c w Hn.out Hby.out).mono ?_
    rintro _ w1 ⟨v1, ys, rfl, hl1, -, ho1, hb1⟩
    obtain ⟨A1, q1, rfl⟩ := ownsRow_slice ho1
    obtain ⟨b1, hs1, -, -⟩ := ownsRow_hasS ho1
    have HS1 := Lib.hid hs1
    have B1 := Lib.hid hb1
    have B1z := Lib.hid hb1.size
    have HL1 := Lib.hid hl1
    clear ho1 hs1 hb1 hl1
    go_wp2_with fail
    refine (framesOf_any ys true b1 _ _ _ w1 HS1.out (by have := HL1.out; omega)).mono ?_
    rintro _ w2 ⟨v2, v3, Fs, R, mid, b3, rfl, hcat, hR, ho2, -, -, hs3, s2⟩
    obtain ⟨A2, q2, rfl⟩ := ownsRow_slice ho2
    obtain ⟨A3, q3, rfl, -, -⟩ := id hs3
    have HCAT := Lib.hid hcat
    have HR := Lib.hid hR
    have HF7 : Hid (Fs.length ≤ 7) := Lib.hid (by
      have := congrArg List.length hcat
      rw [List.length_append, flatL_length] at this
      have := HL1.out
      omega)
    obtain ⟨b2, hs2, -, -⟩ := ownsRow_hasFr ho2
    have HZ12 := Lib.hid s2.size
    have SMP := fun v b lo hi W h g => samplesOf_any Fs b lo hi v W h g
    obtain ⟨Xs, hXs⟩ : ∃ Xs, Xs = Fs.flatMap Fr.l := ⟨_, rfl⟩
    rw [← hXs] at HCAT SMP
    have HSMP := Lib.hid SMP
    have HXL : Hid (Xs.length = Fs.length * 8) := Lib.hid (by rw [hXs, flatL_length])
    clear SMP hXs
    have HO2 := Lib.hid ho2
    have HS2 := Lib.hid hs2
    have HS3 := Lib.hid hs3
    have HS1' := Lib.hid (HS1.out.span s2 (.inl (Nat.le_refl _)))
    have B2 := Lib.hid (s2.below B1.out (.inl (Nat.le_refl _)) B1.out.size)
    have i1 : decide ((8 : Int) ≤ (R.length : Int)) = false := by rw [decide_eq_false_iff_not]; omega
    clear hcat hR ho2 hs2 hs3 s2 HS1 B1
    obtain ⟨fl, hfl⟩ : ∃ t, t = Fs.length := ⟨_, rfl⟩
    obtain ⟨rl, hrl⟩ : ∃ t, t = R.length := ⟨_, rfl⟩
    obtain ⟨yl, hyl⟩ : ∃ t, t = ys.length := ⟨_, rfl⟩
    rw [← hfl] at HO2 HS2 HF7
    rw [← hrl] at HS3 HR i1
    rw [← hyl] at HS1' HL1
    rw [← hfl, ← hrl]
    try rw [← hyl]
    have HFL := Lib.hid hfl
    have HRL := Lib.hid hrl
    have HYL := Lib.hid hyl
    clear hfl hrl hyl
    go_wp2_with fail
    have HE2 := Lib.hid (World.ownsRow_made (base := w2.heap.size) (e := 35) (size := 1) w2 #[] 0 (Nat.le_refl _) (Nat.zero_le _) rfl)
    refine (HSMP.out _ b2 w1.heap.size w2.heap.size _ (HS2.out.keep ((Span.refl 0 0 w2).alloc _)) (by rw [← HFL.out]; have := HF7.out; omega)).mono ?_
    rintro _ w6 ⟨v6, rfl, ho6, s6⟩
    obtain ⟨A6, q6, rfl⟩ := ownsRow_slice ho6
    obtain ⟨b6, hs6, -, -⟩ := ownsRow_hasS ho6
    obtain ⟨sl, hsl'⟩ : ∃ t, t = Xs.length := ⟨_, rfl⟩
    rw [← hsl'] at hs6 ⊢
    have HSL := Lib.hid hsl'
    have HSL7 : Hid (sl ≤ 56) := Lib.hid (by rw [hsl', HXL.out, ← HFL.out]; have := HF7.out; omega)
    have HS6 := Lib.hid hs6
    have S26 := Lib.hid (((Span.refl 0 0 w2).alloc (.cells #[] 35)).trans s6)
    have HE6 := Lib.hid (ownsRow_keep HE2.out s6)
    have HS36 := Lib.hid (HS3.out.span S26.out (.inl (Nat.le_refl _)))
    clear ho6 hs6 s6 hsl' HE2
    go_wp2_with (first
      | (at_builtin; (refine wpList_append_anyF cxV_one ?hw (.tmp 34) (.tmp 36) 23 rfl w2.heap.size 35 ip (.complex .f32 0 0) 8 Try.underlying23 hip hzp hsp hbp rfl _ _ _ rfl HE6.out HS6.out rfl ?c1 ?c2 ?c3 ?_; (case hw => first | rfl | (simp [Region.wanted, yielded]; done) | go_simp); (case c1 => have := HSL7.out; have := HSL.out; unfold maxLen; omega); (case c2 => have := HSL7.out; have := HSL.out; omega); (case c3 => exact S26.out.size); intro v7 w7 ho7 hg7 _; rw [Nat.zero_add, List.nil_append] at ho7; obtain ⟨A7, q7, rfl⟩ := ownsRow_slice ho7; have HO7 := Lib.hid ho7; have S27 := Lib.hid (S26.out.grown hg7 (fun k hk => .inr (HE6.out.lt k hk).1)); have HS37 := Lib.hid (HS3.out.span S27.out (.inl (Nat.le_refl _))); clear ho7 hg7))
      | (at_builtin; go_loud (refine wpList_append_anyF cxV_one ?hw (.tmp 37) (.tmp 38) 23 rfl w2.heap.size 35 ip (.complex .f32 0 0) 8 Try.underlying23 hip hzp hsp hbp rfl _ _ _ rfl HO7.out HS37.out rfl ?c1 ?c2 ?c3 ?_; (case hw => first | rfl | (simp [Region.wanted, yielded]; done) | go_simp); (case c1 => have := HSL7.out; have := HSL.out; have := HR.out; have := HRL.out; unfold maxLen; omega); (case c2 => have := HSL7.out; have := HSL.out; have := HR.out; have := HRL.out; omega); (case c3 => exact S27.out.size); intro v8 w8 ho8 hg8 _; obtain ⟨A8, q8, rfl⟩ := ownsRow_slice ho8; have HO8 := Lib.hid ho8; have S28 := Lib.hid (S27.out.grown hg8 (fun k hk => .inr (HO7.out.lt k hk).1)); clear ho8 hg8)))
    have ho8 := HO8.out
    rw [← List.map_append, ← List.length_append, HCAT.out] at ho8
    rw [show Xs.length + R.length = ys.length by rw [← List.length_append, HCAT.out]]
    obtain ⟨b8, hs8, -, -⟩ := ownsRow_hasS ho8
    have HS8 := Lib.hid hs8
    have HS18 := Lib.hid (HS1'.out.span S28.out (.inl (Nat.le_refl _)))
    have HO28 := Lib.hid (ownsRow_keep HO2.out S28.out)
    have B8 := Lib.hid (S28.out.below B2.out (.inl (Nat.le_refl _)) B2.out.size)
    have HZ8 := Lib.hid (Nat.le_trans HZ12.out S28.out.size)
    clear ho8 hs8 HO7 HO8 HS36 HS37 HE6 HS6 S26 S27
    refine (makeSame_self ys _ _ _ _ _ _ _ _ _ _ _ HS8.out HS18.out (by have := HL1.out; rw [HYL.out] at this; omega)).mono ?_
    rintro _ _ ⟨nd, rfl, rfl⟩
    have SD := Lib.hid ((Span.refl 0 0 w8).drewN nd)
    have HO9 := Lib.hid (ownsRow_keep HO28.out SD.out)
    have B9 := Lib.hid (SD.out.below B8.out (.inl (Nat.le_refl _)) B8.out.size)
    have HZ9 : Hid (w1.heap.size ≤ (w8.drewN nd).heap.size) := HZ8
    clear HS8 HS18 HO28 B8 HZ8 SD HS2 HS3 HS1' B2 HSMP HSL HSL7 HXL HCAT HR HRL HYL HL1
    generalize w8.drewN nd = w9 at *
    clear S28
    have HY9 := Lib.hid (hbyUpF (Hby.out.below B9.out) B9.out.size)
    go_wp2_with fail
    refine (fresh_any A n c 3 w9 (by omega) (by omega) Hn.out HY9.out).mono ?_
    rintro _ w10 ⟨A4, n4, c4, rfl, hn4, hy4, hb4⟩
    have HO10 := Lib.hid (ownsRow_keep HO9.out (Span.of_below hb4))
    have B10 := Lib.hid ((Span.of_below hb4).below B9.out (.inl (Nat.le_refl _)) B9.out.size)
    have HZ10 := Lib.hid (Nat.le_trans HZ9.out hb4.size)
    have HN4 := Lib.hid hn4
    have HY4 := Lib.hid hy4
    clear hn4 hy4 hb4 HO9 B9 HZ9 HY9
    go_wp2_with fail
    refine (makeFrames_any A4 n4 c4 w10 (by have := HN4.out; omega) HY4.out).mono ?_
    rintro _ w11 ⟨A5, q5, Gs, rfl, hl5, ho5, hb5⟩
    obtain ⟨b5, hs5, -, -⟩ := ownsRow_hasFr ho5
    have HO11 := Lib.hid (ownsRow_keep HO10.out (Span.of_below hb5))
    have B11 := Lib.hid ((Span.of_below hb5).below B10.out (.inl (Nat.le_refl _)) B10.out.size)
    have HZ11 := Lib.hid (Nat.le_trans HZ10.out hb5.size)
    have HG7 := Lib.hid hl5
    have HG5 := Lib.hid hs5
    clear hl5 ho5 hs5 hb5 HO10 B10 HZ10 HN4 HY4
    obtain ⟨gl, hgl⟩ : ∃ t, t = Gs.length := ⟨_, rfl⟩
    rw [← hgl] at HG5 HG7 ⊢
    have HGL := Lib.hid hgl
    clear hgl
    go_wp2_with (at_builtin; go_loud (refine wpList_append_fr rfl _ _ 25 rfl w1.heap.size 37 il (.agg #[.complex .f32 0 0, .complex .f32 0 0, .complex .f32 0 0, .complex .f32 0 0, .complex .f32 0 0, .complex .f32 0 0, .complex .f32 0 0, .complex .f32 0 0]) 64 Try.underlying25 hil hzl hsl hbl rfl _ _ _ rfl HO11.out HG5.out rfl ?c1 ?c2 ?c3 ?_; (case c1 => have := HF7.out; have := HG7.out; have := HGL.out; unfold maxLen; omega); (case c2 => have := HF7.out; have := HG7.out; have := HGL.out; omega); (case c3 => exact HZ11.out); intro v12 w12 ho12 hg12 _; obtain ⟨A12, q12, rfl⟩ := ownsRow_slice ho12; have HO12 := Lib.hid ho12; have B12 := Lib.hid (B11.out.grown hg12 B11.out.size (fun k hk => by have := (HO11.out.lt k hk).1; have := B1z.out; omega)); clear ho12 hg12))
    have ho12 := HO12.out
    rw [← flatF_append] at ho12
    obtain ⟨L, hL⟩ : ∃ L, L = Fs ++ Gs := ⟨_, rfl⟩
    rw [← hL, show fl + Gs.length = L.length by rw [hL, List.length_append, HFL.out]] at ho12
    rw [show fl + Gs.length = L.length by rw [hL, List.length_append, HFL.out]]
    have HLL : Hid (L.length ≤ 14) := Lib.hid (by rw [hL, List.length_append]; have := HFL.out; have := HF7.out; have := HG7.out; have := HGL.out; omega)
    obtain ⟨b12, hs12, -, -⟩ := ownsRow_hasFr ho12
    have HS12 := Lib.hid hs12
    clear ho12 hs12 HO12 HO11 B11 HZ11 HG5 HG7 HF7 HGL HFL hL HZ12
    refine (countFrames_any L b12 _ _ _ w12 HS12.out (by have := HLL.out; omega)).mono ?_
    rintro _ w13 ⟨AK, qK, AC, qC, rfl, hoK, hoC, s13⟩
    obtain ⟨P, hP⟩ := counted L
    obtain ⟨bK, hsK, -, -⟩ := ownsRow_hasFr hoK
    obtain ⟨bC, hsC, -, -⟩ := ownsRow_hasS hoC
    rw [← hP.len] at hsC
    have hLook : Looks L w13 A12 L.length q12 AK (countF L).1.length qK AC qC := ⟨⟨_, _, _, HS12.out.keep s13⟩, ⟨_, _, _, hsK⟩, ⟨_, _, _, hsC⟩⟩
    rw [show (countF L).2.length = (countF L).1.length from hP.len.symm]
    obtain ⟨nl, hnl⟩ : ∃ t, t = L.length := ⟨_, rfl⟩
    obtain ⟨nk, hnk⟩ : ∃ t, t = (countF L).1.length := ⟨_, rfl⟩
    rw [← hnl, ← hnk] at hLook ⊢
    have HP := Lib.hid hP
    have HNL := Lib.hid hnl
    have HNK := Lib.hid hnk
    have HNK2 : Hid (nk = (countF L).2.length) := Lib.hid (by rw [hnk]; exact hP.len)
    have HNKl : Hid (nk ≤ 14) := Lib.hid (by rw [hnk]; have := hP.short; have := HLL.out; omega)
    have HNLl : Hid (nl ≤ 14) := Lib.hid (by rw [hnl]; exact HLL.out)
    have HLK := Lib.hid hLook
    have B13 := Lib.hid (s13.below B12.out (.inl (Nat.le_refl _)) B12.out.size)
    clear hoK hoC hsK hsC s13 hP hnl hnk hLook HS12 B12
    have j1 : (nk : Int) ≤ 14 := by have := HNKl.out; omega
    have j2 : (nl : Int) ≤ 14 := by have := HNLl.out; omega
    go_wp2_with fail
    go_loopw [8, 9, 10, 11, 12, 61] (fun s l _ _ _ c wr => ∃ (i : Nat) (sm : Nat) (last : Int), i ≤ nk ∧ c = .int .i64 i ∧ s = .int .i64 (sm : Int) ∧ l = .int .i64 last ∧ Sums L P i sm last ∧ Span 0 0 w13 wr) (fun _ _ _ _ _ c _ => nk - (intOf c).toNat)
    case atStart => exact ⟨0, 0, -1, Nat.zero_le _, rfl, rfl, rfl, ⟨rfl, by omega, by omega, fun j p _ _ => by omega⟩, Span.refl _ _ _⟩
    case round =>
      obtain ⟨i, sm, last, hi, rfl, rfl, rfl, hsm, hsp⟩ := hrel
      have HSM := Lib.hid hsm
      have HSP := Lib.hid hsp
      have HLr := Lib.hid (HLK.out.keep hsp)
      have k1 : (sm : Int) ≤ 14 := by
        have h1 := hsm.sum
        have h2 := sum_take_le (countF L).2 i
        rw [HP.out.sum] at h2
        have := HLL.out
        omega
      have k2 := hsm.low
      have k3 := hsm.high
      clear hsm hsp
      by_cases hlt : i < nk
      · as_aux_lemma =>
        obtain ⟨F, hF⟩ := getElem?_some (xs := (countF L).1) (j := i) (by rw [← HNK.out]; exact hlt)
        obtain ⟨ci, hci⟩ := getElem?_some (xs := (countF L).2) (j := i) (by rw [← HNK2.out]; exact hlt)
        have HF := Lib.hid hF
        have HCI := Lib.hid hci
        obtain ⟨⟨b1, l1, h1, x1⟩, ⟨b2, l2, h2, x2⟩, ⟨b3, l3, h3, x3⟩⟩ := HLr.out
        obtain ⟨-, -, off2, rfl, hat⟩ := x2.at_ hF
        have c1 : 1 ≤ ci := HP.out.pos ci (List.mem_of_getElem? hci)
        have c2 : ci ≤ 14 := by
          have h1 := mem_le_sum _ ci (List.mem_of_getElem? hci)
          rw [HP.out.sum] at h1
          have := HLL.out
          omega
        have c3 : (1 : Int) ≤ (ci : Int) := by omega
        have c4 : (ci : Int) ≤ 14 := by omega
        obtain ⟨offc, rfl, -, -, -⟩ := x3.addrT (show 0 < (countF L).2.length by rw [← HNK2.out]; omega)
        have hck := x3.at_ hci
        obtain ⟨p, hp⟩ := getElem?_some (xs := P) (j := i) (by rw [HP.out.places, ← HNK.out]; exact hlt)
        have HPI := Lib.hid hp
        have hpl : p < L.length := HP.out.low p (List.mem_of_getElem? hp)
        have hup := HSM.out.up i p (Nat.le_refl _) hp
        have HX1 := Lib.hid x1
        have HX2 := Lib.hid x2
        have HX3 := Lib.hid x3
        have HLT := Lib.hid hlt
        have S1 := Lib.hid ((Span.refl 0 0 wr).alloc (.cells (frA F) 37))
        have XB : Hid (Bx wr.heap.size (frA F) (wr.alloc (.cells (frA F) 37))) := Lib.hid (Bx.new _ _ _)
        have HAT : Hid (eqF F F = true → atF L F = some p) := Lib.hid (fun he => HP.out.at_ i F p hF hp he)
        have HAK : Hid (eqF F F = true → atF (countF L).1 F = some i) := Lib.hid (fun he => HP.out.first hF he)
        have HSN : Hid (Sums L P (i + 1) (sm + ci) (p : Int)) := Lib.hid ⟨by rw [sum_take_succ hci, HSM.out.sum], by omega, by have := HLL.out; omega, fun j p' hj hp' => by
          have h1 := HSM.out.up j p' (by omega) hp'
          have h2 := HP.out.up i j p p' (by omega) hp hp'
          omega⟩
        have HSO : Hid (Sums L P (i + 1) (sm + ci) last) := Lib.hid ⟨by rw [sum_take_succ hci, HSM.out.sum], by omega, by omega, fun j p' hj hp' => by
          have h1 := HSM.out.up j p' (by omega) hp'
          omega⟩
        have hp14 : (p : Int) ≤ 14 := by have := HLL.out; omega
        clear hci hp hF hpl x1 x2 x3
        obtain ⟨a0, a1, a2, a3, a4, a5, a6, a7⟩ := hat
        obtain ⟨⟨x0, x1⟩, ⟨x2, x3⟩, ⟨x4, x5⟩, ⟨x6, x7⟩, ⟨x8, x9⟩, ⟨x10, x11⟩, ⟨x12, x13⟩, ⟨x14, x15⟩⟩ := F
        unfold cxV at a0 a1 a2 a3 a4 a5 a6 a7
        simp only at a0 a1 a2 a3 a4 a5 a6 a7
        have S1' : Hid (Span 0 0 wr (wr.alloc (.cells #[.complex .f32 x0 x1, .complex .f32 x2 x3, .complex .f32 x4 x5, .complex .f32 x6 x7, .complex .f32 x8 x9, .complex .f32 x10 x11, .complex .f32 x12 x13, .complex .f32 x14 x15] 37))) := S1
        have XB' : Hid (Bx wr.heap.size #[.complex .f32 x0 x1, .complex .f32 x2 x3, .complex .f32 x4 x5, .complex .f32 x6 x7, .complex .f32 x8 x9, .complex .f32 x10 x11, .complex .f32 x12 x13, .complex .f32 x14 x15] (wr.alloc (.cells #[.complex .f32 x0 x1, .complex .f32 x2 x3, .complex .f32 x4 x5, .complex .f32 x6 x7, .complex .f32 x8 x9, .complex .f32 x10 x11, .complex .f32 x12 x13, .complex .f32 x14 x15] 37))) := XB
        clear S1 XB hck
        go_upto_region 16 with fail
        generalize wr.alloc (.cells #[.complex .f32 x0 x1, .complex .f32 x2 x3, .complex .f32 x4 x5, .complex .f32 x6 x7, .complex .f32 x8 x9, .complex .f32 x10 x11, .complex .f32 x12 x13, .complex .f32 x14 x15] 37) = wx at *
        have hck := (HX3.out.span S1'.out (.inl (Nat.le_refl _))).at_ HCI.out
        unfold natV at hck
        have xc := XB'.out.cells
        clear a0 a1 a2 a3 a4 a5 a6 a7
        go_wp2_with fail
        have C := findFrame_any L ⟨(x0, x1), (x2, x3), (x4, x5), (x6, x7), (x8, x9), (x10, x11), (x12, x13), (x14, x15)⟩ b1 l1 h1 _ wx (HX1.out.keep S1'.out) (by have := HLL.out; omega)
        have E := fun W => equalFrames_any ⟨(x0, x1), (x2, x3), (x4, x5), (x6, x7), (x8, x9), (x10, x11), (x12, x13), (x14, x15)⟩ ⟨(x0, x1), (x2, x3), (x4, x5), (x6, x7), (x8, x9), (x10, x11), (x12, x13), (x14, x15)⟩ W
        have D := fun W h => findFrame_any (countF L).1 ⟨(x0, x1), (x2, x3), (x4, x5), (x6, x7), (x8, x9), (x10, x11), (x12, x13), (x14, x15)⟩ b2 l2 h2 (.slice (some ⟨b2, off2, none⟩) nk qK) W h (by rw [← HNK.out]; have := HNKl.out; omega)
        cases he : eqF ⟨(x0, x1), (x2, x3), (x4, x5), (x6, x7), (x8, x9), (x10, x11), (x12, x13), (x14, x15)⟩ ⟨(x0, x1), (x2, x3), (x4, x5), (x6, x7), (x8, x9), (x10, x11), (x12, x13), (x14, x15)⟩ with
        | true =>
          rw [HAT.out he] at C
          rw [HAK.out he] at D
          rw [he] at E
          have HE := Lib.hid E
          have HD := Lib.hid D
          clear E D he
          refine C.mono ?_
          clear C
          rintro _ w2 ⟨rfl, s2⟩
          show _
          have S2 := Lib.hid (S1'.out.trans s2)
          have xc2 := (XB'.out.keep s2).cells
          have hck2 := (HX3.out.span S2.out (.inl (Nat.le_refl _))).at_ HCI.out
          unfold natV at hck2
          have XB2 := Lib.hid (XB'.out.keep s2)
          have e1 : ¬ (p : Int) ≤ last := by omega
          unfold atZ
          simp only
          clear s2 xc hck
          go_wp2_with fail
          refine (HE.out _).mono ?_
          rintro _ w3 ⟨rfl, s3⟩
          have S3 := Lib.hid (S2.out.trans s3)
          have xc3 := (XB2.out.keep s3).cells
          clear s3 xc2 hck2
          go_wp2_with fail
          refine (HD.out _ (HX2.out.keep S3.out)).mono ?_
          rintro _ w4 ⟨rfl, s4⟩
          have S4 := Lib.hid (S3.out.trans s4)
          unfold atZ
          simp only
          clear s4 xc3
          go_wp2_with fail
          go_roundw
          case rel => exact ⟨i + 1, sm + ci, (p : Int), HLT.out, by go_num, by rw [Int.natCast_add], rfl, HSN.out, HSP.out.trans S4.out⟩
          case measure => have := HLT.out; simp [intOf]; omega
        | false =>
          rw [atF_odd he] at C
          rw [he] at E
          have HE := Lib.hid E
          clear E D he
          refine C.mono ?_
          clear C
          rintro _ w2 ⟨rfl, s2⟩
          have S2 := Lib.hid (S1'.out.trans s2)
          have xc2 := (XB'.out.keep s2).cells
          have hck2 := (HX3.out.span S2.out (.inl (Nat.le_refl _))).at_ HCI.out
          unfold natV at hck2
          unfold atZ
          simp only
          clear s2 xc hck
          go_wp2_with fail
          refine (HE.out _).mono ?_
          rintro _ w3 ⟨rfl, s3⟩
          have S3 := Lib.hid (S2.out.trans s3)
          clear s3 xc2 hck2
          go_wp2_with fail
          go_roundw
          case rel => exact ⟨i + 1, sm + ci, last, HLT.out, by go_num, by rw [Int.natCast_add], rfl, HSO.out, HSP.out.trans S3.out⟩
          case measure => have := HLT.out; simp [intOf]; omega
      · as_aux_lemma =>
        have hik : i = nk := by omega
        have HSMN : Hid (sm = nl) := Lib.hid (by rw [HSM.out.sum, hik, HNK2.out, List.take_length, HP.out.sum, HNL.out])
        subst hik
        clear hlt
        go_wp2_with fail
        go_loopw [14, 15, 16, 17, 18, 19, 103] (fun _ _ _ _ _ _ c wr2 => ∃ (j : Nat), j ≤ nl ∧ c = .int .i64 j ∧ Span 0 0 w13 wr2) (fun _ _ _ _ _ _ c _ => nl - (intOf c).toNat)
        case atStart => exact ⟨0, Nat.zero_le _, rfl, HSP.out⟩
        case round =>
          clear HSM k1 k2 k3 HSP HLr
          obtain ⟨j, hj, rfl, hsp⟩ := hrel
          have HSP := Lib.hid hsp
          have HLr := Lib.hid (HLK.out.keep hsp)
          clear hsp
          by_cases hlt : j < nl
          · as_aux_lemma =>
            have HLT := Lib.hid hlt
            obtain ⟨F, hF⟩ := getElem?_some (xs := L) (j := j) (by rw [← HNL.out]; exact hlt)
            obtain ⟨⟨b1, l1, h1, x1⟩, -, -⟩ := HLr.out
            obtain ⟨-, -, off, rfl, hat⟩ := x1.at_ hF
            have S1 := Lib.hid ((Span.refl 0 0 wr).alloc (.cells (frA F) 37))
            have XB : Hid (Bx wr.heap.size (frA F) (wr.alloc (.cells (frA F) 37))) := Lib.hid (Bx.new _ _ _)
            clear hF x1
            obtain ⟨a0, a1, a2, a3, a4, a5, a6, a7⟩ := hat
            have TB := fun W => turnBack_any F W
            have TB2 := fun W => turnBack_any F.rev W
            have SE := fun W => sealFrame_any F W
            have IS := fun y z W => isSealed_any { F with h := (y, z) } W
            have EQ1 := fun W => equalFrames_any F F W
            have HSL : Hid (∀ y z, sealP { F with h := (y, z) } = sealP F) := Lib.hid (fun _ _ => rfl)
            obtain ⟨te, hte⟩ : ∃ te, te = eqF F F := ⟨_, rfl⟩
            rw [← hte] at EQ1
            unfold Sealed at SE
            unfold ToldSealed at IS
            simp only [HSL.out] at IS
            obtain ⟨⟨s1, s2⟩, hs⟩ : ∃ s, s = sealP F := ⟨_, rfl⟩
            rw [← hs] at SE IS
            clear hs hte HSL
            obtain ⟨⟨x0, x1⟩, ⟨x2, x3⟩, ⟨x4, x5⟩, ⟨x6, x7⟩, ⟨x8, x9⟩, ⟨x10, x11⟩, ⟨x12, x13⟩, ⟨x14, x15⟩⟩ := F
            unfold cxV at a0 a1 a2 a3 a4 a5 a6 a7
            simp only at a0 a1 a2 a3 a4 a5 a6 a7
            have HTB : Hid (∀ W, Calls Try.prog 14 #[.agg #[.complex .f32 x0 x1, .complex .f32 x2 x3, .complex .f32 x4 x5, .complex .f32 x6 x7, .complex .f32 x8 x9, .complex .f32 x10 x11, .complex .f32 x12 x13, .complex .f32 x14 x15]] W fun e w' => e = .returned (.agg #[.complex .f32 x14 x15, .complex .f32 x12 x13, .complex .f32 x10 x11, .complex .f32 x8 x9, .complex .f32 x6 x7, .complex .f32 x4 x5, .complex .f32 x2 x3, .complex .f32 x0 x1]) ∧ Span 0 0 W w') := TB
            have HTB2 : Hid (∀ W, Calls Try.prog 14 #[.agg #[.complex .f32 x14 x15, .complex .f32 x12 x13, .complex .f32 x10 x11, .complex .f32 x8 x9, .complex .f32 x6 x7, .complex .f32 x4 x5, .complex .f32 x2 x3, .complex .f32 x0 x1]] W fun e w' => e = .returned (.agg #[.complex .f32 x0 x1, .complex .f32 x2 x3, .complex .f32 x4 x5, .complex .f32 x6 x7, .complex .f32 x8 x9, .complex .f32 x10 x11, .complex .f32 x12 x13, .complex .f32 x14 x15]) ∧ Span 0 0 W w') := TB2
            have HSE : Hid (∀ W, Calls Try.prog 15 #[.agg #[.complex .f32 x0 x1, .complex .f32 x2 x3, .complex .f32 x4 x5, .complex .f32 x6 x7, .complex .f32 x8 x9, .complex .f32 x10 x11, .complex .f32 x12 x13, .complex .f32 x14 x15]] W fun e w' => ∃ y z, e = .returned (.agg #[.complex .f32 x0 x1, .complex .f32 x2 x3, .complex .f32 x4 x5, .complex .f32 x6 x7, .complex .f32 x8 x9, .complex .f32 x10 x11, .complex .f32 x12 x13, .complex .f32 y z]) ∧ FE .f32 y s1 ∧ FE .f32 z s2 ∧ Span 0 0 W w') := SE
            have HIS : Hid (∀ y z W, Calls Try.prog 16 #[.agg #[.complex .f32 x0 x1, .complex .f32 x2 x3, .complex .f32 x4 x5, .complex .f32 x6 x7, .complex .f32 x8 x9, .complex .f32 x10 x11, .complex .f32 x12 x13, .complex .f32 y z]] W fun e w' => ∃ r, e = .returned (.bool r) ∧ (nanB .f32 y = false → nanB .f32 z = false → FE .f32 y s1 → FE .f32 z s2 → r = true) ∧ Span 0 0 W w') := IS
            have HEQ : Hid (∀ W, Calls Try.prog 13 #[.agg #[.complex .f32 x0 x1, .complex .f32 x2 x3, .complex .f32 x4 x5, .complex .f32 x6 x7, .complex .f32 x8 x9, .complex .f32 x10 x11, .complex .f32 x12 x13, .complex .f32 x14 x15], .agg #[.complex .f32 x0 x1, .complex .f32 x2 x3, .complex .f32 x4 x5, .complex .f32 x6 x7, .complex .f32 x8 x9, .complex .f32 x10 x11, .complex .f32 x12 x13, .complex .f32 x14 x15]] W fun e w' => e = .returned (.bool te) ∧ Span 0 0 W w') := EQ1
            have S1' : Hid (Span 0 0 wr (wr.alloc (.cells #[.complex .f32 x0 x1, .complex .f32 x2 x3, .complex .f32 x4 x5, .complex .f32 x6 x7, .complex .f32 x8 x9, .complex .f32 x10 x11, .complex .f32 x12 x13, .complex .f32 x14 x15] 37))) := S1
            have XB' : Hid (Bx wr.heap.size #[.complex .f32 x0 x1, .complex .f32 x2 x3, .complex .f32 x4 x5, .complex .f32 x6 x7, .complex .f32 x8 x9, .complex .f32 x10 x11, .complex .f32 x12 x13, .complex .f32 x14 x15] (wr.alloc (.cells #[.complex .f32 x0 x1, .complex .f32 x2 x3, .complex .f32 x4 x5, .complex .f32 x6 x7, .complex .f32 x8 x9, .complex .f32 x10 x11, .complex .f32 x12 x13, .complex .f32 x14 x15] 37))) := XB
            clear TB TB2 SE IS EQ1 S1 XB
            go_upto_region 25 with fail
            obtain ⟨g1, hg1⟩ : ∃ g, g = wr.heap.size := ⟨_, rfl⟩
            rw [← hg1] at XB' ⊢
            generalize wr.alloc (.cells #[.complex .f32 x0 x1, .complex .f32 x2 x3, .complex .f32 x4 x5, .complex .f32 x6 x7, .complex .f32 x8 x9, .complex .f32 x10 x11, .complex .f32 x12 x13, .complex .f32 x14 x15] 37) = wx at *
            have xc := XB'.out.cells
            clear a0 a1 a2 a3 a4 a5 a6 a7 hg1
            go_wp2_with fail
            refine (HTB.out _).mono ?_
            rintro _ wa ⟨rfl, sa⟩
            have SA := Lib.hid sa
            clear sa
            go_wp2_with fail
            refine (HTB2.out _).mono ?_
            rintro _ wb ⟨rfl, sb⟩
            have SB := Lib.hid (SA.out.trans sb)
            have XB2 := Lib.hid ((XB'.out.keep SB.out).alloc (.cells #[.complex .f32 x0 x1, .complex .f32 x2 x3, .complex .f32 x4 x5, .complex .f32 x6 x7, .complex .f32 x8 x9, .complex .f32 x10 x11, .complex .f32 x12 x13, .complex .f32 x14 x15] 37))
            have XG2 := Lib.hid (Bx.new wb #[.complex .f32 x0 x1, .complex .f32 x2 x3, .complex .f32 x4 x5, .complex .f32 x6 x7, .complex .f32 x8 x9, .complex .f32 x10 x11, .complex .f32 x12 x13, .complex .f32 x14 x15] 37)
            have SB2 := Lib.hid ((S1'.out.trans SB.out).alloc (.cells #[.complex .f32 x0 x1, .complex .f32 x2 x3, .complex .f32 x4 x5, .complex .f32 x6 x7, .complex .f32 x8 x9, .complex .f32 x10 x11, .complex .f32 x12 x13, .complex .f32 x14 x15] 37))
            clear sb xc SA
            go_upto_region 26 with fail
            obtain ⟨g2, hg2⟩ : ∃ g, g = wb.heap.size := ⟨_, rfl⟩
            rw [← hg2] at XG2 ⊢
            clear SB
            generalize wb.alloc (.cells #[.complex .f32 x0 x1, .complex .f32 x2 x3, .complex .f32 x4 x5, .complex .f32 x6 x7, .complex .f32 x8 x9, .complex .f32 x10 x11, .complex .f32 x12 x13, .complex .f32 x14 x15] 37) = wc at *
            have xc := XB2.out.cells
            clear hg2
            go_wp2_with fail
            refine (HSE.out _).mono ?_
            rintro _ wd ⟨y, z, rfl, f1, f2, sd⟩
            have F1 := Lib.hid f1
            have F2 := Lib.hid f2
            have XB3 := Lib.hid ((XB2.out.keep sd).alloc (.cells #[.complex .f32 x0 x1, .complex .f32 x2 x3, .complex .f32 x4 x5, .complex .f32 x6 x7, .complex .f32 x8 x9, .complex .f32 x10 x11, .complex .f32 x12 x13, .complex .f32 y z] 37))
            have XG3 := Lib.hid ((XG2.out.keep sd).alloc (.cells #[.complex .f32 x0 x1, .complex .f32 x2 x3, .complex .f32 x4 x5, .complex .f32 x6 x7, .complex .f32 x8 x9, .complex .f32 x10 x11, .complex .f32 x12 x13, .complex .f32 y z] 37))
            have XS3 := Lib.hid (Bx.new wd #[.complex .f32 x0 x1, .complex .f32 x2 x3, .complex .f32 x4 x5, .complex .f32 x6 x7, .complex .f32 x8 x9, .complex .f32 x10 x11, .complex .f32 x12 x13, .complex .f32 y z] 37)
            have SD3 := Lib.hid ((SB2.out.trans sd).alloc (.cells #[.complex .f32 x0 x1, .complex .f32 x2 x3, .complex .f32 x4 x5, .complex .f32 x6 x7, .complex .f32 x8 x9, .complex .f32 x10 x11, .complex .f32 x12 x13, .complex .f32 y z] 37))
            clear f1 f2 sd xc XB2 XG2 SB2 XB' S1'
            go_upto_region 28 with fail
            obtain ⟨g3, hg3⟩ : ∃ g, g = wd.heap.size := ⟨_, rfl⟩
            rw [← hg3] at XS3 ⊢
            generalize wd.alloc (.cells #[.complex .f32 x0 x1, .complex .f32 x2 x3, .complex .f32 x4 x5, .complex .f32 x6 x7, .complex .f32 x8 x9, .complex .f32 x10 x11, .complex .f32 x12 x13, .complex .f32 y z] 37) = we at *
            clear hg3
            obtain ⟨US, hUS⟩ : ∃ US : Array Value, US = #[.complex .f32 x0 x1, .complex .f32 x2 x3, .complex .f32 x4 x5, .complex .f32 x6 x7, .complex .f32 x8 x9, .complex .f32 x10 x11, .complex .f32 x12 x13, .complex .f32 y z] := ⟨_, rfl⟩
            have HUS := Lib.hid hUS
            rw [← hUS] at XS3
            have hUC : ∀ (k : Nat), k < 8 → ∃ p q, US[k]? = some (.complex .f32 p q) ∧ (k = 7 → p = y ∧ q = z) := by
              intro k hk
              rw [hUS]
              match k, hk with
              | 0, _ => exact ⟨_, _, rfl, fun h => by cases h⟩
              | 1, _ => exact ⟨_, _, rfl, fun h => by cases h⟩
              | 2, _ => exact ⟨_, _, rfl, fun h => by cases h⟩
              | 3, _ => exact ⟨_, _, rfl, fun h => by cases h⟩
              | 4, _ => exact ⟨_, _, rfl, fun h => by cases h⟩
              | 5, _ => exact ⟨_, _, rfl, fun h => by cases h⟩
              | 6, _ => exact ⟨_, _, rfl, fun h => by cases h⟩
              | 7, _ => exact ⟨_, _, rfl, fun _ => ⟨rfl, rfl⟩⟩
              | k + 8, h => exact absurd h (by omega)
            have HUC := Lib.hid hUC
            clear hUC hUS
            go_wp2_with fail
            go_loopw [17, 18, 19] (fun t i _ wr3 => ∃ (k : Nat) (fin : Bool), k ≤ 8 ∧ i = .int .i64 k ∧ t = .bool fin ∧ (fin = true → 7 < k → nanB .f32 y = false ∧ nanB .f32 z = false) ∧ Span 0 0 we wr3) (fun _ i _ _ => 8 - (intOf i).toNat)
            case atStart => exact ⟨0, true, Nat.zero_le _, rfl, rfl, fun _ h => absurd h (by omega), Span.refl _ _ _⟩
            case round =>
              obtain ⟨k, fin, hk, rfl, rfl, hfin, hsp⟩ := hrel
              have HFIN := Lib.hid hfin
              have HS3 := Lib.hid hsp
              clear hfin hsp
              by_cases hlt8 : k < 8
              · obtain ⟨p, q, hpq, hyz⟩ := HUC.out k hlt8
                have HYZ := Lib.hid hyz
                have HLT8 := Lib.hid hlt8
                have hck : wr.cell? ⟨g3, k, none⟩ = some (.complex .f32 p q) := ((XS3.out.keep HS3.out).cells k).trans hpq
                clear hpq hyz
                cases fin with
                | false =>
                  go_wp2_with fail
                  go_region
                  all_goals
                    go_wp2_with fail
                    go_roundw
                    case rel => exact ⟨k + 1, false, by have := HLT8.out; omega, by go_num, rfl, (fun h => by cases h), HS3.out.drewN _⟩
                    case measure => have := HLT8.out; simp [intOf]; omega
                | true =>
                  go_wp2_with fail
                  go_region
                  all_goals
                    go_wp2_with fail
                    go_roundw
                    case rel => exact ⟨k + 1, _, by have := HLT8.out; omega, by go_num, rfl, (fun h h7 => by
                      rw [Bool.and_eq_true] at h
                      obtain ⟨e1, e2⟩ := HYZ.out (by omega)
                      rw [← e1, ← e2]
                      exact ⟨sub_nan h.1, sub_nan h.2⟩), HS3.out.drewN _⟩
                    case measure => have := HLT8.out; simp [intOf]; omega
              · have hk8 : k = 8 := by omega
                subst hk8
                clear hlt8
                have XB4 := Lib.hid (XB3.out.keep HS3.out)
                have XG4 := Lib.hid (XG3.out.keep HS3.out)
                have XS4 := Lib.hid (XS3.out.keep HS3.out)
                have xb := XB4.out.cells
                have xg := XG4.out.cells
                have xs := XS4.out.cells
                rw [HUS.out] at xs
                have SD4 := Lib.hid (SD3.out.trans HS3.out)
                cases te with
                | false =>
                  cases fin with
                  | false =>
                    go_wp2_with fail
                    refine (HEQ.out _).mono ?_
                    rintro _ wf ⟨rfl, sf⟩
                    have SF := Lib.hid (SD4.out.trans sf)
                    clear sf xb xg xs
                    go_wp2_with fail
                    go_roundw
                    case rel => exact ⟨j + 1, HLT.out, by go_num, HSP.out.trans SF.out⟩
                    case measure => have := HLT.out; simp [intOf]; omega
                  | true =>
                    obtain ⟨n1, n2⟩ := HFIN.out rfl (by omega)
                    have HI := Lib.hid (fun W => HIS.out y z W)
                    go_wp2_with fail
                    refine (HEQ.out _).mono ?_
                    rintro _ wf ⟨rfl, sf⟩
                    have SF := Lib.hid (SD4.out.trans sf)
                    have xs2 := (XS4.out.keep sf).cells
                    rw [HUS.out] at xs2
                    clear sf xb xg xs
                    go_wp2_with fail
                    refine (HI.out _).mono ?_
                    rintro _ wg ⟨r, rfl, hr, sg⟩
                    have er := hr n1 n2 F1.out F2.out
                    subst er
                    have SG := Lib.hid (SF.out.trans sg)
                    clear sg xs2 hr
                    go_wp2_with fail
                    go_roundw
                    case rel => exact ⟨j + 1, HLT.out, by go_num, HSP.out.trans SG.out⟩
                    case measure => have := HLT.out; simp [intOf]; omega
                | true =>
                  cases fin with
                  | false =>
                    go_wp2_with fail
                    refine (HEQ.out _).mono ?_
                    rintro _ wf ⟨rfl, sf⟩
                    have SF := Lib.hid (SD4.out.trans sf)
                    have xb2 := (XB4.out.keep sf).cells
                    have xg2 := (XG4.out.keep sf).cells
                    clear sf xb xg xs
                    go_wp2_with fail
                    refine (HEQ.out _).mono ?_
                    rintro _ wf2 ⟨rfl, sf2⟩
                    have SF2 := Lib.hid (SF.out.trans sf2)
                    clear sf2 xb2 xg2
                    go_wp2_with fail
                    go_roundw
                    case rel => exact ⟨j + 1, HLT.out, by go_num, HSP.out.trans SF2.out⟩
                    case measure => have := HLT.out; simp [intOf]; omega
                  | true =>
                    obtain ⟨n1, n2⟩ := HFIN.out rfl (by omega)
                    have HI := Lib.hid (fun W => HIS.out y z W)
                    go_wp2_with fail
                    refine (HEQ.out _).mono ?_
                    rintro _ wf ⟨rfl, sf⟩
                    have SF := Lib.hid (SD4.out.trans sf)
                    have xb2 := (XB4.out.keep sf).cells
                    have xg2 := (XG4.out.keep sf).cells
                    have XS5 := Lib.hid (XS4.out.keep sf)
                    clear sf xb xg xs
                    go_wp2_with fail
                    refine (HEQ.out _).mono ?_
                    rintro _ wf2 ⟨rfl, sf2⟩
                    have SF2 := Lib.hid (SF.out.trans sf2)
                    have xs2 := (XS5.out.keep sf2).cells
                    rw [HUS.out] at xs2
                    clear sf2 xb2 xg2
                    go_wp2_with fail
                    refine (HI.out _).mono ?_
                    rintro _ wg ⟨r, rfl, hr, sg⟩
                    have er := hr n1 n2 F1.out F2.out
                    subst er
                    have SG := Lib.hid (SF2.out.trans sg)
                    clear sg xs2 hr
                    go_wp2_with fail
                    go_roundw
                    case rel => exact ⟨j + 1, HLT.out, by go_num, HSP.out.trans SG.out⟩
                    case measure => have := HLT.out; simp [intOf]; omega
          · as_aux_lemma =>
            have hjn : j = nl := by omega
            subst hjn
            clear hlt
            have BF := Lib.hid (HSP.out.below B13.out (.inl (Nat.le_refl _)) B13.out.size)
            have h5 := HSMN.out
            subst h5
            go_wp2_with fail
            go_ret
            exact ⟨rfl, BF.out⟩
  · have i0 : decide ((1048576 : Int) < (n : Int)) = true := by rw [decide_eq_true_iff]; omega
    clear hn h
    go_enter Try.func3, Try.ntmps3
    go_wp2_with fail
    go_ret
    exact ⟨rfl, Below.refl _ _⟩
end Go.Proofs.Ytfafkdpefdpnkaa
