/- The law FnPool. -/
import Derived.Test.YtlhocjoncblocaaJq54
import Derived.Test.YtlhocjoncblocaaRqVK
import Derived.Test.YtlhocjoncblocaaJq49
import Derived.Test.YtlhocjoncblocaaJq41
import Derived.Test.YtlhocjoncblocaaJq50
import Derived.Test.YtlhocjoncblocaaJq56
import Derived.Test.YtlhocjoncblocaaRqZ5
import Derived.BigQuiet
import Derived.Deep.DeepCutAuto
namespace Go.Proofs.Ytlhocjoncblocaa
open Go.RowKit

theorem gaps_rest {p : Pl} (h : VP p) {o : List Nat} (ho : IsOrd p.2 o) : sumG (gapsX 0 (pickL p.2 o) p.1.length) + roomsOf p.2 = p.1.length := by
  have h1 := gaps_sum (h.asc ho)
  rw [h.rooms ho] at h1
  omega

/-- What is known of a pool that is compact. -/
structure CompF (p Q : Pl) : Prop where
  v : VP Q
  l1 : Q.1.length = p.1.length
  l2 : Q.2.length = p.2.length
  win : ∀ k, winP Q k = winP p k
  rooms : roomsOf p.2 ≤ p.1.length
  gaps : ∀ o', IsOrd Q.2 o' → sumG (gapsX 0 (pickL Q.2 o') Q.1.length) + roomsOf p.2 = p.1.length ∧ maxG (gapsX 0 (pickL Q.2 o') Q.1.length) + roomsOf p.2 = p.1.length

theorem CompF.of {p : Pl} (h : VP p) {o : List Nat} (ho : IsOrd p.2 o) : CompF p (compP p o) := by
  refine ⟨h.comp ho, (compP_sizes h ho).1, (compP_sizes h ho).2, compP_win h ho, (comp_fits h ho).2.2, fun o' ho' => ?_⟩
  obtain ⟨e1, e2⟩ := compP_gaps h ho ho'
  have := gaps_rest h ho
  omega

theorem CompS.form {p : Pl} {w : World} {e : Ending} {w' : World} (h : CompS p w e w') (hv : VP p) :
    ∃ (Q : Pl) (A : Option Addr) (c : Nat) (A' : Option Addr) (c' : Nat), e = .returned (.agg #[.slice A Q.1.length c, .slice A' Q.2.length c']) ∧ CompF p Q ∧ HasP w.heap.size w'.heap.size w' (.agg #[.slice A Q.1.length c, .slice A' Q.2.length c']) Q ∧ Span 0 0 w w' := by
  obtain ⟨o, v, ho, rfl, hp, s⟩ := h
  obtain ⟨A, c, A', c', rfl⟩ := hp.form
  exact ⟨_, A, c, A', c', rfl, CompF.of hv ho, hp, s⟩

theorem GivesQ.okP {o : Option Pl} {w : World} {e : Ending} {w' : World} (h : GivesQ o w e w') (hv : ∀ q, o = some q → VP q) :
    ∃ (q : Pl) (A : Option Addr) (c : Nat) (A' : Option Addr) (c' : Nat), e = .returned (.tuple #[.agg #[.slice A q.1.length c, .slice A' q.2.length c'], .bool o.isSome]) ∧ (∀ q', o = some q' → q' = q) ∧ VP q ∧ HasP w.heap.size w'.heap.size w' (.agg #[.slice A q.1.length c, .slice A' q.2.length c']) q ∧ Span 0 0 w w' := by
  obtain ⟨h1, h2⟩ := h
  cases o with
  | none => exact ⟨([], []), none, 0, none, 0, h1, (fun q hq => by cases hq), VP.none_, HasP.none_ _ _ _, h2⟩
  | some q =>
    obtain ⟨v, rfl, hp⟩ := h1
    obtain ⟨A, c, A', c', rfl⟩ := hp.form
    exact ⟨q, A, c, A', c', rfl, (fun q' hq => by injection hq with hq; exact hq.symm), hv q rfl, hp, h2⟩

theorem WinS.full {o : Option (List Cx)} {w : World} {e : Ending} {w' : World} (h : WinS o w e w') :
    ∃ (A : Option Addr) (c b : Nat), e = .returned (.tuple #[.slice A (o.getD []).length c, .bool o.isSome]) ∧ HasS cxV true b w.heap.size w'.heap.size w' (.slice A (o.getD []).length c) (o.getD []) ∧ Span 0 0 w w' := by
  obtain ⟨h1, h2⟩ := h
  cases o with
  | none => exact ⟨none, 0, 0, h1, HasS.empty _ _ _ _ _ _ _ _, h2⟩
  | some ys =>
    obtain ⟨v, b, rfl, hs⟩ := h1
    obtain ⟨A, c, rfl, _⟩ := id hs
    exact ⟨A, c, b, rfl, hs, h2⟩

theorem WinS.one {ys : List Cx} {w : World} {e : Ending} {w' : World} (h : WinS (some ys) w e w') :
    ∃ (A : Option Addr) (c b : Nat), e = .returned (.tuple #[.slice A ys.length c, .bool true]) ∧ HasS cxV true b w.heap.size w'.heap.size w' (.slice A ys.length c) ys ∧ Span 0 0 w w' := h.full

theorem win_len {p : Pl} (hv : VP p) (k : Nat) : ((winP p k).getD []).length ≤ 256 := by
  cases h : winP p k with
  | none => simp
  | some ys =>
    unfold winP at h
    rw [Option.map_eq_some_iff] at h
    obtain ⟨x, hx, rfl⟩ := h
    have := hv.size
    simp
    omega

theorem rooms_take (L : List Ls) (k : Nat) : roomsOf (L.take k) ≤ roomsOf L := by
  have := roomsOf_append (L.take k) (L.drop k)
  rw [List.take_append_drop] at this
  omega

/-- A list that is read. -/
def HasX (w : World) (v : Value) (xs : List Cx) : Prop := ∃ b lo hi, HasS cxV true b lo hi w v xs
theorem HasX.keep {w w' : World} {v : Value} {xs : List Cx} (h : HasX w v xs) (s : Span 0 0 w w') : HasX w' v xs := by
  obtain ⟨b, lo, hi, h⟩ := h
  exact ⟨b, lo, hi, h.span s (.inl (Nat.le_refl _))⟩

set_option maxRecDepth 100000 in
set_option maxHeartbeats 8000000 in
theorem law_pool (A : Option Addr) (n c : Nat) (w : World) (h : HasBy w.heap.size w A n) : Calls Try.prog 3 #[.slice A n c] w (Says w) := by
  by_cases hn : n ≤ 1048576
  · have HN := Lib.hid hn
    have HBy := Lib.hid h
    obtain ⟨ip, hip, hzp, hsp, hbp⟩ := info_parts info_c64
    clear h hn
    have hn' : (n : Int) ≤ 1048576 := by have := HN.out; omega
    go_enter Try.func3, Try.ntmps3
    go_wp2_with fail
    refine (makePool_any A n c w HN.out HBy.out).mono ?_
    rintro _ w1 ⟨p, v, rfl, hv, hp, s1⟩
    obtain ⟨A1, q1, A2, q2, rfl⟩ := hp.form
    have HP := Lib.hid (PBox.new hp hv s1)
    clear hv hp s1
    go_upto_region 4 with fail
    obtain ⟨T, hT⟩ : ∃ T, T = w1.heap.size := ⟨_, rfl⟩
    rw [← hT] at HP ⊢
    clear hT
    generalize w1.alloc (.cells #[.slice A1 p.1.length q1, .slice A2 p.2.length q2] 26) = w2 at *
    obtain ⟨t0, t1⟩ := HP.out.b.two
    go_wp2_with fail
    refine (impl_compactPool p _ _ _ w2 HP.out.whole HP.out.v).mono ?_
    intro e3 w3 h3
    obtain ⟨Q, B1, u1, B2, u2, rfl, hF, hq, s3⟩ := h3.form HP.out.v
    have HF := Lib.hid hF
    have HP3 := Lib.hid (HP.out.keep s3)
    have HQ3 := Lib.hid (PBox.new (hq.weak HP.out.s.size (.inl (Nat.le_refl _))) hF.v HP3.out.s)
    have HP4 := Lib.hid (HP3.out.keep ((Span.refl 0 0 w3).alloc (.cells #[.slice B1 Q.1.length u1, .slice B2 Q.2.length u2] 26)))
    clear h3 hF hq s3 t0 t1 HP
    go_upto_region 5 with fail
    obtain ⟨NQ, hNQ⟩ : ∃ t, t = w3.heap.size := ⟨_, rfl⟩
    rw [← hNQ] at HQ3 ⊢
    clear hNQ HP3
    generalize w3.alloc (.cells #[.slice B1 Q.1.length u1, .slice B2 Q.2.length u2] 26) = w4 at *
    obtain ⟨t0, t1⟩ := HP4.out.b.two
    have l16 : (p.2.length : Int) ≤ 16 := by have := HP4.out.v.most; omega
    go_wp2_with fail
    clear t0 t1
    go_loopw [5, 35] (fun cr ck wr => ∃ k : Nat, k ≤ p.2.length ∧ ck = .int .i64 (k : Int) ∧ cr = .int .i64 (roomsOf (p.2.take k) : Int) ∧ PBox T w p A1 q1 A2 q2 wr ∧ PBox NQ w Q B1 u1 B2 u2 wr) (fun _ ck _ => p.2.length - (intOf ck).toNat)
    case atStart => exact ⟨0, Nat.zero_le _, rfl, rfl, HP4.out, HQ3.out⟩
    case round =>
      clear HP4 HQ3
      obtain ⟨k, hk, rfl, rfl, hb, hq⟩ := hrel
      have HB := Lib.hid hb
      have HQ := Lib.hid hq
      by_cases hlt : k < p.2.length
      · obtain ⟨x, hx⟩ := getElem?_some (xs := p.2) (j := k) hlt
        obtain ⟨b, off, rfl, l0, l1, l2, l3⟩ := hb.at_ hx
        have hrk : roomsOf (p.2.take (k + 1)) = roomsOf (p.2.take k) + x.room := by rw [take_snoc_of hx, roomsOf_append]; simp [roomsOf]
        have hrm : roomsOf (p.2.take (k + 1)) ≤ 256 := Nat.le_trans (rooms_take _ _) (Nat.le_trans HF.out.rooms hb.v.size)
        obtain ⟨rv, hrv⟩ : ∃ t, t = roomsOf (p.2.take k) := ⟨_, rfl⟩
        rw [← hrv] at hrk ⊢
        have rv1 : (rv : Int) ≤ 256 := by omega
        have rv2 : (x.room : Int) ≤ 256 := by omega
        have HRK := Lib.hid hrk
        have HK := Lib.hid hlt
        have i0 : (0 : Int) ≤ (k : Int) := by omega
        have i1 : (k : Int) < (p.2.length : Int) := by omega
        obtain ⟨s, c', r, fr⟩ := x
        simp only at l0 l1 l2 l3 HRK rv2
        have HB5 := Lib.hid (HB.out.keep ((Span.refl 0 0 wr).alloc (.cells #[.int .i64 (s : Int), .int .i64 (c' : Int), .int .i64 (r : Int), .bool fr] 30)))
        have HQ5 := Lib.hid (HQ.out.keep ((Span.refl 0 0 wr).alloc (.cells #[.int .i64 (s : Int), .int .i64 (c' : Int), .int .i64 (r : Int), .bool fr] 30)))
        have cl := (Bx.new wr #[.int .i64 (s : Int), .int .i64 (c' : Int), .int .i64 (r : Int), .bool fr] 30).cells
        clear hb hq hx hrk hrm hrv hlt hk HB HQ
        go_wp2_with fail
        go_roundw
        case rel => exact ⟨k + 1, HK.out, by go_num, by rw [HRK.out]; go_num, HB5.out, HQ5.out⟩
        case measure => have := HK.out; simp [intOf]; omega
      · have hke : k = p.2.length := by omega
        subst hke
        rw [List.take_length]
        obtain ⟨z0, z1⟩ := hb.b.two
        obtain ⟨rv, hrv⟩ : ∃ t, t = roomsOf p.2 := ⟨_, rfl⟩
        rw [← hrv]
        have HRV := Lib.hid hrv
        clear hb hq hk hlt hrv
        go_wp2_with fail
        refine (freeRoom_valid p _ _ _ wr HB.out.whole HB.out.v).mono ?_
        rintro _ w5 ⟨o, ho, rfl, s5⟩
        obtain ⟨fr, hfr⟩ : ∃ t, t = sumG (gapsX 0 (pickL p.2 o) p.1.length) := ⟨_, rfl⟩
        obtain ⟨be, hbe⟩ : ∃ t, t = maxG (gapsX 0 (pickL p.2 o) p.1.length) := ⟨_, rfl⟩
        have HFR : Hid (fr + rv = p.1.length ∧ be ≤ fr) := by
          unfold Hid
          rw [hfr, hbe, HRV.out]
          exact ⟨gaps_rest HB.out.v ho, maxG_le_sumG _⟩
        rw [← hfr, ← hbe]
        have HB5 := Lib.hid (HB.out.keep s5)
        have HQ5 := Lib.hid (HQ.out.keep s5)
        clear ho hfr hbe s5 z0 z1 HB HQ
        obtain ⟨z0, z1⟩ := HQ5.out.b.two
        go_wp2_with fail
        refine (freeRoom_valid Q _ _ _ w5 HQ5.out.whole HQ5.out.v).mono ?_
        rintro _ w6 ⟨o', ho', rfl, s6⟩
        have hg := HF.out.gaps o' ho'
        rw [← HRV.out] at hg
        have e1 : sumG (gapsX 0 (pickL Q.2 o') Q.1.length) = fr := by have := HFR.out; omega
        have e2 : maxG (gapsX 0 (pickL Q.2 o') Q.1.length) = fr := by have := HFR.out; omega
        rw [e1, e2]
        have HB6 := Lib.hid (HB5.out.keep s6)
        have HQ6 := Lib.hid (HQ5.out.keep s6)
        clear ho' hg e1 e2 s6 z0 z1 HB5 HQ5
        go_upto_region 13 with fail
        go_cut [98] (fun s98 wx => s98 = .bool false ∧ PBox T w p A1 q1 A2 q2 wx ∧ PBox NQ w Q B1 u1 B2 u2 wx)
        case first => as_aux_lemma =>
          obtain ⟨z0, z1⟩ := HQ6.out.b.two
          go_wp2_with fail
          refine (spec_isPool_true Q _ _ _ w6 HQ6.out.whole HQ6.out.v).mono ?_
          rintro _ w7 ⟨rfl, s7⟩
          have HB7 := Lib.hid (HB6.out.keep s7)
          have HQ7 := Lib.hid (HQ6.out.keep s7)
          clear s7 z0 z1
          obtain ⟨z0, z1⟩ := HB7.out.b.two
          obtain ⟨y0, y1⟩ := HQ7.out.b.two
          rw [HF.out.l1] at y0
          rw [HF.out.l2] at y1
          have hsum : (fr : Int) + (rv : Int) = (p.1.length : Int) := by have := HFR.out; omega
          have hlt : ¬ (fr : Int) < (be : Int) := by have := HFR.out; omega
          have l256 : (p.1.length : Int) ≤ 256 := by have := HB7.out.v.size; omega
          go_wp2_with fail
          all_goals
            go_meet
            first | exact ⟨rfl, HB7.out, HQ7.out⟩ | exact ⟨congrArg Value.bool (decide_eq_false (by omega)), HB7.out, HQ7.out⟩
        case rest =>
          obtain ⟨rfl, hp, hq⟩ := hcut
          have HP7 := Lib.hid hp
          have HQ7 := Lib.hid hq
          clear hp hq HB6 HQ6 HFR HRV
          obtain ⟨t0, t1⟩ := HP7.out.b.two
          go_upto_region 15 with fail
          go_cut [12] (fun s12 wx => ∃ k : Nat, s12 = .int .i64 (k : Int) ∧ k ≤ 16 ∧ PBox T w p A1 q1 A2 q2 wx ∧ PBox NQ w Q B1 u1 B2 u2 wx)
          case first => as_aux_lemma =>
            obtain ⟨v1, v10, v11, hat1⟩ := at_fix A n c 1 w (by omega) (by omega) HN.out HBy.out
            have HAT1 := Lib.hid hat1
            have hz : ¬ (p.2.length : Int) + 1 = 0 := by omega
            clear hat1
            go_quiet (first | (go_at_call 13; refine Calls.quiet_of_same ((HAT1.out _ (HP7.out.s.drewN _)).mono (fun _ _ ⟨x, y⟩ => ⟨x, y.symm⟩))))
            all_goals
              go_wp2_with fail
              go_meet
              have m1 := Int.emod_nonneg v1 hz
              have m2 := Int.emod_lt_of_pos v1 (show (0 : Int) < (p.2.length : Int) + 1 by omega)
              exact ⟨(v1 % ((p.2.length : Int) + 1)).toNat, congrArg (Value.int .i64) (by omega), by omega, HP7.out.keep ((Span.refl 0 0 wc).drewN nq), HQ7.out.keep ((Span.refl 0 0 wc).drewN nq)⟩
          case rest =>
            obtain ⟨id', rfl, hid', hp, hq⟩ := hcut
            have HI := Lib.hid hid'
            have HP8 := Lib.hid hp
            have HQ8 := Lib.hid hq
            clear hid' hp hq HP7 HQ7 t0 t1
            go_wp2_with fail
            refine (fresh_any A n c 3 wc (by omega) (by omega) HN.out (hasBy_spanP HBy.out HP8.out.s)).mono ?_
            rintro _ w8 ⟨A4, n4, c4, rfl, hn4, hy4, hb4⟩
            have H4 := Lib.hid hn4
            have HY4 := Lib.hid hy4
            have HP9 := Lib.hid (HP8.out.keep (Span.of_below hb4))
            have HQ9 := Lib.hid (HQ8.out.keep (Span.of_below hb4))
            clear hn4 hy4 hb4 HP8 HQ8
            go_wp2_with fail
            refine (makeSamples_any 5 (by omega) (by omega) A4 n4 c4 w8 (by have := H4.out; omega) HY4.out).mono ?_
            rintro _ w9 ⟨v9, xs, rfl, hl9, -, ho9, hb9⟩
            obtain ⟨A9, q9, rfl⟩ := ownsRow_slice ho9
            obtain ⟨b9, hs9, -, -⟩ := ownsRow_hasS ho9
            have HL := Lib.hid hl9
            have HX9 := Lib.hid (show HasX w9 (.slice A9 xs.length q9) xs from ⟨_, _, _, hs9⟩)
            have HS9 := Lib.hid hs9.bare
            have HP10 := Lib.hid (HP9.out.keep (Span.of_below hb9))
            have HQ10 := Lib.hid (HQ9.out.keep (Span.of_below hb9))
            clear hl9 ho9 hb9 hs9 HP9 HQ9
            obtain ⟨t0, t1⟩ := HP10.out.b.two
            go_wp2_with fail
            refine (impl_appendTo p id' xs _ _ _ _ _ _ _ w9 HP10.out.whole HP10.out.v (by have := HI.out; omega) HS9.out (by have := HL.out; omega)).mono ?_
            intro e10 w10 h10
            obtain ⟨U, C1, m1, C2, m2, rfl, hU, hvU, hpU, s10⟩ := h10.okP (fun q hq => (HP10.out.v.app hq).1)
            obtain ⟨d, hd⟩ : ∃ d, d = (appP p id' xs).isSome := ⟨_, rfl⟩
            have HD := Lib.hid hd
            have HUE := Lib.hid hU
            rw [← hd]
            have HP11 := Lib.hid (HP10.out.keep s10)
            have HU11 := Lib.hid (PBox.new (hpU.weak HP10.out.s.size (.inl (Nat.le_refl _))) hvU HP11.out.s)
            have HP12 := Lib.hid (HP11.out.keep ((Span.refl 0 0 w10).alloc (.cells #[.slice C1 U.1.length m1, .slice C2 U.2.length m2] 26)))
            have HQ12 := Lib.hid ((HQ10.out.keep s10).keep ((Span.refl 0 0 w10).alloc (.cells #[.slice C1 U.1.length m1, .slice C2 U.2.length m2] 26)))
            have HX12 := Lib.hid ((HX9.out.keep s10).keep ((Span.refl 0 0 w10).alloc (.cells #[.slice C1 U.1.length m1, .slice C2 U.2.length m2] 26)))
            have HS12 := Lib.hid ((HS9.out.span s10 (.inl (Nat.le_refl _))).alloc (.cells #[.slice C1 U.1.length m1, .slice C2 U.2.length m2] 26))
            clear h10 hU hvU hpU s10 hd t0 t1 HP10 HQ10 HX9 HS9
            go_upto_region 18 with fail
            obtain ⟨NU, hNU⟩ : ∃ t, t = w10.heap.size := ⟨_, rfl⟩
            rw [← hNU] at HU11 ⊢
            clear hNU HP11
            generalize w10.alloc (.cells #[.slice C1 U.1.length m1, .slice C2 U.2.length m2] 26) = w11 at *
            obtain ⟨t0, t1⟩ := HP12.out.b.two
            go_wp2_with fail
            refine (spec_appendTo p id' xs _ _ _ _ _ _ _ w11 HP12.out.whole HP12.out.v (by have := HI.out; omega) HS12.out (by have := HL.out; omega)).mono ?_
            intro e12 w12 h12
            obtain ⟨U', D1, y1, D2, y2, rfl, -, -, -, s12⟩ := h12.okP (fun q hq => (HP12.out.v.app hq).1)
            rw [← HD.out]
            have sA := (Span.refl 0 0 w12).alloc (.cells #[.slice D1 U'.1.length y1, .slice D2 U'.2.length y2] 26)
            have HP13 := Lib.hid ((HP12.out.keep s12).keep sA)
            have HQ13 := Lib.hid ((HQ12.out.keep s12).keep sA)
            have HU13 := Lib.hid ((HU11.out.keep s12).keep sA)
            have HX13 := Lib.hid ((HX12.out.keep s12).keep sA)
            clear h12 s12 sA t0 t1 HP12 HQ12 HU11 HX12 HS12
            go_upto_region 19 with fail
            generalize w12.alloc (.cells #[.slice D1 U'.1.length y1, .slice D2 U'.2.length y2] 26) = w13 at *
            have hdd : (d != d) = false := by cases d <;> rfl
            obtain ⟨t0, t1⟩ := HP13.out.b.two
            go_wp2_with fail
            clear t0 t1 hdd
            go_loopw [129] (fun ck wr => ∃ k : Nat, k ≤ p.2.length ∧ ck = .int .i64 (k : Int) ∧ PBox T w p A1 q1 A2 q2 wr ∧ PBox NQ w Q B1 u1 B2 u2 wr ∧ PBox NU w U C1 m1 C2 m2 wr ∧ HasX wr (.slice A9 xs.length q9) xs) (fun ck _ => p.2.length - (intOf ck).toNat)
            case atStart => exact ⟨0, Nat.zero_le _, rfl, HP13.out, HQ13.out, HU13.out, HX13.out⟩
            case round =>
              clear HP13 HQ13 HU13 HX13
              obtain ⟨k, hk, rfl, hp, hq, hu, hx⟩ := hrel
              have HP := Lib.hid hp
              have HQ := Lib.hid hq
              have HU := Lib.hid hu
              have HX := Lib.hid hx
              by_cases hlt : k < p.2.length
              · have HK := Lib.hid hlt
                have i0 : (0 : Int) ≤ (k : Int) := by omega
                have i1 : (k : Int) < (p.2.length : Int) := by omega
                obtain ⟨z0, z1⟩ := hp.b.two
                clear hp hq hu hx hk hlt
                go_wp2_with fail
                refine (impl_windowOf p k _ _ _ _ HP.out.whole HP.out.v (by have := HK.out; have := HP.out.v.most; omega)).mono ?_
                intro e1 w1' h1
                obtain ⟨W1, g1, bb1, rfl, hW1, s1⟩ := h1.full
                obtain ⟨ys, hys⟩ : ∃ t, t = (winP p k).getD [] := ⟨_, rfl⟩
                obtain ⟨l, hl⟩ : ∃ t, t = (winP p k).isSome := ⟨_, rfl⟩
                have HYL : Hid (ys.length ≤ 256) := by unfold Hid; rw [hys]; exact win_len HP.out.v k
                have HYS := Lib.hid hys
                have HLL := Lib.hid hl
                rw [← hys] at hW1 ⊢
                rw [← hl]
                have HW1 := Lib.hid hW1
                have HP1 := Lib.hid (HP.out.keep s1)
                have HQ1 := Lib.hid (HQ.out.keep s1)
                have HU1 := Lib.hid (HU.out.keep s1)
                have HX1 := Lib.hid (HX.out.keep s1)
                clear h1 hW1 hys hl s1 z0 z1 HP HQ HU HX
                obtain ⟨z0, z1⟩ := HQ1.out.b.two
                go_wp2_with fail
                have C := impl_windowOf Q k _ _ _ w1' HQ1.out.whole HQ1.out.v (by have := HK.out; have := HP1.out.v.most; omega)
                rw [HF.out.win] at C
                refine C.mono ?_
                clear C
                intro e2 w2' h2
                obtain ⟨W2, g2, bb2, rfl, hW2, s2⟩ := h2.full
                rw [← HYS.out] at hW2 ⊢
                rw [← HLL.out]
                have HW2 := Lib.hid hW2
                have HW1b := Lib.hid (HW1.out.span s2 (.inl (Nat.le_refl _)))
                have HP2 := Lib.hid (HP1.out.keep s2)
                have HQ2 := Lib.hid (HQ1.out.keep s2)
                have HU2 := Lib.hid (HU1.out.keep s2)
                have HX2 := Lib.hid (HX1.out.keep s2)
                clear h2 hW2 s2 z0 z1 HP1 HQ1 HU1 HX1 HW1
                have hll : (l != l) = false := by cases l <;> rfl
                go_wp2_with fail
                refine (makeSame_self ys _ _ _ _ _ _ _ _ _ _ _ HW1b.out HW2.out (by have := HYL.out; omega)).mono ?_
                rintro _ _ ⟨m, rfl, rfl⟩
                have HW := Lib.hid (HW1b.out.drewN m)
                have HP3 := Lib.hid (HP2.out.keep ((Span.refl 0 0 w2').drewN m))
                have HQ3 := Lib.hid (HQ2.out.keep ((Span.refl 0 0 w2').drewN m))
                have HU3 := Lib.hid (HU2.out.keep ((Span.refl 0 0 w2').drewN m))
                have HX3 := Lib.hid (HX2.out.keep ((Span.refl 0 0 w2').drewN m))
                clear HW1b HW2 HP2 HQ2 HU2 HX2 hll
                generalize w2'.drewN m = w3' at *
                go_upto_region 28 with fail
                cases d with
                | false => as_aux_lemma =>
                  go_wp2_with fail
                  go_roundw
                  case rel => exact ⟨k + 1, HK.out, by go_num, HP3.out, HQ3.out, HU3.out, HX3.out⟩
                  case measure => have := HK.out; simp [intOf]; omega
                | true =>
                  cases l with
                  | false => as_aux_lemma =>
                    go_wp2_with fail
                    go_roundw
                    case rel => exact ⟨k + 1, HK.out, by go_num, HP3.out, HQ3.out, HU3.out, HX3.out⟩
                    case measure => have := HK.out; simp [intOf]; omega
                  | true =>
                    obtain ⟨U2, hU2⟩ : ∃ q, appP p id' xs = some q := Option.isSome_iff_exists.1 HD.out.symm
                    have hU3 : appP p id' xs = some U := by rw [hU2, HUE.out _ hU2]
                    have hwin : winP p k = some ys := by
                      obtain ⟨t, ht⟩ := Option.isSome_iff_exists.1 HLL.out.symm
                      rw [ht, HYS.out, ht]; rfl
                    have hwu := HP3.out.v.app_win hU3 k
                    obtain ⟨x0, x1⟩ := HU3.out.b.two
                    by_cases hki : k = id'
                    · as_aux_lemma =>
                      subst hki
                      rw [if_pos rfl, hwin] at hwu
                      have HWU := Lib.hid (show winP U k = some (ys ++ xs) from hwu)
                      clear hwu hwin hU3 hU2
                      go_wp2_with fail
                      have C := impl_windowOf U k _ _ _ w3' HU3.out.whole HU3.out.v (by have := HK.out; have := HP3.out.v.most; omega)
                      rw [HWU.out] at C
                      refine C.mono ?_
                      clear C
                      intro e4 w4' h4
                      obtain ⟨W4, g4, bb4, rfl, hW4, s4⟩ := h4.one
                      have HW4 := Lib.hid hW4
                      have HWb := Lib.hid (HW.out.span s4 (.inl (Nat.le_refl _)))
                      have HP4 := Lib.hid (HP3.out.keep s4)
                      have HQ4 := Lib.hid (HQ3.out.keep s4)
                      have HU4 := Lib.hid (HU3.out.keep s4)
                      obtain ⟨b5, lo5, hi5, hx5⟩ := HX3.out.keep s4
                      have HX4 := Lib.hid hx5
                      clear h4 hW4 s4 x0 x1 hx5 HP3 HQ3 HU3 HX3 HW
                      have HOA := Lib.hid (World.ownsRow_made (base := w4'.heap.size) (e := 48) (size := 1) w4' #[] 0 (Nat.le_refl _) (Nat.zero_le _) rfl)
                      go_wp2_with (first
                        | (at_builtin; go_loud (refine wpList_append_anyG (val := cxV) (fun _ => rfl) ?hw (.tmp 168) (.tmp 169) 23 rfl w4'.heap.size 48 ip (.complex .f32 0 0) 8 Try.underlying23 hip hzp hsp hbp rfl _ _ _ rfl HOA.out (HWb.out.alloc (.cells #[] 48)) rfl ?c3 ?c4 ?c5 ?_; (case hw => first | rfl | (simp [Region.wanted, yielded]; done) | go_simp); (case c3 => have := HYL.out; unfold maxLen; omega); (case c4 => have := HYL.out; omega); (case c5 => simp); intro v13 w13' ho13 hg13 _; rw [Nat.zero_add, List.nil_append] at ho13; obtain ⟨A13, q13, rfl⟩ := ownsRow_slice ho13; have HO13 := Lib.hid ho13; have S13 := Lib.hid (((Span.refl 0 0 w4').alloc (.cells #[] 48)).grown hg13 (fun j hj => .inr (HOA.out.lt j hj).1)); have HG3 := Lib.hid (HX4.out.span S13.out (.inl (Nat.le_refl _))); clear ho13 hg13))
                        | (at_builtin; go_loud (refine wpList_append_anyG (val := cxV) (fun _ => rfl) ?hw (.tmp 170) (.tmp 171) 23 rfl w4'.heap.size 48 ip (.complex .f32 0 0) 8 Try.underlying23 hip hzp hsp hbp rfl _ _ _ rfl HO13.out HG3.out rfl ?c3 ?c4 ?c5 ?_; (case hw => first | rfl | (simp [Region.wanted, yielded]; done) | go_simp); (case c3 => have := HYL.out; have := HL.out; unfold maxLen; omega); (case c4 => have := HYL.out; have := HL.out; omega); (case c5 => exact S13.out.size); intro v14 w14' ho14 hg14 _; obtain ⟨A14, q14, rfl⟩ := ownsRow_slice ho14; have HO14 := Lib.hid ho14; have S14 := Lib.hid (S13.out.grown hg14 (fun j hj => .inr (HO13.out.lt j hj).1)); clear ho14 hg14)))
                      have ho := HO14.out
                      rw [← List.map_append, ← List.length_append] at ho
                      obtain ⟨b14, hb14, -, -⟩ := ownsRow_hasS ho
                      rw [List.length_append] at hb14
                      have h1 := HW4.out.span S14.out (.inl (Nat.le_refl _))
                      rw [List.length_append] at h1
                      have HZ1 := Lib.hid hb14
                      have HZ2 := Lib.hid h1
                      have HP5 := Lib.hid (HP4.out.keep S14.out)
                      have HQ5 := Lib.hid (HQ4.out.keep S14.out)
                      have HU5 := Lib.hid (HU4.out.keep S14.out)
                      have HX5 := Lib.hid (show HasX w14' (.slice A9 xs.length q9) xs from ⟨_, _, _, HX4.out.span S14.out (.inl (Nat.le_refl _))⟩)
                      clear ho hb14 h1 HO14 HO13 HG3 HOA S13 HP4 HQ4 HU4 HX4 HW4 HWb
                      refine (makeSame_self (ys ++ xs) _ _ _ _ _ _ _ _ _ _ _ HZ1.out HZ2.out (by rw [List.length_append]; have := HYL.out; have := HL.out; omega)).mono ?_
                      rintro _ _ ⟨m', rfl, rfl⟩
                      go_wp2_with fail
                      go_roundw
                      case rel => exact ⟨k + 1, HK.out, by go_num, HP5.out.keep ((Span.refl 0 0 w14').drewN m'), HQ5.out.keep ((Span.refl 0 0 w14').drewN m'), HU5.out.keep ((Span.refl 0 0 w14').drewN m'), HX5.out.keep ((Span.refl 0 0 w14').drewN m')⟩
                      case measure => have := HK.out; simp [intOf]; omega
                    · as_aux_lemma =>
                      rw [if_neg hki, hwin] at hwu
                      have HWU := Lib.hid hwu
                      have iki : ¬ (k : Int) = (id' : Int) := by omega
                      clear hwu hwin hU3 hU2 hki
                      go_wp2_with fail
                      have C := impl_windowOf U k _ _ _ w3' HU3.out.whole HU3.out.v (by have := HK.out; have := HP3.out.v.most; omega)
                      rw [HWU.out] at C
                      refine C.mono ?_
                      clear C
                      intro e4 w4' h4
                      obtain ⟨W4, g4, bb4, rfl, hW4, s4⟩ := h4.one
                      have HW4 := Lib.hid hW4
                      have HWb := Lib.hid (HW.out.span s4 (.inl (Nat.le_refl _)))
                      have HP4 := Lib.hid (HP3.out.keep s4)
                      have HQ4 := Lib.hid (HQ3.out.keep s4)
                      have HU4 := Lib.hid (HU3.out.keep s4)
                      have HX4 := Lib.hid (HX3.out.keep s4)
                      clear h4 hW4 s4 x0 x1 HP3 HQ3 HU3 HX3 HW
                      go_wp2_with fail
                      refine (makeSame_self ys _ _ _ _ _ _ _ _ _ _ _ HWb.out HW4.out (by have := HYL.out; omega)).mono ?_
                      rintro _ _ ⟨m', rfl, rfl⟩
                      go_wp2_with fail
                      go_roundw
                      case rel => exact ⟨k + 1, HK.out, by go_num, HP4.out.keep ((Span.refl 0 0 w4').drewN m'), HQ4.out.keep ((Span.refl 0 0 w4').drewN m'), HU4.out.keep ((Span.refl 0 0 w4').drewN m'), HX4.out.keep ((Span.refl 0 0 w4').drewN m')⟩
                      case measure => have := HK.out; simp [intOf]; omega
              · have hke : k = p.2.length := by omega
                subst hke
                clear hp hq hu hx hk hlt
                go_wp2_with fail
                go_ret
                exact ⟨rfl, HP.out.s.to_below (.inl (Nat.le_refl _))⟩
  · have hn' : (1048576 : Int) < (n : Int) := by omega
    go_enter Try.func3, Try.ntmps3
    go_wp2
    go_ret
    exact ⟨rfl, Below.refl _ _⟩
end Go.Proofs.Ytlhocjoncblocaa
