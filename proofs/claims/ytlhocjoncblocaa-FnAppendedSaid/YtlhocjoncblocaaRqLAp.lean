/- The law FnAppended. -/
import Derived.Test.YtlhocjoncblocaaRqVW
import Derived.Test.YtlhocjoncblocaaRqVT6
import Derived.Test.YtlhocjoncblocaaJq53
import Derived.Deep.RegionHeld3
import Derived.BigQuiet
import Derived.Deep.DeepCutAuto
namespace Go.Proofs.Ytlhocjoncblocaa
open Go.RowKit

theorem appP_nil {p u : Pl} {id : Nat} (h : appP p id [] = some u) : u = p := by
  obtain ⟨x, hx, _, rfl⟩ := appP_some6 h
  obtain ⟨h1, h2⟩ := lentAt_some hx
  obtain ⟨hlt, he⟩ := List.getElem?_eq_some_iff.1 h1
  have e : (⟨x.start, x.count + ([] : List Cx).length, x.room, false⟩ : Ls) = x := by
    obtain ⟨s, c, r, fr⟩ := x
    simp only at h2
    subst h2
    rfl
  have e2 : p.2.set id x = p.2 := by rw [← he]; exact List.set_getElem_self hlt
  rw [overlay_nil6, e, e2]

structure UBox (NU : Nat) (U : Pl) (C1 : Option Addr) (m1 : Nat) (C2 : Option Addr) (m2 : Nat) (w : World) : Prop where
  b : Bx NU #[.slice C1 U.1.length m1, .slice C2 U.2.length m2] w
  h : HasP 0 NU w (.agg #[.slice C1 U.1.length m1, .slice C2 U.2.length m2]) U

theorem UBox.new {w w1 : World} {U : Pl} {C1 : Option Addr} {m1 : Nat} {C2 : Option Addr} {m2 : Nat} (hp : HasP w.heap.size w1.heap.size w1 (.agg #[.slice C1 U.1.length m1, .slice C2 U.2.length m2]) U) :
    UBox w1.heap.size U C1 m1 C2 m2 (w1.alloc (.cells #[.slice C1 U.1.length m1, .slice C2 U.2.length m2] 26)) :=
  ⟨Bx.new _ _ _, (hp.span ((Span.refl 0 0 w1).alloc _) (.inl (Nat.le_refl _))).weak (Nat.zero_le _) (.inl (Nat.le_refl _))⟩
theorem UBox.keep {NU : Nat} {U : Pl} {C1 : Option Addr} {m1 : Nat} {C2 : Option Addr} {m2 : Nat} {w w' : World} (h : UBox NU U C1 m1 C2 m2 w) (s : Span 0 0 w w') : UBox NU U C1 m1 C2 m2 w' :=
  ⟨h.b.keep s, h.h.span s (.inl (Nat.le_refl _))⟩
theorem UBox.span {NU l r : Nat} {U : Pl} {C1 : Option Addr} {m1 : Nat} {C2 : Option Addr} {m2 : Nat} {w w' : World} (h : UBox NU U C1 m1 C2 m2 w) (s : Span l r w w') (hl : NU < l) : UBox NU U C1 m1 C2 m2 w' :=
  ⟨h.b.span s (.inr (.inl hl)), h.h.span s (.inr (.inl (Nat.le_of_lt hl)))⟩

theorem PBox.dup {T : Nat} {w : World} {p : Pl} {A : Option Addr} {q : Nat} {A' : Option Addr} {q' : Nat} {wr : World} (h : PBox T w p A q A' q' wr) :
    PBox wr.heap.size w p A q A' q' (wr.alloc (.cells #[.slice A p.1.length q, .slice A' p.2.length q'] 26)) :=
  ⟨Bx.new _ _ _, .inl (h.whole.span ((Span.refl 0 0 wr).alloc _) (.inl (Nat.le_refl _))), h.s.alloc _, h.s.size, h.v⟩

theorem HasS.unit (w : World) (z : Cx) (t : TypeId) : HasS cxV true w.heap.size w.heap.size (w.heap.size + 1) (w.alloc (.cells #[cxV z] t)) (.slice (some ⟨w.heap.size, 0, none⟩) 1 1) [z] := by
  refine ⟨_, _, rfl, Nat.le_refl _, fun _ => ⟨0, rfl, Nat.le_refl _, Nat.lt_succ_self _, by simp, fun j x hj => ?_, fun _ j _ => World.frozen?_alloc_new ..⟩⟩
  rw [World.cell?_alloc_new]
  cases j with
  | zero => simp at hj; subst hj; rfl
  | succ j => simp at hj

set_option maxRecDepth 100000 in
set_option maxHeartbeats 8000000 in
theorem law_appended (A : Option Addr) (n c : Nat) (w : World) (h : HasBy w.heap.size w A n) : Calls Try.prog 6 #[.slice A n c] w (Says w) := by
  by_cases hn : n ≤ 1048576
  · have HN := Lib.hid hn
    have HBy := Lib.hid h
    obtain ⟨f, hf⟩ : ∃ f : Cx → List UInt8, ∀ z, (f z).length ≤ 90 ∧ ∀ w, Calls Try.prog 60 #[cxV z] w (GivesTxt (f z) w) := ⟨fun z => (l8Point_det z).choose, fun z => (l8Point_det z).choose_spec⟩
    have HF := Lib.hid hf
    clear h hn hf
    have hn' : (n : Int) ≤ 1048576 := by have := HN.out; omega
    go_enter Try.func6, Try.ntmps6
    go_wp2_with fail
    refine (makePool_any A n c w HN.out HBy.out).mono ?_
    rintro _ w1 ⟨p, v, rfl, hv, hp, s1⟩
    obtain ⟨A1, q1, A2, q2, rfl⟩ := hp.form
    have HP := Lib.hid (PBox.new hp hv s1)
    clear hv hp s1
    go_upto_region 4 with fail
    obtain ⟨T, hT⟩ : ∃ T, T = w1.heap.size := ⟨_, rfl⟩
    rw [← hT] at HP ⊢
    clear hT
    generalize w1.alloc (.cells #[.slice A1 p.1.length q1, .slice A2 p.2.length q2] 26) = w2 at *
    obtain ⟨t0, t1⟩ := HP.out.b.two
    by_cases hz : (p.2.length : Int) = 0
    · as_aux_lemma =>
      go_wp2_with fail
      go_ret
      exact ⟨rfl, HP.out.s.to_below (.inl (Nat.le_refl _))⟩
    · have l16 : (p.2.length : Int) ≤ 16 := by have := HP.out.v.most; omega
      go_upto_region 6 with fail
      go_cut [4] (fun s4 wx => ∃ k : Nat, s4 = .int .i64 (k : Int) ∧ k ≤ 16 ∧ PBox T w p A1 q1 A2 q2 wx)
      case first => as_aux_lemma =>
        obtain ⟨v1, v10, v11, hat1⟩ := at_fix A n c 1 w (by omega) (by omega) HN.out HBy.out
        have HAT1 := Lib.hid hat1
        clear hat1
        go_quiet (first | (go_at_call 13; refine Calls.quiet_of_same ((HAT1.out _ (HP.out.s.drewN _)).mono (fun _ _ ⟨x, y⟩ => ⟨x, y.symm⟩))))
        all_goals
          go_wp2_with fail
          go_meet
          have m1 := Int.emod_nonneg v1 hz
          have m2 := Int.emod_lt_of_pos v1 (show (0 : Int) < (p.2.length : Int) by omega)
          exact ⟨(v1 % (p.2.length : Int)).toNat, congrArg (Value.int .i64) (by omega), by omega, HP.out.keep ((Span.refl 0 0 w2).drewN nq)⟩
      case rest =>
        obtain ⟨k1, rfl, hk1, hp⟩ := hcut
        have HK1 := Lib.hid hk1
        have HP1 := Lib.hid hp
        clear hk1 hp HP t0 t1
        obtain ⟨t0, t1⟩ := HP1.out.b.two
        go_upto_region 7 with fail
        go_cut [5] (fun s5 wx => ∃ k : Nat, s5 = .int .i64 (k : Int) ∧ k ≤ 16 ∧ PBox T w p A1 q1 A2 q2 wx)
        case first => as_aux_lemma =>
          obtain ⟨v1, v10, v11, hat1⟩ := at_fix A n c 2 w (by omega) (by omega) HN.out HBy.out
          have HAT1 := Lib.hid hat1
          clear hat1
          go_quiet (first | (go_at_call 13; refine Calls.quiet_of_same ((HAT1.out _ (HP1.out.s.drewN _)).mono (fun _ _ ⟨x, y⟩ => ⟨x, y.symm⟩))))
          all_goals
            go_wp2_with fail
            go_meet
            have m1 := Int.emod_nonneg v1 hz
            have m2 := Int.emod_lt_of_pos v1 (show (0 : Int) < (p.2.length : Int) by omega)
            exact ⟨(v1 % (p.2.length : Int)).toNat, congrArg (Value.int .i64) (by omega), by omega, HP1.out.keep ((Span.refl 0 0 wc).drewN nq)⟩
        case rest =>
          obtain ⟨k2, rfl, hk2, hp⟩ := hcut
          have HK2 := Lib.hid hk2
          have HP2 := Lib.hid hp
          clear hk2 hp HP1 t0 t1
          go_wp2_with fail
          refine (at_any wc.heap.size A n c 3 wc (by omega) (by omega) HN.out (hasBy_spanP HBy.out HP2.out.s)).mono ?_
          rintro _ _ ⟨⟨x, rfl, x0, x1⟩, rfl⟩
          go_upto_if 41 with fail
          go_cut [5] (fun s5 wx => ∃ k : Nat, s5 = .int .i64 (k : Int) ∧ k ≤ 16 ∧ PBox T w p A1 q1 A2 q2 wx)
          case first => as_aux_lemma =>
            by_cases hx3 : x % 3 = 0
            · go_wp2_with fail
              go_meet
              exact ⟨k1, rfl, HK1.out, HP2.out⟩
            · go_wp2_with fail
              go_meet
              exact ⟨k2, rfl, HK2.out, HP2.out⟩
          case rest =>
            obtain ⟨k3, rfl, hk3, hp⟩ := hcut
            have HK3 := Lib.hid hk3
            have HP3 := Lib.hid hp
            clear hk3 hp HP2 HK2 x0 x1
            obtain ⟨t0, t1⟩ := HP3.out.b.two
            go_wp2_with fail
            refine (impl_appendWindow p k1 k3 _ _ _ _ HP3.out.whole HP3.out.v (by have := HK1.out; omega) (by have := HK3.out; omega)).mono ?_
            intro e10 w10 h10
            obtain ⟨U, C1, m1, C2, m2, rfl, hU, hvU, hpU, s10⟩ := h10.okA (fun q hq => HP3.out.v.appW_ok hq)
            obtain ⟨d, hd⟩ : ∃ d, d = (appW p k1 k3).isSome := ⟨_, rfl⟩
            have HD := Lib.hid hd
            have HUE := Lib.hid hU
            have HVU := Lib.hid hvU
            rw [← hd]
            have HP4 := Lib.hid ((HP3.out.keep s10).keep ((Span.refl 0 0 w10).alloc (.cells #[.slice C1 U.1.length m1, .slice C2 U.2.length m2] 26)))
            have HU4 := Lib.hid (UBox.new hpU)
            clear h10 hU hvU hpU s10 hd t0 t1 HP3
            go_upto_region 11 with fail
            obtain ⟨NU, hNU⟩ : ∃ t, t = w10.heap.size := ⟨_, rfl⟩
            rw [← hNU] at HU4 ⊢
            clear hNU
            generalize w10.alloc (.cells #[.slice C1 U.1.length m1, .slice C2 U.2.length m2] 26) = w11 at *
            obtain ⟨t0, t1⟩ := HP4.out.b.two
            go_wp2_with fail
            refine (spec_appendWindow p k1 k3 _ _ _ w11 HP4.out.whole HP4.out.v (by have := HK1.out; omega) (by have := HK3.out; omega)).mono ?_
            intro e12 w12 h12
            obtain ⟨U', D1, y1, D2, y2, rfl, -, -, -, s12⟩ := h12.okA (fun q hq => HP4.out.v.appW_ok hq)
            rw [← HD.out]
            have sA := (Span.refl 0 0 w12).alloc (.cells #[.slice D1 U'.1.length y1, .slice D2 U'.2.length y2] 26)
            have HP5 := Lib.hid ((HP4.out.keep s12).keep sA)
            have HU5 := Lib.hid ((HU4.out.keep s12).keep sA)
            clear h12 s12 sA t0 t1 HP4 HU4
            go_upto_region 12 with fail
            generalize w12.alloc (.cells #[.slice D1 U'.1.length y1, .slice D2 U'.2.length y2] 26) = w13 at *
            cases d with
            | false => as_aux_lemma =>
              go_wp2_with fail
              go_ret
              exact ⟨rfl, HP5.out.s.to_below (.inl (Nat.le_refl _))⟩
            | true => as_aux_lemma =>
              obtain ⟨U2, hU2⟩ : ∃ q, appW p k1 k3 = some q := Option.isSome_iff_exists.1 HD.out.symm
              have hU3 : appW p k1 k3 = some U := by rw [hU2, HUE.out _ hU2]
              obtain ⟨xs, hxs, happ⟩ : ∃ xs, winP p k3 = some xs ∧ appP p k1 xs = some U := by
                unfold appW at hU3
                exact Option.bind_eq_some_iff.1 hU3
              have HXL : Hid (xs.length ≤ 256) := winP_lenA HP5.out.v hxs
              have HXS := Lib.hid hxs
              have HAP := Lib.hid happ
              clear hU2 hU3 hxs happ HD HUE
              obtain ⟨t0, t1⟩ := HP5.out.b.two
              go_wp2_with fail
              have C := spec_windowOf p k3 _ _ _ w13 HP5.out.whole HP5.out.v (by have := HK3.out; omega)
              rw [HXS.out] at C
              refine C.mono ?_
              clear C
              intro e14 w14 h14
              obtain ⟨A9, q9, b9, rfl, hs9, s14⟩ := h14.oneA
              have HP6 := Lib.hid (HP5.out.keep s14)
              have HU6 := Lib.hid (HU5.out.keep s14)
              have HD6 := Lib.hid HP6.out.dup
              have HU7 := Lib.hid (HU6.out.keep ((Span.refl 0 0 w14).alloc (.cells #[.slice A1 p.1.length q1, .slice A2 p.2.length q2] 26)))
              have HS7 := Lib.hid (hs9.alloc (.cells #[.slice A1 p.1.length q1, .slice A2 p.2.length q2] 26))
              have HNU : Hid (NU < w14.heap.size) := HU6.out.b.1
              clear h14 hs9 s14 t0 t1 HP5 HU5 HU6 HXS
              obtain ⟨t0, t1⟩ := HP6.out.b.two
              go_upto_region 16 with fail
              clear t0 t1 HP6
              obtain ⟨NB, hNB⟩ : ∃ t, t = w14.heap.size := ⟨_, rfl⟩
              rw [← hNB] at HD6 HS7 HNU ⊢
              clear hNB
              generalize w14.alloc (.cells #[.slice A1 p.1.length q1, .slice A2 p.2.length q2] 26) = w15 at *
              have im : (xs.length : Int) ≤ 256 := by have := HXL.out; omega
              go_wp2_with fail
              go_loopw [76] (fun ck wr => ∃ (j : Nat) (m : Pl) (B : Option Addr) (u : Nat) (B' : Option Addr) (u' : Nat), j ≤ xs.length ∧ ck = .int .i64 (j : Int) ∧ appP m k1 (xs.drop j) = some U ∧ PBox NB w m B u B' u' wr ∧ Span NB (NB + 1) w15 wr) (fun ck _ => xs.length - (intOf ck).toNat)
              case atStart => exact ⟨0, p, A1, q1, A2, q2, Nat.zero_le _, rfl, HAP.out, HD6.out, Span.refl _ _ _⟩
              case round =>
                clear HD6 HAP
                obtain ⟨j, m, B, u, B', u', hj, rfl, hap, hb, hs⟩ := hrel
                have HB := Lib.hid hb
                have HS := Lib.hid hs
                by_cases hlt : j < xs.length
                · obtain ⟨z, hz'⟩ := getElem?_some (xs := xs) (j := j) hlt
                  obtain ⟨off, rfl, -⟩ := HS7.out.addrS (by omega)
                  have hck := (HS7.out.span hs (.inr (.inl (Nat.le_refl _)))).atS hz'
                  rw [drop_cons hz'] at hap
                  obtain ⟨m', hm1, hm2⟩ := appP_cons hb.v hap
                  have HM1 := Lib.hid hm1
                  have HM2 := Lib.hid hm2
                  have HK := Lib.hid hlt
                  obtain ⟨x, y⟩ := z
                  unfold cxV at hck
                  simp only at hck
                  obtain ⟨z0, z1⟩ := hb.b.two
                  have i0 : (0 : Int) ≤ (j : Int) := by omega
                  have i1 : (j : Int) < (xs.length : Int) := by omega
                  have HTW : Hid (NB < wr.heap.size) := hb.b.1
                  have HUN := Lib.hid (HasS.unit wr (x, y) 48)
                  have HBa := Lib.hid (hb.keep ((Span.refl 0 0 wr).alloc (.cells #[.complex .f32 x y] 48)))
                  clear hz' hap hm1 hm2 hb hs hlt hj
                  go_wp2_with fail
                  have C := impl_appendTo m k1 [(x, y)] _ _ _ _ _ _ _ (wr.alloc (.cells #[.complex .f32 x y] 48)) HBa.out.whole HBa.out.v (by have := HK1.out; omega) HUN.out.bare (by simp)
                  rw [HM1.out] at C
                  refine C.mono ?_
                  clear C
                  rintro e3 w3 ⟨⟨v3, rfl, hp3⟩, s3⟩
                  obtain ⟨A3, q3, A4, q4, rfl⟩ := hp3.form
                  have HVQ := Lib.hid (HB.out.v.app HM1.out).1
                  have X3 := Lib.hid (Bx.new w3 #[.slice A3 m'.1.length q3, .slice A4 m'.2.length q4] 26)
                  have HB4 := Lib.hid ((HBa.out.keep s3).keep ((Span.refl 0 0 w3).alloc (.cells #[.slice A3 m'.1.length q3, .slice A4 m'.2.length q4] 26)))
                  have HP4 := Lib.hid (hp3.span ((Span.refl 0 0 w3).alloc (.cells #[.slice A3 m'.1.length q3, .slice A4 m'.2.length q4] 26)) (.inl (Nat.le_refl _)))
                  have HS4 := Lib.hid (HS.out.trans (((s3.after ((Span.refl 0 0 wr).alloc (.cells #[.complex .f32 x y] 48))).alloc (.cells #[.slice A3 m'.1.length q3, .slice A4 m'.2.length q4] 26)).wide (lo' := NB) (hi' := NB + 1) (fun k _ hk => absurd hk (by omega))))
                  have HLO : Hid (NB < (wr.alloc (.cells #[.complex .f32 x y] 48)).heap.size) := by unfold Hid; have := HTW.out; simp; omega
                  clear hp3 s3 z0 z1 hck HBa HUN
                  go_upto_region 20 with fail
                  obtain ⟨N3, hN3⟩ : ∃ t, t = w3.heap.size := ⟨_, rfl⟩
                  rw [← hN3] at X3 ⊢
                  clear hN3
                  generalize w3.alloc (.cells #[.slice A3 m'.1.length q3, .slice A4 m'.2.length q4] 26) = w4 at *
                  obtain ⟨y0, y1⟩ := X3.out.two
                  obtain ⟨z0, z1⟩ := HB4.out.b.two
                  have f0 := HB4.out.b.thaw 0
                  have f1 := HB4.out.b.thaw 1
                  have HST := Lib.hid (HB4.out.store HVQ.out HP4.out HLO.out)
                  have HSS := Lib.hid (HS4.out.put2 (b := NB) ⟨Nat.le_refl _, Nat.lt_succ_self _⟩ (.slice A3 m'.1.length q3) (.slice A4 m'.2.length q4))
                  go_wp2_with fail
                  go_roundw
                  case rel => exact ⟨j + 1, m', A3, q3, A4, q4, HK.out, by go_num, HM2.out, HST.out, HSS.out⟩
                  case measure => have := HK.out; simp [intOf]; omega
                · have hje : j = xs.length := by omega
                  subst hje
                  rw [List.drop_length] at hap
                  have hUm := appP_nil hap
                  have HBU : Hid (PBox NB w U B u B' u' wr) := by rw [hUm]; exact HB
                  have HUr := Lib.hid (HU7.out.span hs HNU.out)
                  clear hap hb hs hlt hj HB
                  obtain ⟨y0, y1⟩ := HUr.out.b.two
                  obtain ⟨z0, z1⟩ := HBU.out.b.two
                  have TX0 := poolText_any f HF.out U HVU.out
                  obtain ⟨LT, hLT⟩ : ∃ l, l = storeT f U.1 ++ leasesT U.2 := ⟨_, rfl⟩
                  rw [← hLT] at TX0
                  have TX := Lib.hid TX0
                  have HUM := Lib.hid hUm
                  clear TX0 hLT hUm
                  have dW : ∀ w', Span 0 0 wr w' → w'.cell? ⟨NU, 0, none⟩ = some (.slice C1 U.1.length m1) ∧ w'.cell? ⟨NU, 1, none⟩ = some (.slice C2 U.2.length m2) ∧ w'.cell? ⟨NB, 0, none⟩ = some (.slice B U.1.length u) ∧ w'.cell? ⟨NB, 1, none⟩ = some (.slice B' U.2.length u') := fun w' sp =>
                    ⟨(HUr.out.b.keep sp).two.1, (HUr.out.b.keep sp).two.2, (HBU.out.b.keep sp).two.1, (HBU.out.b.keep sp).two.2⟩
                  have DW := Lib.hid dW
                  have d0 := dW wr.drew ((Span.refl 0 0 wr).drew)
                  clear dW
                  go_upto_region 24 with fail
                  go_cut [2] (fun s2 wx => s2 = .bool true ∧ Span 0 0 wr wx)
                  case first => as_aux_lemma =>
                    go_region_held3 (fun w' => w'.cell? ⟨NU, 0, none⟩ = some (.slice C1 U.1.length m1) ∧ w'.cell? ⟨NU, 1, none⟩ = some (.slice C2 U.2.length m2) ∧ w'.cell? ⟨NB, 0, none⟩ = some (.slice B U.1.length u) ∧ w'.cell? ⟨NB, 1, none⟩ = some (.slice B' U.2.length u'))
                      (first
                        | with_reducible exact d0
                        | with_reducible exact k1'
                        | with_reducible exact k2'
                        | with_reducible exact k3')
                      ((first
                        | (go_at_call 12; (with_reducible refine (spec_isPool_true U _ _ _ wr.drew (HUr.out.h.span ((Span.refl 0 0 wr).drew) (.inl (Nat.le_refl _))) HVU.out).mono ?_); rintro _ wq1 ⟨rfl, sq⟩; have SQ1 := Lib.hid (show Span 0 0 wr wq1 from sq.undrawn' (n := 1)); have k1' := DW.out _ SQ1.out; clear sq)
                        | (go_at_call 29; (with_reducible refine (TX.out _ _ _ wq1 (HUr.out.h.span SQ1.out (.inl (Nat.le_refl _)))).mono ?_); rintro _ wq2 ⟨rfl, sq⟩; have SQ2 := Lib.hid (sq.after SQ1.out); have k2' := DW.out _ SQ2.out; clear sq)
                        | (go_at_call 29; (with_reducible refine (TX.out _ _ _ wq2 (HBU.out.whole.span SQ2.out (.inl (Nat.le_refl _)))).mono ?_); rintro _ wq3 ⟨rfl, sq⟩; have SQ3 := Lib.hid (sq.after SQ2.out); have k3' := DW.out _ SQ3.out; clear sq)))
                    all_goals
                      go_wp2_with fail
                      go_meet
                      exact ⟨rfl, SQ3.out⟩
                  case rest =>
                    obtain ⟨rfl, sc⟩ := hcut
                    have SF := Lib.hid (sc.after HBU.out.s)
                    clear sc d0 y0 y1 z0 z1
                    go_wp2_with fail
                    go_ret
                    exact ⟨rfl, SF.out.to_below (.inl (Nat.le_refl _))⟩
  · have hn' : (1048576 : Int) < (n : Int) := by omega
    go_enter Try.func6, Try.ntmps6
    go_wp2
    go_ret
    exact ⟨rfl, Below.refl _ _⟩
end Go.Proofs.Ytlhocjoncblocaa
