/- MakePoolText: the text of a pool depends on the pool alone. -/
import Derived.Test.YtfafkdpefdpnkaaJq57
import Derived.Test.YtfafkdpefdpnkaaJq43
import Derived.Deep.RegionHeld3
import Derived.Deep.DeepCutAuto
namespace Go.Proofs.Ytfafkdpefdpnkaa
open Go.RowKit

set_option maxRecDepth 100000 in
set_option maxHeartbeats 4000000 in
theorem poolText_any (f : Cx → List UInt8) (hf : ∀ z, (f z).length ≤ 90 ∧ ∀ w, Calls Try.prog 33 #[cxV z] w (GivesTxt (f z) w)) (p : Pl) (hp : VP p) (lo hi : Nat) (v : Value) (w : World) (hx : HasP lo hi w v p) :
    Calls Try.prog 18 #[v] w (GivesTxt (storeT f p.1 ++ leasesT p.2) w) := by
  have HF := Lib.hid hf
  have HV := Lib.hid hp
  have HSL : Hid (∀ k, (storeT f (p.1.take k)).length ≤ 23296) := fun k => by
    have h1 := storeT_len (fun z => (hf z).1) (p.1.take k)
    have h2 := hp.size
    rw [List.length_take] at h1
    omega
  have HLL : Hid (∀ k, (leasesT (p.2.take k)).length ≤ 1136) := fun k => by
    have h1 := leasesT_len (p.2.take k) (fun x hx => by have := hp.small x (List.mem_of_mem_take hx); omega)
    have h2 := hp.most
    rw [List.length_take] at h1
    omega
  obtain ⟨b1, b2, vS, vL, rfl, g1, g2⟩ := hx
  have G1 := Lib.hid g1
  obtain ⟨AS, cS, rfl, _, _⟩ := g1
  have G2 := Lib.hid g2
  obtain ⟨AL, cL, rfl, _, _⟩ := g2
  have X0 := Lib.hid (Bx.new w #[.slice AS p.1.length cS, .slice AL p.2.length cL] 45)
  have HS := Lib.hid ((Span.refl 0 0 w).alloc (.cells #[.slice AS p.1.length cS, .slice AL p.2.length cL] 45))
  have cx := X0.out.cells
  have l256 : (p.1.length : Int) ≤ 256 := by have := HV.out.size; omega
  have l16 : (p.2.length : Int) ≤ 16 := by have := HV.out.most; omega
  clear hp hf
  go_enter Try.func18, Try.ntmps18
  go_wp2_with fail
  clear cx
  go_loopw [3, 11] (fun o ck wr => ∃ k : Nat, k ≤ p.1.length ∧ ck = .int .i64 (k : Int) ∧ o = .string ⟨(storeT f (p.1.take k)).toArray⟩ ∧ Span 0 0 w wr ∧ Bx w.heap.size #[.slice AS p.1.length cS, .slice AL p.2.length cL] wr) (fun _ ck _ => p.1.length - (intOf ck).toNat)
  case atStart => exact ⟨0, Nat.zero_le _, rfl, rfl, HS.out, X0.out⟩
  case round =>
    clear HS X0
    obtain ⟨k, hk, rfl, rfl, hs, hb⟩ := hrel
    have HS := Lib.hid hs
    have HB := Lib.hid hb
    by_cases hlt : k < p.1.length
    · obtain ⟨z, hz⟩ := getElem?_some (xs := p.1) (j := k) hlt
      obtain ⟨off, rfl, -⟩ := G1.out.addrS (by omega)
      have hck := (G1.out.span hs (.inl (Nat.le_refl _))).atS hz
      have hsu := storeT_succ (f := f) hz
      obtain ⟨n1, c1⟩ := HF.out z
      obtain ⟨x, y⟩ := z
      unfold cxV at hck c1
      simp only at hck c1
      have hl := HSL.out k
      obtain ⟨t, ht⟩ : ∃ t, t = storeT f (p.1.take k) := ⟨_, rfl⟩
      obtain ⟨fz, hfz⟩ : ∃ t, t = f (x, y) := ⟨_, rfl⟩
      rw [← ht] at hl hsu ⊢
      rw [← hfz] at n1 c1 hsu
      have HC := Lib.hid c1
      have HT := Lib.hid hsu
      have HK := Lib.hid hlt
      have i0 : (0 : Int) ≤ (k : Int) := by omega
      have i1 : (k : Int) < (p.1.length : Int) := by omega
      clear hz ht hfz c1 hsu hlt hk hs hb
      go_wp2_with fail
      refine (HC.out _).mono ?_
      rintro _ w2 ⟨rfl, s2⟩
      have S2 := Lib.hid (s2.after HS.out)
      have B2 := Lib.hid (HB.out.keep s2)
      clear s2 hck
      go_wp2_with fail
      go_roundw
      case rel => exact ⟨k + 1, HK.out, by go_num, by rw [HT.out]; exact congrArg Value.string (ba_semi t fz), S2.out, B2.out⟩
      case measure => have := HK.out; simp [intOf]; omega
    · have hke : k = p.1.length := by omega
      subst hke
      rw [List.take_length]
      have hl := HSL.out p.1.length
      rw [List.take_length] at hl
      obtain ⟨t, ht⟩ : ∃ t, t = storeT f p.1 := ⟨_, rfl⟩
      rw [← ht] at hl ⊢
      have cx := hb.cells
      have HTL := Lib.hid hl
      have HTE := Lib.hid ht
      clear hk hlt hs hb ht HB hl
      go_wp2_with fail
      obtain ⟨wa, rfl⟩ : ∃ wa, wa = wr := ⟨_, rfl⟩
      clear cx
      go_loopw [3, 24] (fun o ck wr => ∃ k : Nat, k ≤ p.2.length ∧ ck = .int .i64 (k : Int) ∧ o = .string ⟨(t ++ leasesT (p.2.take k)).toArray⟩ ∧ Span 0 0 w wr) (fun _ ck _ => p.2.length - (intOf ck).toNat)
      case atStart => exact ⟨0, Nat.zero_le _, rfl, by simp [leasesT], HS.out⟩
      case round =>
        clear HS
        obtain ⟨k, hk, rfl, rfl, hs⟩ := hrel
        have HS := Lib.hid hs
        by_cases hlt : k < p.2.length
        · obtain ⟨x, hx⟩ := getElem?_some (xs := p.2) (j := k) hlt
          obtain ⟨-, -, off, rfl, l0, l1, l2, l3⟩ := (G2.out.span hs (.inl (Nat.le_refl _))).at_ hx
          have hsu := leasesT_succ hx
          have hl2 := HLL.out k
          obtain ⟨m1, m2, m3⟩ := HV.out.small x (List.mem_of_getElem? hx)
          obtain ⟨s, c, r, fr⟩ := x
          simp only at l0 l1 l2 l3 m1 m2 m3
          obtain ⟨u, hu⟩ : ∃ u, u = t ++ leasesT (p.2.take k) := ⟨_, rfl⟩
          have hul : u.length ≤ 24432 := by rw [hu, List.length_append]; have := HTL.out; omega
          have HSU : Hid (t ++ leasesT (p.2.take (k + 1)) = u ++ leaseT ⟨s, c, r, fr⟩) := by unfold Hid; rw [hsu, hu, List.append_assoc]
          rw [← hu]
          have CS := Lib.hid (l8Int_any s (by omega))
          have CC := Lib.hid (l8Int_any c (by omega))
          have CR := Lib.hid (l8Int_any r (by omega))
          have n1 := itoa_len (n := (s : Int)) (by omega) (by omega)
          have n2 := itoa_len (n := (c : Int)) (by omega) (by omega)
          have n3 := itoa_len (n := (r : Int)) (by omega) (by omega)
          unfold leaseT at HSU
          simp only at HSU
          obtain ⟨LS, hLS⟩ : ∃ l, l = Lib.itoa (s : Int) := ⟨_, rfl⟩
          obtain ⟨LC, hLC⟩ : ∃ l, l = Lib.itoa (c : Int) := ⟨_, rfl⟩
          obtain ⟨LR, hLR⟩ : ∃ l, l = Lib.itoa (r : Int) := ⟨_, rfl⟩
          rw [← hLS] at n1 CS HSU
          rw [← hLC] at n2 CC HSU
          rw [← hLR] at n3 CR HSU
          have HK := Lib.hid hlt
          have i0 : (0 : Int) ≤ (k : Int) := by omega
          have i1 : (k : Int) < (p.2.length : Int) := by omega
          have SA := Lib.hid (hs.alloc (.cells #[.int .i64 (s : Int), .int .i64 (c : Int), .int .i64 (r : Int), .bool fr] 68))
          have BA := Lib.hid (Bx.new wr #[.int .i64 (s : Int), .int .i64 (c : Int), .int .i64 (r : Int), .bool fr] 68)
          clear hx hsu hl2 hu hLS hLC hLR hlt hk hs m1 m2 m3 HS
          go_upto_region 10 with fail
          generalize hNB : wr.heap.size = NB at *
          generalize wr.alloc (.cells #[.int .i64 (s : Int), .int .i64 (c : Int), .int .i64 (r : Int), .bool fr] 68) = wA at *
          clear l0 l1 l2 l3 hNB
          have dA : ∀ w', Span 0 0 wA w' → w'.cell? ⟨NB, 0, none⟩ = some (.int .i64 (s : Int)) ∧ w'.cell? ⟨NB, 1, none⟩ = some (.int .i64 (c : Int)) ∧ w'.cell? ⟨NB, 2, none⟩ = some (.int .i64 (r : Int)) ∧ w'.cell? ⟨NB, 3, none⟩ = some (.bool fr) := fun w' sp => by
            have e := (BA.out.keep sp).cells
            exact ⟨e 0, e 1, e 2, e 3⟩
          have DA := Lib.hid dA
          have d0 := dA wA.drew ((Span.refl 0 0 wA).drew)
          clear dA
          go_cut [3] (fun s3 wx => s3 = .string ((⟨u.toArray⟩ : ByteArray) ++ ⟨LS.toArray⟩ ++ ⟨#[32]⟩ ++ ⟨LC.toArray⟩ ++ ⟨#[32]⟩ ++ ⟨LR.toArray⟩) ∧ Span 0 0 wA wx)
          case first => as_aux_lemma =>
            have s1 : ¬ 9223372036854775807 < u.length + LS.length := by omega
            have s2 : ¬ 9223372036854775807 < u.length + LS.length + 1 := by omega
            have s3 : ¬ 9223372036854775807 < u.length + LS.length + 1 + LC.length := by omega
            have s4 : ¬ 9223372036854775807 < u.length + LS.length + 1 + LC.length + 1 := by omega
            have s5 : ¬ 9223372036854775807 < u.length + LS.length + 1 + LC.length + 1 + LR.length := by omega
            go_region_held3 (fun w' => w'.cell? ⟨NB, 0, none⟩ = some (.int .i64 (s : Int)) ∧ w'.cell? ⟨NB, 1, none⟩ = some (.int .i64 (c : Int)) ∧ w'.cell? ⟨NB, 2, none⟩ = some (.int .i64 (r : Int)) ∧ w'.cell? ⟨NB, 3, none⟩ = some (.bool fr))
              (first
                | with_reducible exact d0
                | with_reducible exact k1
                | with_reducible exact k2
                | with_reducible exact k3)
              ((first
                | (go_at_call 34; (with_reducible refine (CS.out wA.drew).mono ?_); rintro _ wq1 ⟨rfl, sq⟩; have SQ1 := Lib.hid (show Span 0 0 wA wq1 from sq.undrawn' (n := 1)); have k1 := DA.out _ SQ1.out; clear sq)
                | (go_at_call 34; (with_reducible refine (CC.out wq1).mono ?_); rintro _ wq2 ⟨rfl, sq⟩; have SQ2 := Lib.hid (sq.after SQ1.out); have k2 := DA.out _ SQ2.out; clear sq)
                | (go_at_call 34; (with_reducible refine (CR.out wq2).mono ?_); rintro _ wq3 ⟨rfl, sq⟩; have SQ3 := Lib.hid (sq.after SQ2.out); have k3 := DA.out _ SQ3.out; clear sq)))
            all_goals
              go_wp2_with fail
              go_meet
              exact ⟨rfl, SQ3.out⟩
          case rest =>
            obtain ⟨rfl, sc⟩ := hcut
            have cl := (BA.out.keep sc).cells
            have SC := Lib.hid (sc.after SA.out)
            clear sc d0
            cases fr
            all_goals
              go_wp2_with fail
              go_roundw
              case rel => exact ⟨k + 1, HK.out, by go_num, by rw [HSU.out]; first | exact congrArg Value.string (ba_leaseF u LS LC LR) | exact congrArg Value.string (ba_leaseT u LS LC LR), SC.out⟩
              case measure => have := HK.out; simp [intOf]; omega
        · have hke : k = p.2.length := by omega
          subst hke
          rw [List.take_length]
          clear hk hlt hs
          go_wp2_with fail
          go_ret
          refine ⟨?_, HS.out⟩
          rw [← HTE.out]
          rfl
end Go.Proofs.Ytfafkdpefdpnkaa
