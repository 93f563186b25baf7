/- Cables are added to a rack. A cable is added to a rack. -/
import Derived.Test.YtpiiflhdllpoiaaJq40
import Derived.Outline
import Derived.Test.YtpiiflhdllpoiaaJq41
import Derived.Test.YtpiiflhdllpoiaaJq23
import Derived.Deep.DeepCutAuto
namespace Go.Proofs.Ytpiiflhdllpoiaa
section
open Go.RowKit

set_option maxRecDepth 100000 in
set_option maxHeartbeats 4000000 in
theorem isRack_any {w : World} {bM bC lo hi : Nat} {AM : Option Addr} {n cM : Nat} {AC : Option Addr} {m cC : Nat} {Ms : List Mw} {Cs : List (Nat × Nat)} (hr : RkAt w bM bC lo hi AM n cM AC m cC Ms Cs) :
    Calls Try.prog 27 #[.agg #[.slice AM n cM, .slice AC m cC]] w fun e w' => e = .returned (.bool (orderC (Ms.map Mw.k) Cs n).isSome) ∧ Span 0 0 w w' := by
  have SA := Lib.hid ((Span.refl 0 0 w).alloc (.cells #[.slice AM n cM, .slice AC m cC] 43))
  have OO := orderOf_any (hr.keep SA.out)
  cases ho : orderC (Ms.map Mw.k) Cs n with
  | none =>
    rw [ho] at OO
    have OO := Lib.hid OO
    clear hr ho
    go_enter Try.func27, Try.ntmps27
    go_wp2_with fail
    refine OO.out.mono ?_
    rintro _ w1 ⟨rfl, s1⟩
    have S1 := Lib.hid (SA.out.trans s1)
    clear s1
    go_wp2_with fail
    go_ret
    exact ⟨rfl, S1.out⟩
  | some os =>
    rw [ho] at OO
    have OO := Lib.hid OO
    clear hr ho
    go_enter Try.func27, Try.ntmps27
    go_wp2_with fail
    refine OO.out.mono ?_
    rintro _ w1 ⟨⟨v, b, rfl, -⟩, s1⟩
    have S1 := Lib.hid (SA.out.trans s1)
    clear s1
    go_wp2_with fail
    go_ret
    exact ⟨rfl, S1.out⟩
end
section
open Go.RowKit

theorem flatG_snoc0 {α : Type} (fl : α → List Value) (L : List α) (x : α) : flatG fl (L ++ [x]) = flatG fl L ++ fl x := by simp [flatG]
def TwoSl (v : Value) : Prop := ∃ A1 n1 c1 A2 n2 c2, v = .agg #[.slice A1 n1 c1, .slice A2 n2 c2]
set_option maxRecDepth 100000 in
set_option maxHeartbeats 4000000 in
theorem onlyValidRack_any {w : World} {bM bC lo hi : Nat} {AM : Option Addr} {n cM : Nat} {AC : Option Addr} {m cC : Nat} {Ms : List Mw} {Cs : List (Nat × Nat)} (hr : RkAt w bM bC lo hi AM n cM AC m cC Ms Cs) :
    Calls Try.prog 29 #[.agg #[.slice AM n cM, .slice AC m cC]] w fun e w' => (∃ A1 n1 c1 A2 n2 c2, e = .returned (.tuple #[.agg #[.slice A1 n1 c1, .slice A2 n2 c2], .bool (orderC (Ms.map Mw.k) Cs n).isSome])) ∧ Span 0 0 w w' := by
  have SA := Lib.hid (((Span.refl 0 0 w).alloc (.cells #[.slice AM n cM, .slice AC m cC] 43)).alloc (.cells #[.slice none 0 0, .slice none 0 0] 43))
  have IR := Lib.hid (isRack_any (hr.keep SA.out))
  have BA := Lib.hid ((Bx.new w #[.slice AM n cM, .slice AC m cC] 43).alloc (.cells #[.slice none 0 0, .slice none 0 0] 43))
  have BZ := Lib.hid (Bx.new2 w (.cells #[.slice AM n cM, .slice AC m cC] 43) #[.slice none 0 0, .slice none 0 0] 43)
  generalize (orderC (Ms.map Mw.k) Cs n).isSome = ok at *
  have ca := BA.out.cells
  clear hr
  go_enter Try.func29, Try.ntmps29
  go_wp2_with fail
  refine IR.out.mono ?_
  rintro _ w1 ⟨rfl, s1⟩
  have B1 := BZ.out.keep s1
  have c1 := B1.cells
  have f1 := B1.thaw
  have ca1 := (BA.out.keep s1).cells
  have S1 := Lib.hid (SA.out.trans s1)
  cases ok
  · have BS := Lib.hid (B1.set2 (.slice none 0 0) (.slice none 0 0))
    clear B1 s1 ca
    go_wp2_with fail
    have d1 := BS.out.cells
    exact bodyPost_ret (v := .tuple #[.agg #[.slice none 0 0, .slice none 0 0], .bool false]) (by simp [results, Try.results29, go_sem, d1]) rfl ⟨⟨_, _, _, _, _, _, rfl⟩, S1.out.set2 (by omega) _ _⟩
  · have BS := Lib.hid (B1.set2 (.slice AM n cM) (.slice AC m cC))
    clear B1 s1 ca
    go_wp2_with fail
    have d1 := BS.out.cells
    exact bodyPost_ret (v := .tuple #[.agg #[.slice AM n cM, .slice AC m cC], .bool true]) (by simp [results, Try.results29, go_sem, d1]) rfl ⟨⟨_, _, _, _, _, _, rfl⟩, S1.out.set2 (by omega) _ _⟩

set_option maxRecDepth 100000 in
set_option maxHeartbeats 8000000 in
theorem addCable_any {w : World} {bM bC lo hi : Nat} {AM : Option Addr} {n cM : Nat} {AC : Option Addr} {m cC : Nat} {Ms : List Mw} {Cs : List (Nat × Nat)} (hr : RkAt w bM bC lo hi AM n cM AC m cC Ms Cs) (Rs : List (List Cx)) (hR : Rs.length = Ms.length ∧ ∀ (i : Nat) (x : Mw) (r : List Cx), Ms[i]? = some x → Rs[i]? = some r → CopiesM x r w) (hok : ∀ (b : Nat) (w' : World) (Ns : List Mw), CopN b w' Ms Rs Ns → ∀ x ∈ Ns, OkM w' x) (hord : (orderC (Ms.map Mw.k) Cs n).isSome = true) (f t : Nat) (hf : f < n) (ht : t < n) (hm : m < 40) :
    Calls Try.prog 15 #[.agg #[.slice AM n cM, .slice AC m cC], .int .i64 (f : Int), .int .i64 (t : Int)] w fun e w' => (∃ A1 n1 c1 A2 n2 c2, e = .returned (.tuple #[.agg #[.slice A1 n1 c1, .slice A2 n2 c2], .bool (orderC (Ms.map Mw.k) (Cs ++ [(f, t)]) n).isSome])) ∧ Span 0 0 w w' := by
  have SA := Lib.hid (((Span.refl 0 0 w).alloc (.cells #[.slice AM n cM, .slice AC m cC] 43)).alloc (.cells #[.slice none 0 0, .slice none 0 0] 43))
  have IR := isRack_any (hr.keep SA.out)
  rw [hord] at IR
  have IR := Lib.hid IR
  have CR : Hid (∀ w', Span 0 0 w w' → Calls Try.prog 28 #[.agg #[.slice AM n cM, .slice AC m cC]] w' (CopyRkN n m Ms Rs Cs w')) := fun w' s => copyRack_new (hr.keep s) Rs ⟨hR.1, fun i x r hx hrr w2 s2 => hR.2 i x r hx hrr w2 (s.trans s2)⟩
  have BA := Lib.hid ((Bx.new w #[.slice AM n cM, .slice AC m cC] 43).alloc (.cells #[.slice none 0 0, .slice none 0 0] 43))
  have BZ := Lib.hid (Bx.new2 w (.cells #[.slice AM n cM, .slice AC m cC] 43) #[.slice none 0 0, .slice none 0 0] 43)
  have ca := BA.out.cells
  have HML := Lib.hid (show Ms.length = n from hr.mods.len.1.symm)
  have HCL := Lib.hid hr.cabs.len.1
  have HEN := Lib.hid hr.ends
  have HOK := Lib.hid hok
  have H16 := Lib.hid hr.most
  have HFT := Lib.hid (And.intro hf ht)
  have HM := Lib.hid hm
  obtain ⟨ip, hip, hzp, hsp, hbp⟩ := info_parts info_cab
  clear hr hR hok hord hf ht hm
  go_enter Try.func15, Try.ntmps15
  go_wp2_with fail
  refine IR.out.mono ?_
  rintro _ w1 ⟨rfl, s1⟩
  have ca1 := (BA.out.keep s1).cells
  have BZ1 := Lib.hid (BZ.out.keep s1)
  have S1 := Lib.hid (SA.out.trans s1)
  clear s1 ca
  go_wp2_with fail
  refine (CR.out _ S1.out).mono ?_
  rintro _ w2 ⟨b, A, q, bC', Ns, Z, rfl, hb, hmk, hNs, hcp, -, how, hbZ, hZw, hlt, s2⟩
  have BZ2 := Lib.hid (BZ1.out.keep s2)
  have S2 := Lib.hid (S1.out.trans s2)
  have HMK := Lib.hid hmk
  have HNS := Lib.hid hNs
  have HCP := Lib.hid hcp
  have HOW := Lib.hid how
  have HBZ := Lib.hid hbZ
  have HLT := Lib.hid hlt
  have HZW := Lib.hid hZw
  have HBW := Lib.hid (Nat.le_trans S1.out.size hb)
  have HZB : Hid (w.heap.size + 1 < b) := by have := BZ1.out.1; unfold Hid; omega
  clear s2 hmk hNs hcp how hbZ hZw hlt hb ca1
  have BX := Lib.hid (Bx.new w2 #[.slice (some ⟨b, 0, none⟩) n n, .slice A m q] 43)
  have SB := Lib.hid ((Span.refl 0 0 w2).alloc (.cells #[.slice (some ⟨b, 0, none⟩) n n, .slice A m q] 43))
  have OWB := Lib.hid (HOW.out.alloc (.cells #[.slice (some ⟨b, 0, none⟩) n n, .slice A m q] 43))
  obtain ⟨B8, hB8⟩ : ∃ t, t = w2.heap.size := ⟨_, rfl⟩
  have HB8 := Lib.hid hB8
  go_upto_region 4 with fail
  rw [← hB8] at BX ⊢
  clear hB8
  generalize w2.alloc (.cells #[.slice (some ⟨b, 0, none⟩) n n, .slice A m q] 43) = wb at *
  have x0 := BX.out.cells
  have x1 := BX.out.cellsA
  go_wp2_with (at_builtin; (refine wpList_append_own_at _ rfl (.tmp 16) (.tmp 20) 41 rfl Z 40 ip (.agg #[.int .i64 0, .int .i64 0]) 2 16 Try.underlying41 hip hzp hsp hbp rfl (by decide) _ _ _ rfl (OWB.out.alloc _) ⟨wb.heap.size, 0, none⟩ 1 1 (cabC (f, t)) rfl rfl ?c1 ?c2 ?c3 ?c4 ?c5 ?_); (case c1 => exact World.news_of_block (heap_alloc_new _ _)); (case c2 => intro u hu; simp only [cabC, List.mem_cons, List.not_mem_nil, or_false] at hu; rcases hu with rfl | rfl <;> rfl); (case c3 => have := HM.out; unfold maxLen; omega); (case c4 => have := HM.out; omega); (case c5 => have := HZW.out; have := SB.out.size; simp; omega); intro v3 w3 ho3 hg3 _ hat3; obtain ⟨A3, q3, rfl⟩ := ownsRow_slice ho3; have HAT := Lib.hid hat3; clear hat3; have B3 := (BX.out.alloc (.cells #[.int .i64 (f : Int), .int .i64 (t : Int)] 40)).grown hg3 (fun e => by have := OWB.out.lt _ e; have := HOW.out.lt _ e; have := HB8.out; omega); have x3 := B3.cells; have f3 := B3.thaw; have HB3 := Lib.hid B3; have HO3 := Lib.hid ho3; have HG3 := Lib.hid hg3; clear ho3 hg3 B3)
  have w8 := HB8.out
  have zw := HZW.out
  have s1 := SB.out.alloc (.cells #[.int .i64 (f : Int), .int .i64 (t : Int)] 40)
  have s3 := setSpan B8 1 (.slice A3 (m + 1) q3) w3
  have z1 := s1.size
  have z2 := HG3.out.size
  have z3 := s3.size
  have SZ : Span Z ((w3.setCell ⟨B8, 1, none⟩ (.slice A3 (m + 1) q3)).heap.size) w2 (w3.setCell ⟨B8, 1, none⟩ (.slice A3 (m + 1) q3)) := ⟨s3.os.trans (HG3.out.os.trans s1.os), s3.tape.trans (HG3.out.tape.trans s1.tape), s3.output.trans (HG3.out.output.trans s1.output), Nat.le_trans z1 (Nat.le_trans z2 z3), fun k hk hn => by
    have h1 := s3.block k (by omega) (by omega)
    have h2 := HG3.out.block k (by omega) (fun e => by have := OWB.out.lt _ e.symm; omega)
    exact h1.trans (h2.trans (s1.block k hk (by omega)))⟩
  have MZ := HMK.out.span SZ (by have := HBZ.out; omega)
  have CZ := HCP.out.past HLT.out SZ.size (fun k hk => SZ.block k (by omega) (by omega))
  have hkk : Ns.map Mw.k = Ms.map Mw.k := by
    apply List.ext_getElem?
    intro i
    rw [List.getElem?_map, List.getElem?_map]
    cases hx : Ns[i]? with
    | none =>
      have : Ns.length ≤ i := List.getElem?_eq_none_iff.1 hx
      rw [List.getElem?_eq_none (by have := HNS.out; have := HML.out; omega)]
    | some x =>
      obtain ⟨m', r, h1, _, h3⟩ := HCP.out i x hx
      rw [h1]
      rcases h3 with ⟨rfl, _⟩ | ⟨A', p', bs, hi', rfl, _, _⟩ <;> rfl
  have OZ : (w3.setCell ⟨B8, 1, none⟩ (.slice A3 (m + 1) q3)).ownsRow Z 40 2 (.slice A3 (m + 1) q3) (m + 1) (flatG cabC (Cs ++ [(f, t)])) := by
    rw [flatG_snoc0]
    refine ownsRow_span HO3.out s3 (fun g hg => ?_)
    rcases HAT.out with h | h
    · rw [h] at hg
      have := HOW.out.lt g hg
      omega
    · rw [h] at hg
      injection hg with hg
      have z4 : B8 < wb.heap.size := BX.out.1
      have z5 := ((Span.refl 0 0 wb).alloc (.cells #[.int .i64 (f : Int), .int .i64 (t : Int)] 40)).size
      omega
  obtain ⟨bC3, hC3, -, -⟩ := ownsRow_hasC (by decide) cab_len OZ
  have hends : ∀ x ∈ Cs ++ [(f, t)], x.1 < n ∧ x.2 < n := fun x hx => by
    rcases List.mem_append.1 hx with hx | hx
    · exact HEN.out x hx
    · rw [List.mem_singleton] at hx; subst hx; exact HFT.out
  have RK : RkAt (w3.setCell ⟨B8, 1, none⟩ (.slice A3 (m + 1) q3)) b bC3 0 ((w3.setCell ⟨B8, 1, none⟩ (.slice A3 (m + 1) q3)).heap.size) (some ⟨b, 0, none⟩) n n A3 (m + 1) q3 Ns (Cs ++ [(f, t)]) :=
    ⟨(MZ.hasC HNS.out).weak (Nat.zero_le _) (.inr (Nat.le_refl _)), hC3.weak (Nat.zero_le _) (.inl (Nat.le_refl _)), ⟨H16.out.1, by have := HM.out; omega⟩, HOK.out b _ Ns CZ, hends⟩
  have OV := onlyValidRack_any RK
  rw [hkk] at OV
  obtain ⟨okk, hokk⟩ : ∃ c, c = (orderC (Ms.map Mw.k) (Cs ++ [(f, t)]) n).isSome := ⟨_, rfl⟩
  rw [← hokk] at OV
  have OV := Lib.hid OV
  have HKK := Lib.hid hokk
  clear hokk
  have S4 := Lib.hid (S2.out.newTo SZ (by have := HBZ.out; have := HBW.out; omega))
  have BZ4 := Lib.hid (BZ2.out.span SZ (by have := HBZ.out; have := HBW.out; have := HZB.out; omega))
  clear s1 s3 z1 z2 z3 SZ MZ CZ hkk OZ hC3 hends RK x0 x1 x3 f3 w8 zw
  refine OV.out.mono ?_
  rintro _ w5 ⟨⟨A1, n1, c1, A2, n2, c2, rfl⟩, s5⟩
  have B5 := BZ4.out.keep s5
  have y5 := B5.cells
  have f5 := B5.thaw
  have BS := Lib.hid (B5.set2 (.slice A1 n1 c1) (.slice A2 n2 c2))
  have S5 := Lib.hid (S4.out.trans s5)
  clear B5 s5
  go_wp2_with fail
  have d1 := BS.out.cells
  exact bodyPost_ret (v := .tuple #[.agg #[.slice A1 n1 c1, .slice A2 n2 c2], .bool okk]) (by simp [results, Try.results15, go_sem, d1]) rfl ⟨⟨A1, n1, c1, A2, n2, c2, by rw [HKK.out]⟩, S5.out.set2 (by omega) _ _⟩
end
end Go.Proofs.Ytpiiflhdllpoiaa
