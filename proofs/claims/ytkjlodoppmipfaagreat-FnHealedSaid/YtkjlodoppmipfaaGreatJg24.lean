/- A circuit does a step, by what holds of its states; whatever NaN comes. -/
import Derived.Test.YtkjlodoppmipfaaGreatJg23
import Derived.Test.YtkjlodoppmipfaaGreatJg2
import Derived.Deep.RegionHeld3
import Derived.Deep.DeepCutAuto
import Derived.Outline
namespace Go.Proofs.YtkjlodoppmipfaaGreat
open Go.RowKit

theorem run_carith_any {P : Program} (op : BinOp) (k : FloatKind) (x y : Nat) (w : World) (h : op = .add ∨ op = .sub ∨ op = .mul ∨ op = .quo) : (Op.Complex.arith op k x y).run P w = .ok (fAr op k x y w) (w.drewN (fDr op k x y)) := by
  have e : (Op.floatArith op k x y).run P w = .ok (.float k (fAr op k x y w)) (w.drewN (fDr op k x y)) := by
    have := run_fAr (P := P) w op 0 k x y h
    rcases h with rfl | rfl | rfl | rfl <;> simpa [binOp] using this
  simp [Op.Complex.arith, e]
@[go_sem] theorem run_cAdd {P : Program} (w : World) (t : TypeId) (k : FloatKind) (a b c d : Nat) : (binOp .add t (.complex k a b) (.complex k c d)).run P w = .ok (.complex k (fAr .add k a c w) (fAr .add k b d (w.drewN (fDr .add k a c)))) ((w.drewN (fDr .add k a c)).drewN (fDr .add k b d)) := by
  simp [binOp, Op.complexOp, run_carith_any .add k a c w (.inl rfl), run_carith_any .add k b d _ (.inl rfl)]

/-- A sum of two samples; the bits of NaN are asked. -/
def AddsR (a b c : Cx) : Prop := ∃ w1 w2 : World, c = (fAr .add .f32 a.1 b.1 w1, fAr .add .f32 a.2 b.2 w2)
/-- What comes of the first j feeds. -/
def SumsTo (outs : List Cx) (l : List Nat) (a : Cx) : Nat → Cx → Prop
  | 0, c => c = a
  | j + 1, c => ∃ b f o, SumsTo outs l a j b ∧ l[j]? = some f ∧ outs[f]? = some o ∧ AddsR b o c
/-- A unit's step, by what it may come to. -/
def StepsI (kd : Kd) (u : Un) (z : Cx) (R : Un → Cx → Prop) : Prop :=
  ∀ (X : List Nat) (g : Nat) (f : List Nat) (w : World), (∀ b ∈ X, b < w.heap.size) → HasU X u (kd, g) f w → Calls Tryz.prog kd.fs #[.pointer (some ⟨g, 0, none⟩), .complex .f32 z.1 z.2] w fun e w' => ∃ (u' : Un) (y : Cx), e = .returned (.complex .f32 y.1 y.2) ∧ R u' y ∧ HasU X u' (kd, g) f w' ∧ Keeps f w w'
theorem StepsU.rel {kd : Kd} {u u' : Un} {z y : Cx} (h : StepsU kd u z u' y) {R : Un → Cx → Prop} (hR : R u' y) : StepsI kd u z R := fun X g f w hX hu => (h X g f w hX hu).mono fun _ _ ⟨h1, h2, h3⟩ => ⟨u', y, h1, hR, h2, h3⟩
theorem StepsI.mono {kd : Kd} {u : Un} {z : Cx} {R R' : Un → Cx → Prop} (h : StepsI kd u z R) (hR : ∀ u' y, R u' y → R' u' y) : StepsI kd u z R' := fun X g f w hX hu => (h X g f w hX hu).mono fun _ _ ⟨u', y, h1, h2, h3⟩ => ⟨u', y, h1, hR _ _ h2, h3⟩
/-- A station's step leads from J to J'. -/
def OneI (inn : Int) (z : Cx) (φ : Nat → Cx → Cx) (t : Nat × List Nat × (Kd × Nat)) (J J' : List Un × List Cx → Prop) : Prop :=
  ∀ (s : List Un × List Cx) (u : Un) (a c : Cx), J s → s.1[t.1]? = some u → (if (t.1 : Int) = inn then AddsR (0, 0) z a else a = (0, 0)) → SumsTo s.2 t.2.1 a t.2.1.length c → StepsI t.2.2.1 u c (fun u' y => J' (s.1.set t.1 u', s.2.set t.1 (φ t.1 y)))
/-- What becomes of outputs, in all worlds of which S holds. -/
def Becomes (n fb : Nat) (cap : Array Value) (φ : Nat → Cx → Cx) (S : World → Prop) : Prop :=
  (∀ (args : Array Value) (w : World), (callFunc fb args).run Tryz.prog w = .ok (.enter fb args) w) ∧ ∀ (i : Nat) (y : Cx) (w : World), i < n → S w → Calls Tryz.prog fb (#[.int .i64 (i : Int), .complex .f32 y.1 y.2] ++ cap) w fun e w' => e = .returned (.complex .f32 (φ i y).1 (φ i y).2) ∧ Span 0 0 w w'
theorem becomes_given (n : Nat) (S : World → Prop) : Becomes n 58 #[] (fun _ y => y) S :=
  ⟨fun args w => enters_of Tryz.func58 (by kernel_rfl) rfl args w, fun i y w _ _ => (asGiven_is (i : Int) y.1 y.2 w).mono fun e w' ⟨h1, h2⟩ => ⟨h1, by rw [h2]; exact Span.refl ..⟩⟩

set_option maxRecDepth 100000 in
set_option maxHeartbeats 8000000 in
theorem step_rel {W X : List Nat} {Q O n H bU bS : Nat} {C : Value} {fb : Nat} {cap : Array Value} {us : List (Kd × Nat)} {ss : List (Nat × List Nat × (Kd × Nat))} {fs : List (List Nat)} (inn : Int) (z : Cx) (φ : Nat → Cx → Cx) (S : World → Prop) (hS : ∀ w w', S w → Keeps W w w' → S w') (hB : Becomes n fb cap φ S) (J : Nat → List Un × List Cx → Prop) (ht : ∀ (j : Nat) (t : Nat × List Nat × (Kd × Nat)), ss[j]? = some t → OneI inn z φ t (J j) (J (j + 1))) (w : World) (hw : S w)
    (hrd : Calls Tryz.prog 61 #[.pointer (some ⟨Q, 0, none⟩)] w fun e w' => e = .returned (.tuple #[]) ∧ (∃ s, J 0 s ∧ CircB W X Q O n H bU bS C (.func (.func fb) #[] cap) us ss fs s w') ∧ Keeps W w w') :
    Calls Tryz.prog 45 #[.pointer (some ⟨Q, 0, none⟩), .int .i64 inn, .complex .f32 z.1 z.2] w fun e w' => e = .returned (.tuple #[]) ∧ (∃ s, J ss.length s ∧ CircB W X Q O n H bU bS C (.func (.func fb) #[] cap) us ss fs s w') ∧ Keeps W w w' := by
  obtain ⟨z1, z2⟩ := z
  have HRD := Lib.hid hrd
  have HT := Lib.hid ht
  have HSS := Lib.hid hS
  have HSW := Lib.hid hw
  have HBC := Lib.hid hB.2
  have ccb := fun args W => hB.1 args W
  clear hrd ht hS hw hB
  go_enter Tryz.func45, Tryz.ntmps45
  go_wp2_with fail
  refine HRD.out.mono ?_
  rintro _ w1 ⟨rfl, ⟨s0, hj0, hc1⟩, k1⟩
  obtain ⟨⟨hnin, ⟨i16, i16s, hn⟩, ⟨U, V, sts, hq, hs, hsl, hst, hfe⟩, htop, hpl⟩, -⟩ := id hc1
  obtain ⟨AS, cS, rfl, -, -⟩ := id hst
  rw [hsl] at hst
  have cq := hq.cells
  have HQ1 := Lib.hid hq
  have HC1 := Lib.hid (And.intro hj0 hc1)
  have HST := Lib.hid hst
  have HFE := Lib.hid hfe
  have HPL := Lib.hid hpl
  have HNI := Lib.hid hnin
  have HTOP := Lib.hid htop.1
  have HK1 := Lib.hid k1
  have HSL := Lib.hid hsl
  have i3 : (n : Int) ≤ 16 := by omega
  have i4 : (ss.length : Int) ≤ 16 := by omega
  have HN16 := Lib.hid i16
  rw [hsl] at cq
  clear hq hst hfe hpl hnin hj0 hc1 k1 hs hsl hn i16 i16s htop
  go_wp2_with fail
  clear cq
  go_loopw [18] (fun c wr => ∃ k : Nat, k ≤ ss.length ∧ c = .int .i64 k ∧ (∃ s, J k s ∧ CircB W X Q O n H bU bS C (.func (.func fb) #[] cap) us ss fs s wr) ∧ Keeps W w1 wr) (fun c _ => ss.length - (intOf c).toNat)
  case atStart => exact ⟨0, Nat.zero_le _, rfl, ⟨s0, HC1.out⟩, Keeps.refl ..⟩
  case round =>
    clear HC1
    obtain ⟨k, hk, rfl, ⟨sk, hjk, hc⟩, hkp⟩ := hrel
    by_cases hlt : k < ss.length
    · obtain ⟨⟨i, l, kd, g⟩, hx⟩ := getElem?_some (xs := ss) (j := k) hlt
      obtain ⟨⟨i', v, x'⟩, hs⟩ := getElem?_some (xs := sts) (j := k) (by rw [HSL.out]; exact hlt)
      obtain ⟨e1, e2, bF, hbF, -, hv⟩ := HFE.out k _ _ hs hx
      simp only at e1 e2 hv
      subst e1; subst e2
      obtain ⟨hin, hui, hl40, hlf⟩ := HPL.out k _ hx
      simp only at hin hui hl40 hlf
      obtain ⟨Av, cv, rfl, -, -⟩ := id hv
      have hst := HST.out.keeps hkp HNI.out.2.2.1
      obtain ⟨offS, rfl⟩ := hst.addr (by rw [HSL.out]; omega)
      have c0 : wr.cell? ⟨bS, offS + k * 3, none⟩ = some (.int .i64 (i' : Int)) := hst.at_ hs (i := 0) rfl
      have c1 : wr.cell? ⟨bS, offS + k * 3 + 1, none⟩ = some (.slice Av l.length cv) := hst.at_ hs (i := 1) rfl
      have c2 : wr.cell? ⟨bS, offS + k * 3 + 2, none⟩ = some (.func (.method "loop.example/g03223/impl.step") #[.iface kd.t (.pointer (some ⟨g, 0, none⟩))] #[]) := hst.at_ hs (i := 2) rfl
      have hone := HT.out k _ hx
      obtain ⟨hcs, hus, hol, hos⟩ := hc
      obtain ⟨f, hf⟩ := getElem?_some (xs := fs) (j := i') (by rw [hus.len.1]; exact (List.getElem?_eq_some_iff.1 hui).1)
      obtain ⟨u, hu⟩ := getElem?_some (xs := sk.1) (j := i') (by rw [hus.len.2]; exact (List.getElem?_eq_some_iff.1 hui).1)
      have hone2 := fun a c => hone sk u a c hjk hu
      simp only at hone2
      have HCI : Hid (CircB W X Q O n H bU bS C (.func (.func fb) #[] cap) us ss fs sk wr) := ⟨hcs, hus, hol, hos⟩
      have HIN := Lib.hid hin
      have HKP := Lib.hid hkp
      have HCS := Lib.hid hcs
      have HUS := Lib.hid hus
      have HOL := Lib.hid hol
      have HOS := Lib.hid hos
      have HF := Lib.hid hf
      have HUI := Lib.hid hui
      have HU := Lib.hid hu
      have HONE := Lib.hid hone2
      have HLF := Lib.hid hlf
      have HFV := Lib.hid (hv.keeps hkp hbF)
      have HLT := Lib.hid hlt
      have HBQ := Lib.hid (HQ1.out.keeps hkp HNI.out.1)
      have HSK := Lib.hid (HSS.out _ _ HSW.out (HK1.out.trans hkp))
      have i5 : (l.length : Int) ≤ 40 := by omega
      have j1 : (0 : Int) ≤ (k : Int) := by omega
      have j2 : (k : Int) < (ss.length : Int) := by omega
      have j3 : (0 : Int) ≤ (i' : Int) := by omega
      have j4 : (i' : Int) < (n : Int) := by omega
      clear hx hs hbF hv hst hui hlf hcs hus hol hos hf hu hone hone2 hjk hkp hk hlt hl40
      obtain ⟨wo, rfl⟩ : ∃ t, t = wr := ⟨_, rfl⟩
      go_upto_if 25 with fail
      have BNA := Lib.hid (Bx.new wo #[.int .i64 (i' : Int), .slice Av l.length cv, .func (.method "loop.example/g03223/impl.step") #[.iface kd.t (.pointer (some ⟨g, 0, none⟩))] #[]] 113)
      have SA := Lib.hid ((Span.refl 0 0 wo).alloc (.cells #[.int .i64 (i' : Int), .slice Av l.length cv, .func (.method "loop.example/g03223/impl.step") #[.iface kd.t (.pointer (some ⟨g, 0, none⟩))] #[]] 113))
      obtain ⟨SB, hSB⟩ : ∃ t, t = wo.heap.size := ⟨_, rfl⟩
      rw [← hSB] at BNA ⊢
      have HSB := Lib.hid hSB
      clear hSB c0 c1 c2
      generalize wo.alloc (.cells #[.int .i64 (i' : Int), .slice Av l.length cv, .func (.method "loop.example/g03223/impl.step") #[.iface kd.t (.pointer (some ⟨g, 0, none⟩))] #[]] 113) = wA at *
      go_cut [8] (fun s8 wx => ∃ a : Cx, s8 = .complex .f32 a.1 a.2 ∧ (if (i' : Int) = inn then AddsR (0, 0) (z1, z2) a else a = (0, 0)) ∧ Span 0 0 wA wx)
      case first => as_aux_lemma =>
        by_cases hin : (i' : Int) = inn
        · go_wp2_with fail
          go_meet
          exact ⟨(_, _), rfl, by rw [if_pos hin]; exact ⟨_, _, rfl⟩, (Span.refl 0 0 wA).drewN _⟩
        · go_wp2_with fail
          go_meet
          exact ⟨(0, 0), rfl, by rw [if_neg hin], Span.refl 0 0 wA⟩
      case rest =>
        obtain ⟨a, rfl, hbase, sx⟩ := hcut
        have SX := Lib.hid (SA.out.trans sx)
        have SXA := Lib.hid sx
        have HBASE := Lib.hid hbase
        have na := (BNA.out.keep sx).cells
        have HBA := Lib.hid (HBQ.out.keep SX.out)
        have qa := HBA.out.cells
        clear sx hbase
        go_wp2_with fail
        go_loopw [8, 32] (fun acc c wr => ∃ (j : Nat) (b : Cx), j ≤ l.length ∧ c = .int .i64 j ∧ acc = .complex .f32 b.1 b.2 ∧ SumsTo sk.2 l a j b ∧ Span 0 0 wA wr) (fun _ c _ => l.length - (intOf c).toNat)
        case atStart => exact ⟨0, a, Nat.zero_le _, rfl, rfl, rfl, SXA.out⟩
        case round =>
          clear na qa HBA
          obtain ⟨j, b, hj, rfl, rfl, hsum, hsp⟩ := hrel
          have HSUM := Lib.hid hsum
          have HSP := Lib.hid hsp
          have na := (BNA.out.keep hsp).cells
          have HBA := Lib.hid (HBQ.out.keep (SA.out.trans hsp))
          have qa := HBA.out.cells
          have FVA := Lib.hid (HFV.out.span (SA.out.trans hsp) (.inl (Nat.le_refl _)))
          have OSA := Lib.hid (HOS.out.span (SA.out.trans hsp) (.inl (Nat.le_refl _)))
          clear hsum hsp
          by_cases hlt : j < l.length
          · obtain ⟨f', hlj⟩ := getElem?_some (xs := l) (j := j) hlt
            have hfn := HLF.out f' (List.mem_of_getElem? hlj)
            obtain ⟨⟨o1, o2⟩, hof⟩ := getElem?_some (xs := sk.2) (j := f') (by rw [HOL.out]; exact hfn)
            obtain ⟨A6, c6, e6, -, hoc⟩ := id FVA.out
            injection e6 with e7 e8 e9
            subst e7
            obtain ⟨offF, rfl, -, -, -, hoc2, -⟩ := hoc (by omega)
            have fc : wr.cell? ⟨bF, offF + j, none⟩ = some (.int .i64 (f' : Int)) := hoc2 j _ hlj
            obtain ⟨A5, c5, e5, -, hpc⟩ := id OSA.out
            injection e5 with e10 e11 e12
            subst e10
            obtain ⟨offO, e13, -, -, -, hpc2, -⟩ := hpc (by rw [HOL.out]; omega)
            injection e13 with e13
            injection e13 with e14 e15
            subst e15
            have oc : wr.cell? ⟨O, f', none⟩ = some (.complex .f32 o1 o2) := by
              have h := hpc2 f' _ hof
              rwa [Nat.zero_add] at h
            have HLJ := Lib.hid hlt
            have HNX := Lib.hid (And.intro hlj hof)
            have j5 : (0 : Int) ≤ (j : Int) := by omega
            have j6 : (j : Int) < (l.length : Int) := by omega
            have j7 : (0 : Int) ≤ (f' : Int) := by omega
            have j8 : (f' : Int) < (n : Int) := by omega
            clear hlj hof hfn e8 e9 e11 e12 e14 hoc hoc2 hpc hpc2 hlt hj
            go_wp2_with fail
            go_roundw
            case rel => exact ⟨j + 1, (_, _), HLJ.out, by go_num, rfl, ⟨b, f', (o1, o2), HSUM.out, HNX.out.1, HNX.out.2, _, _, rfl⟩, HSP.out.drewN _⟩
            case measure => have := HLJ.out; simp [intOf]; omega
          · have hjl : j = l.length := by omega
            subst hjl
            obtain ⟨⟨o1, o2⟩, ho⟩ := getElem?_some (xs := sk.2) (j := i') (by rw [HOL.out]; omega)
            have SR := Lib.hid (SA.out.trans HSP.out)
            have HUA := Lib.hid ((HUS.out.has i' _ _ _ HUI.out HF.out HU.out).keep SR.out)
            have CALL := Lib.hid (HONE.out a b HBASE.out HSUM.out X g f wr.drew (fun b hb => Nat.lt_of_lt_of_le (HUS.out.lt b hb) SR.out.size) (HUA.out.keep (Span.refl 0 0 wr).drew))
            have cm := fun v W => Kd.meth_step kd v W
            have cc := fun args W => Kd.call_step kd args W
            have dA : wr.cell? ⟨Q, 3, none⟩ = some (.slice (some ⟨O, 0, none⟩) n n) ∧ wr.cell? ⟨Q, 4, none⟩ = some (.func (.func fb) #[] cap) ∧ wr.cell? ⟨SB, 0, none⟩ = some (.int .i64 (i' : Int)) ∧ wr.cell? ⟨SB, 2, none⟩ = some (.func (.method "loop.example/g03223/impl.step") #[.iface kd.t (.pointer (some ⟨g, 0, none⟩))] #[]) := ⟨qa 3, qa 4, na 0, na 2⟩
            have HO := Lib.hid ho
            clear ho hlt hj
            go_upto_region 12 with fail
            go_region_held3 (fun w' => w'.cell? ⟨Q, 3, none⟩ = some (.slice (some ⟨O, 0, none⟩) n n) ∧ w'.cell? ⟨Q, 4, none⟩ = some (.func (.func fb) #[] cap) ∧ w'.cell? ⟨SB, 0, none⟩ = some (.int .i64 (i' : Int)) ∧ w'.cell? ⟨SB, 2, none⟩ = some (.func (.method "loop.example/g03223/impl.step") #[.iface kd.t (.pointer (some ⟨g, 0, none⟩))] #[]))
              (first
                | exact dA
                | exact d5
                | exact d6
                | exact d7)
              ((first
                | (go_at_fn kd.fs; refine CALL.out.mono ?_; rintro _ w5 ⟨u', ⟨y1, y2⟩, rfl, hR5, hu5, k5⟩
                   have K5 : Hid (Keeps f wr w5) := ⟨k5.os, k5.tape, k5.output, k5.size, k5.block⟩
                   have HU5 := Lib.hid hu5
                   have HR5 := Lib.hid hR5
                   have hsub := HUS.out.sub i' f HF.out
                   have hSBf : SB ∉ f := fun hm => by have := HTOP.out SB (hsub SB hm).1; have := HCS.out.top.2.1; have := HSB.out; omega
                   have B5 := Lib.hid (HBA.out.keeps K5.out (fun hm => HNI.out.1 (hsub Q hm).1))
                   have N5 := Lib.hid ((BNA.out.keep HSP.out).keeps K5.out hSBf)
                   have d5 : w5.cell? ⟨Q, 3, none⟩ = some (.slice (some ⟨O, 0, none⟩) n n) ∧ w5.cell? ⟨Q, 4, none⟩ = some (.func (.func fb) #[] cap) ∧ w5.cell? ⟨SB, 0, none⟩ = some (.int .i64 (i' : Int)) ∧ w5.cell? ⟨SB, 2, none⟩ = some (.func (.method "loop.example/g03223/impl.step") #[.iface kd.t (.pointer (some ⟨g, 0, none⟩))] #[]) := ⟨B5.out.cells 3, B5.out.cells 4, N5.out.cells 0, N5.out.cells 2⟩
                   have S5 := Lib.hid (HSS.out _ _ HSK.out ((Keeps.span SR.out).trans (K5.out.weak (fun b hb => .inl (hsub b hb).1))))
                   have BE := Lib.hid (fun (w' : World) (h : S w') => HBC.out i' (y1, y2) w' HIN.out h)
                   clear hu5 k5 hsub hSBf hR5)
                | (go_at_fn fb; refine (BE.out _ S5.out).mono ?_; rintro _ w6 ⟨rfl, s6⟩
                   have S6 := Lib.hid s6
                   have hsub := HUS.out.sub i' f HF.out
                   have K6 := Lib.hid (K5.out.trans (Keeps.span s6))
                   have HU6 := Lib.hid (HU5.out.keep s6)
                   have B6 := B5.out.keep s6
                   have N6 := N5.out.keep s6
                   have d6 : w6.cell? ⟨Q, 3, none⟩ = some (.slice (some ⟨O, 0, none⟩) n n) ∧ w6.cell? ⟨Q, 4, none⟩ = some (.func (.func fb) #[] cap) ∧ w6.cell? ⟨SB, 0, none⟩ = some (.int .i64 (i' : Int)) ∧ w6.cell? ⟨SB, 2, none⟩ = some (.func (.method "loop.example/g03223/impl.step") #[.iface kd.t (.pointer (some ⟨g, 0, none⟩))] #[]) := ⟨B6.cells 3, B6.cells 4, N6.cells 0, N6.cells 2⟩
                   have hQO : O ≠ Q := fun e => HNI.out.1 (by rw [← e]; exact HNI.out.2.2.2)
                   have hSO : O ≠ SB := fun e => by have := HTOP.out O HNI.out.2.2.2; have := HCS.out.top.2.1; have := HSB.out; omega
                   have B7 := B6.other (a := ⟨O, i', none⟩) hQO (.complex .f32 (φ i' (y1, y2)).1 (φ i' (y1, y2)).2)
                   have N7 := N6.other (a := ⟨O, i', none⟩) hSO (.complex .f32 (φ i' (y1, y2)).1 (φ i' (y1, y2)).2)
                   have d7 : (w6.setCell ⟨O, i', none⟩ (.complex .f32 (φ i' (y1, y2)).1 (φ i' (y1, y2)).2)).cell? ⟨Q, 3, none⟩ = some (.slice (some ⟨O, 0, none⟩) n n) ∧ (w6.setCell ⟨O, i', none⟩ (.complex .f32 (φ i' (y1, y2)).1 (φ i' (y1, y2)).2)).cell? ⟨Q, 4, none⟩ = some (.func (.func fb) #[] cap) ∧ (w6.setCell ⟨O, i', none⟩ (.complex .f32 (φ i' (y1, y2)).1 (φ i' (y1, y2)).2)).cell? ⟨SB, 0, none⟩ = some (.int .i64 (i' : Int)) ∧ (w6.setCell ⟨O, i', none⟩ (.complex .f32 (φ i' (y1, y2)).1 (φ i' (y1, y2)).2)).cell? ⟨SB, 2, none⟩ = some (.func (.method "loop.example/g03223/impl.step") #[.iface kd.t (.pointer (some ⟨g, 0, none⟩))] #[]) := ⟨B7.cells 3, B7.cells 4, N7.cells 0, N7.cells 2⟩
                   have OS6 := (OSA.out.keeps K5.out (fun hm => (hsub O hm).2 rfl)).span s6 (.inl (Nat.le_refl _))
                   obtain ⟨A5, c5, e5, -, hpc⟩ := id OS6
                   injection e5 with e10 e11 e12
                   obtain ⟨offO, e13, -, -, -, hpc2, hpf⟩ := hpc (by have := HOL.out; have := HIN.out; omega)
                   rw [← e10] at e13
                   injection e13 with e13
                   injection e13 with e14 e15
                   subst e15
                   have oc5 : w6.cell? ⟨O, i', none⟩ = some (.complex .f32 o1 o2) := by
                     have h := hpc2 i' _ HO.out
                     rwa [Nat.zero_add] at h
                   have of5 : w6.frozen? ⟨O, i', none⟩ = false := by
                     have h := hpf rfl i' (by have := HOL.out; have := HIN.out; omega)
                     rwa [Nat.zero_add] at h
                   have NX := HCI.out.next SR.out (φ i' (y1, y2)) HIN.out HUI.out HF.out K6.out HU6.out
                   have NX1 := Lib.hid NX.1
                   have NX2 := Lib.hid NX.2
                   clear s6 hsub B6 N6 hQO hSO B7 N7 OS6 e10 e11 e12 e14 hpc hpc2 hpf NX)))
            all_goals
              go_wp2_with fail
              go_roundw
              case rel => exact ⟨k + 1, HLT.out, by go_num, ⟨_, HR5.out, NX1.out⟩, HKP.out.trans NX2.out⟩
              case measure => have := HLT.out; simp [intOf]; omega
    · have hkn : k = ss.length := by omega
      subst hkn
      have HC := Lib.hid (show ∃ s, J ss.length s ∧ CircB W X Q O n H bU bS C (.func (.func fb) #[] cap) us ss fs s wr from ⟨sk, hjk, hc⟩)
      have HKP := Lib.hid (HK1.out.trans hkp)
      clear hc hjk hkp hk hlt
      go_wp2_with fail
      exact bodyPost_end (v := .tuple #[]) (by simp [results, Tryz.results45, go_sem]) rfl ⟨rfl, HC.out, HKP.out⟩
end Go.Proofs.YtkjlodoppmipfaaGreat
