/- A circuit in memory: what stays, what a step changes. A circuit does a step. -/
import Derived.Test.YtkjlodoppmipfaaGreatJg19
import Derived.Laws.ComplexArith
import Derived.Outline
import Derived.Deep.RegionHeld3
import Derived.Deep.DeepCutAuto
namespace Go.Proofs.YtkjlodoppmipfaaGreat
section
open Go.RowKit

/-- What a unit is: the cells of its box; or, of a delay, the samples of its ring, and where the oldest is. -/
inductive Un where
  | box (cs : Array Value)
  | ring (xs : List Cx) (i : Nat)
/-- A unit in memory, on the blocks f; what it reads besides lies on none of the blocks X. -/
def HasU (X : List Nat) (u : Un) (x : Kd × Nat) (f : List Nat) (w : World) : Prop :=
  match u with
  | .box cs => x.1 ≠ .delay ∧ f = [x.2] ∧ Bx x.2 cs w
  | .ring xs i => x.1 = .delay ∧ f = [x.2] ∧ 0 < xs.length ∧ ∃ A p s, s ∉ X ∧ Bx x.2 #[.slice A xs.length p, .int .i64 (i : Int), .int .i64 (xs.length : Int)] w ∧ HasS cxV false s 0 w.heap.size w (.slice A xs.length p) xs
theorem HasU.keeps {X : List Nat} {u : Un} {x : Kd × Nat} {f V : List Nat} {w w' : World} (h : HasU X u x f w) (k : Keeps V w w') (hd : ∀ b ∈ f, b ∉ V) (hX : ∀ b ∈ V, b ∈ X) : HasU X u x f w' := by
  cases u with
  | box cs =>
    obtain ⟨h1, rfl, h3⟩ := h
    exact ⟨h1, rfl, h3.keeps k (hd _ (by simp))⟩
  | ring xs i =>
    obtain ⟨h1, rfl, h0, A, p, s, h2, h3, h4⟩ := h
    exact ⟨h1, rfl, h0, A, p, s, h2, h3.keeps k (hd _ (by simp)), (h4.keeps k (fun hm => h2 (hX _ hm))).weak (Nat.le_refl _) (.inl k.size)⟩
theorem HasU.keep {X : List Nat} {u : Un} {x : Kd × Nat} {f : List Nat} {w w' : World} (h : HasU X u x f w) (s : Span 0 0 w w') : HasU X u x f w' :=
  h.keeps (V := []) (Keeps.span s) (fun b _ hb => by simp at hb) (fun b hb => by simp at hb)
theorem HasU.own {X : List Nat} {u : Un} {x : Kd × Nat} {f : List Nat} {w : World} (h : HasU X u x f w) : f = [x.2] ∧ x.2 < w.heap.size := by
  cases u with
  | box cs => obtain ⟨_, h2, h3⟩ := h; exact ⟨h2, h3.1⟩
  | ring xs i => obtain ⟨_, h2, _, A, p, s, _, h3, _⟩ := h; exact ⟨h2, h3.1⟩
theorem HasU.more {X : List Nat} {u : Un} {x : Kd × Nat} {f : List Nat} {w : World} (h : HasU X u x f w) {G : Nat} (hG : w.heap.size ≤ G) : HasU (G :: X) u x f w := by
  cases u with
  | box cs => exact h
  | ring xs i =>
    obtain ⟨h1, rfl, h0, A, p, s, h2, h3, h4⟩ := h
    refine ⟨h1, rfl, h0, A, p, s, fun hm => ?_, h3, h4⟩
    rcases List.mem_cons.1 hm with rfl | hm
    · obtain ⟨_, _, _, _, hc⟩ := h4
      obtain ⟨_, _, _, _, h5, _⟩ := hc h0
      omega
    · exact h2 hm

def asG : Value := .func (.func 58) #[] #[]
/-- What of a circuit no step changes. -/
structure CircS (W : List Nat) (Q O n H bU bS : Nat) (C : Value) (us : List (Kd × Nat)) (ss : List (Nat × List Nat × (Kd × Nat))) (w : World) : Prop where
  nin : Q ∉ W ∧ bU ∉ W ∧ bS ∉ W ∧ O ∈ W
  sizes : n ≤ 16 ∧ ss.length ≤ 16 ∧ us.length = n
  box : ∃ (U V : Value) (sts : List (Nat × Value × (Kd × Nat))), Bx Q #[C, U, V, .slice (some ⟨O, 0, none⟩) n n, asG] w ∧ HasS uxV false bU 0 H w U us ∧ sts.length = ss.length ∧ HasC 3 stC bS 0 H w V sts ∧
    ∀ (j : Nat) (s : Nat × Value × (Kd × Nat)) (t : Nat × List Nat × (Kd × Nat)), sts[j]? = some s → ss[j]? = some t → s.1 = t.1 ∧ s.2.2 = t.2.2 ∧ ∃ bF, bF ∉ W ∧ bF < H ∧ HasS nV false bF 0 H w s.2.1 t.2.1
  top : (∀ b ∈ W, b < H) ∧ H ≤ w.heap.size ∧ Q < H ∧ bU < H ∧ bS < H
  places : ∀ (j : Nat) (t : Nat × List Nat × (Kd × Nat)), ss[j]? = some t → t.1 < n ∧ us[t.1]? = some t.2.2 ∧ t.2.1.length ≤ 40 ∧ ∀ f ∈ t.2.1, f < n
theorem CircS.keeps {W : List Nat} {Q O n H bU bS : Nat} {C : Value} {us : List (Kd × Nat)} {ss : List (Nat × List Nat × (Kd × Nat))} {w w' : World} (h : CircS W Q O n H bU bS C us ss w) (k : Keeps W w w') : CircS W Q O n H bU bS C us ss w' := by
  obtain ⟨h1, h2, ⟨U, V, sts, g1, g2, g3, g4, g5⟩, h3, h4⟩ := h
  refine ⟨h1, h2, ⟨U, V, sts, g1.keeps k h1.1, g2.keeps k h1.2.1, g3, g4.keeps k h1.2.2.1, fun j s t hs ht => ?_⟩, ⟨h3.1, Nat.le_trans h3.2.1 k.size, h3.2.2⟩, h4⟩
  obtain ⟨e1, e2, bF, e3, e5, e4⟩ := g5 j s t hs ht
  exact ⟨e1, e2, bF, e3, e5, e4.keeps k e3⟩

theorem CircS.other {W V : List Nat} {Q O n H bU bS : Nat} {C : Value} {us : List (Kd × Nat)} {ss : List (Nat × List Nat × (Kd × Nat))} {w w' : World} (h : CircS W Q O n H bU bS C us ss w) (k : Keeps V w w') (hV : ∀ b ∈ V, H ≤ b) : CircS W Q O n H bU bS C us ss w' := by
  obtain ⟨h1, h2, ⟨U, V', sts, g1, g2, g3, g4, g5⟩, h3, h4⟩ := h
  have out : ∀ b, b < H → b ∉ V := fun b hb hm => by have := hV b hm; omega
  refine ⟨h1, h2, ⟨U, V', sts, g1.keeps k (out _ h3.2.2.1), g2.keeps k (out _ h3.2.2.2.1), g3, g4.keeps k (out _ h3.2.2.2.2), fun j s t hs ht => ?_⟩, ⟨h3.1, Nat.le_trans h3.2.1 k.size, h3.2.2⟩, h4⟩
  obtain ⟨e1, e2, bF, e3, e5, e4⟩ := g5 j s t hs ht
  exact ⟨e1, e2, bF, e3, e5, e4.keeps k (out _ e5)⟩

/-- The units of a circuit. -/
structure UnS (W : List Nat) (O : Nat) (X : List Nat) (us : List (Kd × Nat)) (fs : List (List Nat)) (Us : List Un) (w : World) : Prop where
  len : fs.length = us.length ∧ Us.length = us.length
  has : ∀ (i : Nat) (x : Kd × Nat) (f : List Nat) (u : Un), us[i]? = some x → fs[i]? = some f → Us[i]? = some u → HasU X u x f w
  sub : ∀ (i : Nat) (f : List Nat), fs[i]? = some f → ∀ b ∈ f, b ∈ W ∧ b ≠ O
  dis : ∀ (i j : Nat) (f f' : List Nat), fs[i]? = some f → fs[j]? = some f' → ∀ b, b ∈ f → b ∈ f' → i = j
  wx : ∀ b ∈ W, b ∈ X
  lt : ∀ b ∈ X, b < w.heap.size
theorem UnS.far {W V : List Nat} {O : Nat} {X : List Nat} {us : List (Kd × Nat)} {fs : List (List Nat)} {Us : List Un} {w w' : World} (h : UnS W O X us fs Us w) (k : Keeps V w w') (hd : ∀ b ∈ V, b ∈ W → b = O) (hX : ∀ b ∈ V, b ∈ X) : UnS W O X us fs Us w' :=
  ⟨h.len, fun i x f u hx hf hu => (h.has i x f u hx hf hu).keeps k (fun b hb hm => by
    have := h.sub i f hf b hb
    exact this.2 (hd b hm this.1)) hX, h.sub, h.dis, h.wx, fun b hb => Nat.lt_of_lt_of_le (h.lt b hb) k.size⟩
theorem UnS.keep {W : List Nat} {O : Nat} {X : List Nat} {us : List (Kd × Nat)} {fs : List (List Nat)} {Us : List Un} {w w' : World} (h : UnS W O X us fs Us w) (s : Span 0 0 w w') : UnS W O X us fs Us w' :=
  h.far (V := []) (Keeps.span s) (fun b hb => by simp at hb) (fun b hb => by simp at hb)
theorem UnS.set {W : List Nat} {O : Nat} {X : List Nat} {us : List (Kd × Nat)} {fs : List (List Nat)} {Us : List Un} {w w' : World} (h : UnS W O X us fs Us w) {i : Nat} {x : Kd × Nat} {f : List Nat} {u' : Un} (hx : us[i]? = some x) (hf : fs[i]? = some f) (k : Keeps f w w') (hu : HasU X u' x f w') : UnS W O X us fs (Us.set i u') w' := by
  refine ⟨⟨h.len.1, by rw [List.length_set]; exact h.len.2⟩, fun j y g u hy hg hu2 => ?_, h.sub, h.dis, h.wx, fun b hb => Nat.lt_of_lt_of_le (h.lt b hb) k.size⟩
  have hl : i < Us.length := by have := (List.getElem?_eq_some_iff.1 hx).1; rw [h.len.2]; exact this
  by_cases hj : j = i
  · subst hj
    rw [List.getElem?_set_self hl] at hu2
    rw [hx] at hy; rw [hf] at hg
    cases hu2; cases hy; cases hg
    exact hu
  · rw [List.getElem?_set_ne (by omega)] at hu2
    exact (h.has j y g u hy hg hu2).keeps k (fun b hb hm => hj (h.dis j i g f hg hf b hb hm)) (fun b hb => h.wx b (h.sub i f hf b hb).1)
theorem UnS.more {W : List Nat} {O : Nat} {X : List Nat} {us : List (Kd × Nat)} {fs : List (List Nat)} {Us : List Un} {w w' : World} (h : UnS W O X us fs Us w) (s : Span 0 0 w w') {G : Nat} (hG : w.heap.size ≤ G) (hG2 : G < w'.heap.size) : UnS W O (G :: X) us fs Us w' :=
  ⟨h.len, fun i x f u hx hf hu => ((h.has i x f u hx hf hu).more hG).keep s, h.sub, h.dis, fun b hb => List.mem_cons_of_mem _ (h.wx b hb), fun b hb => by
    rcases List.mem_cons.1 hb with rfl | hb
    · exact hG2
    · exact Nat.lt_of_lt_of_le (h.lt b hb) s.size⟩

/-- A unit's step. -/
def StepsU (kd : Kd) (u : Un) (z : Cx) (u' : Un) (y : Cx) : Prop :=
  ∀ (X : List Nat) (g : Nat) (f : List Nat) (w : World), (∀ b ∈ X, b < w.heap.size) → HasU X u (kd, g) f w → Calls Tryz.prog kd.fs #[.pointer (some ⟨g, 0, none⟩), .complex .f32 z.1 z.2] w fun e w' => e = .returned (.complex .f32 y.1 y.2) ∧ HasU X u' (kd, g) f w' ∧ Keeps f w w'
/-- A sum of two samples in which no NaN comes. -/
def Adds (a b c : Cx) : Prop := cSumBits .add .f32 a.1 a.2 b.1 b.2 = some c
/-- A station's step: the input is the sum of what feeds it. -/
def One (inn : Int) (z : Cx) (t : Nat × List Nat × (Kd × Nat)) (s s' : List Un × List Cx) : Prop :=
  ∃ (parts : Nat → Cx) (u u' : Un) (y : Cx), (if (t.1 : Int) = inn then Adds (0, 0) z (parts 0) else parts 0 = (0, 0)) ∧
    (∀ j, j < t.2.1.length → ∃ f o, t.2.1[j]? = some f ∧ s.2[f]? = some o ∧ Adds (parts j) o (parts (j + 1))) ∧
    s.1[t.1]? = some u ∧ StepsU t.2.2.1 u (parts t.2.1.length) u' y ∧ s' = (s.1.set t.1 u', s.2.set t.1 y)

set_option maxRecDepth 100000 in
theorem asGiven_is (i : Int) (p q : Nat) (w : World) : Calls Tryz.prog 58 #[.int .i64 i, .complex .f32 p q] w fun e w' => e = .returned (.complex .f32 p q) ∧ w = w' := by
  go_enter Tryz.func58, Tryz.ntmps58
  go_wp2_with fail
  go_ret
  exact ⟨rfl, rfl⟩
end
section
open Go.RowKit

@[go_sem] theorem run_store_func {P : Program} (w : World) (a : Addr) (m : Mode) (fn : Fn) (first cap : Array Value) : (store a (.func fn first cap) m).run P w = stored P w a (.func fn first cap) m := run_store P w a _ m rfl
/-- A circuit, its units and its outputs. -/
def CircAt (W X : List Nat) (Q O n H bU bS : Nat) (C : Value) (us : List (Kd × Nat)) (ss : List (Nat × List Nat × (Kd × Nat))) (fs : List (List Nat)) (s : List Un × List Cx) (w : World) : Prop :=
  CircS W Q O n H bU bS C us ss w ∧ UnS W O X us fs s.1 w ∧ s.2.length = n ∧ HasS cxV true O O (O + 1) w (.slice (some ⟨O, 0, none⟩) n n) s.2
theorem CircAt.far {W X : List Nat} {Q O n H bU bS : Nat} {C : Value} {us : List (Kd × Nat)} {ss : List (Nat × List Nat × (Kd × Nat))} {fs : List (List Nat)} {s : List Un × List Cx} {w w' : World} (h : CircAt W X Q O n H bU bS C us ss fs s w) (k : Span 0 0 w w') : CircAt W X Q O n H bU bS C us ss fs s w' :=
  ⟨h.1.keeps (Keeps.span k), h.2.1.keep k, h.2.2.1, h.2.2.2.span k (.inl (Nat.le_refl _))⟩

theorem CircAt.other {W X V : List Nat} {Q O n H bU bS : Nat} {C : Value} {us : List (Kd × Nat)} {ss : List (Nat × List Nat × (Kd × Nat))} {fs : List (List Nat)} {s : List Un × List Cx} {w w' : World} (h : CircAt W X Q O n H bU bS C us ss fs s w) (k : Keeps V w w') (hV : ∀ b ∈ V, H ≤ b) (hX : ∀ b ∈ V, b ∈ X) : CircAt W X Q O n H bU bS C us ss fs s w' :=
  ⟨h.1.other k hV, h.2.1.far k (fun b hb hm => by have := hV b hb; have := h.1.top.1 b hm; omega) hX, h.2.2.1, h.2.2.2.keeps k (fun hm => by have := hV O hm; have := h.1.top.1 O h.1.nin.2.2.2; omega)⟩
theorem CircAt.more {W X : List Nat} {Q O n H bU bS : Nat} {C : Value} {us : List (Kd × Nat)} {ss : List (Nat × List Nat × (Kd × Nat))} {fs : List (List Nat)} {s : List Un × List Cx} {w w' : World} (h : CircAt W X Q O n H bU bS C us ss fs s w) (k : Span 0 0 w w') {G : Nat} (hG : w.heap.size ≤ G) (hG2 : G < w'.heap.size) : CircAt W (G :: X) Q O n H bU bS C us ss fs s w' :=
  ⟨h.1.keeps (Keeps.span k), h.2.1.more k hG hG2, h.2.2.1, h.2.2.2.span k (.inl (Nat.le_refl _))⟩
theorem CircAt.next {W X : List Nat} {Q O n H bU bS : Nat} {C : Value} {us : List (Kd × Nat)} {ss : List (Nat × List Nat × (Kd × Nat))} {fs : List (List Nat)} {s : List Un × List Cx} {wo wA w5 : World} (h : CircAt W X Q O n H bU bS C us ss fs s wo) (sA : Span 0 0 wo wA) {i : Nat} {x : Kd × Nat} {f : List Nat} {u' : Un} (y : Cx) (hi : i < n) (hx : us[i]? = some x) (hf : fs[i]? = some f) (k5 : Keeps f wA w5) (hu : HasU X u' x f w5) :
    CircAt W X Q O n H bU bS C us ss fs (s.1.set i u', s.2.set i y) (w5.setCell ⟨O, i, none⟩ (cxV y)) ∧ Keeps W wo (w5.setCell ⟨O, i, none⟩ (cxV y)) := by
  obtain ⟨h1, h2, h3, h4⟩ := h
  have hsub := h2.sub i f hf
  have kW : Keeps W wo (w5.setCell ⟨O, i, none⟩ (cxV y)) := ((Keeps.span sA).trans (k5.weak (fun b hb => .inl (hsub b hb).1))).setCell O i h1.nin.2.2.2 _
  have kO : Keeps [O] w5 (w5.setCell ⟨O, i, none⟩ (cxV y)) := (Keeps.refl [O] w5).setCell O i (by simp) _
  refine ⟨⟨h1.keeps kW, ?_, by simp only [List.length_set]; exact h3, ?_⟩, kW⟩
  · exact ((h2.keep sA).set hx hf k5 hu).far kO (fun b hb _ => by simpa using hb) (fun b hb => by
      have hb : b = O := by simpa using hb
      rw [hb]; exact h2.wx O h1.nin.2.2.2)
  · have h5 := ((h4.span sA (.inl (Nat.le_refl _))).keeps k5 (fun hm => (hsub O hm).2 rfl)).putB i y (by rw [h3]; exact hi)
    rwa [Nat.zero_add] at h5

set_option maxRecDepth 100000 in
set_option maxHeartbeats 8000000 in
theorem step_any {W X : List Nat} {Q O n H bU bS : Nat} {C : Value} {us : List (Kd × Nat)} {ss : List (Nat × List Nat × (Kd × Nat))} {fs : List (List Nat)} (inn : Int) (z : Cx) (tr : Nat → List Un × List Cx) (ht : ∀ (j : Nat) (t : Nat × List Nat × (Kd × Nat)), ss[j]? = some t → One inn z t (tr j) (tr (j + 1))) (w : World)
    (hrd : Calls Tryz.prog 61 #[.pointer (some ⟨Q, 0, none⟩)] w fun e w' => e = .returned (.tuple #[]) ∧ CircAt W X Q O n H bU bS C us ss fs (tr 0) w' ∧ Keeps W w w') :
    Calls Tryz.prog 45 #[.pointer (some ⟨Q, 0, none⟩), .int .i64 inn, .complex .f32 z.1 z.2] w fun e w' => e = .returned (.tuple #[]) ∧ CircAt W X Q O n H bU bS C us ss fs (tr ss.length) w' ∧ Keeps W w w' := by
  obtain ⟨z1, z2⟩ := z
  have HRD := Lib.hid hrd
  have HT := Lib.hid ht
  clear hrd ht
  go_enter Tryz.func45, Tryz.ntmps45
  go_wp2_with fail
  refine HRD.out.mono ?_
  rintro _ w1 ⟨rfl, hc1, k1⟩
  obtain ⟨⟨hnin, ⟨i16, i16s, hn⟩, ⟨U, V, sts, hq, hs, hsl, hst, hfe⟩, htop, hpl⟩, -⟩ := id hc1
  obtain ⟨AS, cS, rfl, -, -⟩ := id hst
  rw [hsl] at hst
  have cq := hq.cells
  have HQ1 := Lib.hid hq
  have HC1 := Lib.hid hc1
  have HST := Lib.hid hst
  have HFE := Lib.hid hfe
  have HPL := Lib.hid hpl
  have HNI := Lib.hid hnin
  have HTOP := Lib.hid htop.1
  have HK1 := Lib.hid k1
  have HSL := Lib.hid hsl
  have i3 : (n : Int) ≤ 16 := by omega
  have i4 : (ss.length : Int) ≤ 16 := by omega
  have HN16 := Lib.hid i16
  rw [hsl] at cq
  clear hq hst hfe hpl hnin hc1 k1 hs hsl hn i16 i16s htop
  go_wp2_with fail
  clear cq
  go_loopw [18] (fun c wr => ∃ k : Nat, k ≤ ss.length ∧ c = .int .i64 k ∧ CircAt W X Q O n H bU bS C us ss fs (tr k) wr ∧ Keeps W w1 wr) (fun c _ => ss.length - (intOf c).toNat)
  case atStart => exact ⟨0, Nat.zero_le _, rfl, HC1.out, Keeps.refl ..⟩
  case round =>
    clear HC1
    obtain ⟨k, hk, rfl, hc, hkp⟩ := hrel
    by_cases hlt : k < ss.length
    · obtain ⟨⟨i, l, kd, g⟩, hx⟩ := getElem?_some (xs := ss) (j := k) hlt
      obtain ⟨⟨i', v, x'⟩, hs⟩ := getElem?_some (xs := sts) (j := k) (by rw [HSL.out]; exact hlt)
      obtain ⟨e1, e2, bF, hbF, -, hv⟩ := HFE.out k _ _ hs hx
      simp only at e1 e2 hv
      subst e1; subst e2
      obtain ⟨hin, hui, hl40, hlf⟩ := HPL.out k _ hx
      simp only at hin hui hl40 hlf
      obtain ⟨Av, cv, rfl, -, -⟩ := id hv
      have hst := HST.out.keeps hkp HNI.out.2.2.1
      obtain ⟨offS, rfl⟩ := hst.addr (by rw [HSL.out]; omega)
      have c0 : wr.cell? ⟨bS, offS + k * 3, none⟩ = some (.int .i64 (i' : Int)) := hst.at_ hs (i := 0) rfl
      have c1 : wr.cell? ⟨bS, offS + k * 3 + 1, none⟩ = some (.slice Av l.length cv) := hst.at_ hs (i := 1) rfl
      have c2 : wr.cell? ⟨bS, offS + k * 3 + 2, none⟩ = some (.func (.method "loop.example/g03223/impl.step") #[.iface kd.t (.pointer (some ⟨g, 0, none⟩))] #[]) := hst.at_ hs (i := 2) rfl
      have hone := HT.out k _ hx
      obtain ⟨parts, u, u', ⟨y1, y2⟩, hbase, hadd, hu, hsu, htr⟩ := hone
      simp only at hbase hadd hu hsu htr
      obtain ⟨hcs, hus, hol, hos⟩ := hc
      obtain ⟨f, hf⟩ := getElem?_some (xs := fs) (j := i') (by rw [hus.len.1]; exact (List.getElem?_eq_some_iff.1 hui).1)
      have HCI : Hid (CircAt W X Q O n H bU bS C us ss fs (tr k) wr) := ⟨hcs, hus, hol, hos⟩
      have HIN := Lib.hid hin
      have HKP := Lib.hid hkp
      have HCS := Lib.hid hcs
      have HUS := Lib.hid hus
      have HOL := Lib.hid hol
      have HOS := Lib.hid hos
      have HF := Lib.hid hf
      have HUI := Lib.hid hui
      have HU := Lib.hid hu
      have HSU := Lib.hid hsu
      have HTR := Lib.hid htr
      have HB := Lib.hid hbase
      have HA := Lib.hid hadd
      have HLF := Lib.hid hlf
      have HFV := Lib.hid (hv.keeps hkp hbF)
      have HLT := Lib.hid hlt
      have HBQ := Lib.hid (HQ1.out.keeps hkp HNI.out.1)
      have i5 : (l.length : Int) ≤ 40 := by omega
      have j1 : (0 : Int) ≤ (k : Int) := by omega
      have j2 : (k : Int) < (ss.length : Int) := by omega
      have j3 : (0 : Int) ≤ (i' : Int) := by omega
      have j4 : (i' : Int) < (n : Int) := by omega
      clear hx hs hbF hv hst hui hlf hcs hus hol hos hf hu hsu htr hbase hadd hkp hk hlt hl40
      obtain ⟨wo, rfl⟩ : ∃ t, t = wr := ⟨_, rfl⟩
      go_upto_if 25 with fail
      have BNA := Lib.hid (Bx.new wo #[.int .i64 (i' : Int), .slice Av l.length cv, .func (.method "loop.example/g03223/impl.step") #[.iface kd.t (.pointer (some ⟨g, 0, none⟩))] #[]] 113)
      have SA := Lib.hid ((Span.refl 0 0 wo).alloc (.cells #[.int .i64 (i' : Int), .slice Av l.length cv, .func (.method "loop.example/g03223/impl.step") #[.iface kd.t (.pointer (some ⟨g, 0, none⟩))] #[]] 113))
      obtain ⟨SB, hSB⟩ : ∃ t, t = wo.heap.size := ⟨_, rfl⟩
      rw [← hSB] at BNA ⊢
      have HSB := Lib.hid hSB
      clear hSB c0 c1 c2
      generalize wo.alloc (.cells #[.int .i64 (i' : Int), .slice Av l.length cv, .func (.method "loop.example/g03223/impl.step") #[.iface kd.t (.pointer (some ⟨g, 0, none⟩))] #[]] 113) = wA at *
      go_cut [8] (fun s8 wx => s8 = .complex .f32 (parts 0).1 (parts 0).2 ∧ wA = wx)
      case first => as_aux_lemma =>
        by_cases hin : (i' : Int) = inn
        · have hbase := HB.out
          rw [if_pos hin] at hbase
          have had : ∀ (W : World) (t : TypeId), (binOp .add t (.complex .f32 0 0) (.complex .f32 z1 z2)).run Tryz.prog W = .ok (.complex .f32 (parts 0).1 (parts 0).2) W := fun W t => run_complex_sum W .add (.inl rfl) t .f32 _ _ _ _ _ _ hbase
          clear hbase
          go_wp2_with fail
          go_meet
          exact ⟨rfl, rfl⟩
        · have hbase := HB.out
          rw [if_neg hin] at hbase
          go_wp2_with fail
          go_meet
          rw [hbase]
          exact ⟨rfl, rfl⟩
      case rest =>
        obtain ⟨rfl, rfl⟩ := hcut
        have na := BNA.out.cells
        have HBA := Lib.hid (HBQ.out.keep SA.out)
        have qa := HBA.out.cells
        have FVA := Lib.hid (HFV.out.span SA.out (.inl (Nat.le_refl _)))
        have OSA := Lib.hid (HOS.out.span SA.out (.inl (Nat.le_refl _)))
        go_wp2_with fail
        go_loopw [8, 32] (fun acc c wr => ∃ j : Nat, j ≤ l.length ∧ c = .int .i64 j ∧ acc = .complex .f32 (parts j).1 (parts j).2 ∧ wA = wr) (fun _ c _ => l.length - (intOf c).toNat)
        case atStart => exact ⟨0, Nat.zero_le _, rfl, rfl, rfl⟩
        case round =>
          obtain ⟨j, hj, rfl, rfl, rfl⟩ := hrel
          by_cases hlt : j < l.length
          · obtain ⟨f', o, hlj, hof, had⟩ := HA.out j hlt
            obtain ⟨o1, o2⟩ := o
            have hfn := HLF.out f' (List.mem_of_getElem? hlj)
            obtain ⟨A6, c6, e6, -, hoc⟩ := id FVA.out
            injection e6 with e7 e8 e9
            subst e7
            obtain ⟨offF, rfl, -, -, -, hoc2, -⟩ := hoc (by omega)
            have fc : wA.cell? ⟨bF, offF + j, none⟩ = some (.int .i64 (f' : Int)) := hoc2 j _ hlj
            obtain ⟨A5, c5, e5, -, hpc⟩ := id OSA.out
            injection e5 with e10 e11 e12
            subst e10
            obtain ⟨offO, e13, -, -, -, hpc2, -⟩ := hpc (by rw [HOL.out]; omega)
            injection e13 with e13
            injection e13 with e14 e15
            subst e15
            have oc : wA.cell? ⟨O, f', none⟩ = some (.complex .f32 o1 o2) := by
              have h := hpc2 f' _ hof
              rwa [Nat.zero_add] at h
            have hadd : ∀ (W : World) (t : TypeId), (binOp .add t (.complex .f32 (parts j).1 (parts j).2) (.complex .f32 o1 o2)).run Tryz.prog W = .ok (.complex .f32 (parts (j + 1)).1 (parts (j + 1)).2) W := fun W t => run_complex_sum W .add (.inl rfl) t .f32 _ _ _ _ _ _ had
            have HLJ := Lib.hid hlt
            have j5 : (0 : Int) ≤ (j : Int) := by omega
            have j6 : (j : Int) < (l.length : Int) := by omega
            have j7 : (0 : Int) ≤ (f' : Int) := by omega
            have j8 : (f' : Int) < (n : Int) := by omega
            clear hlj hof had hfn e8 e9 e11 e12 e14 hoc hoc2 hpc hpc2 hlt hj
            go_wp2_with fail
            go_roundw
            case rel => exact ⟨j + 1, HLJ.out, by go_num, by first | rfl | trivial, by first | rfl | trivial⟩
            case measure => have := HLJ.out; simp [intOf]; omega
          · have hjl : j = l.length := by omega
            subst hjl
            obtain ⟨⟨o1, o2⟩, ho⟩ := getElem?_some (xs := (tr k).2) (j := i') (by rw [HOL.out]; omega)
            have HUA := Lib.hid ((HUS.out.has i' _ _ _ HUI.out HF.out HU.out).keep SA.out)
            have CALL := Lib.hid (HSU.out X g f wA.drew (fun b hb => Nat.lt_of_lt_of_le (HUS.out.lt b hb) SA.out.size) (HUA.out.keep (Span.refl 0 0 wA).drew))
            have cm := fun v W => Kd.meth_step kd v W
            have cc := fun args W => Kd.call_step kd args W
            have dA : wA.cell? ⟨Q, 3, none⟩ = some (.slice (some ⟨O, 0, none⟩) n n) ∧ wA.cell? ⟨Q, 4, none⟩ = some (.func (.func 58) #[] #[]) ∧ wA.cell? ⟨SB, 0, none⟩ = some (.int .i64 (i' : Int)) ∧ wA.cell? ⟨SB, 2, none⟩ = some (.func (.method "loop.example/g03223/impl.step") #[.iface kd.t (.pointer (some ⟨g, 0, none⟩))] #[]) := ⟨qa 3, qa 4, na 0, na 2⟩
            have HO := Lib.hid ho
            clear ho hlt hj
            go_upto_region 12 with fail
            go_region_held3 (fun w' => w'.cell? ⟨Q, 3, none⟩ = some (.slice (some ⟨O, 0, none⟩) n n) ∧ w'.cell? ⟨Q, 4, none⟩ = some (.func (.func 58) #[] #[]) ∧ w'.cell? ⟨SB, 0, none⟩ = some (.int .i64 (i' : Int)) ∧ w'.cell? ⟨SB, 2, none⟩ = some (.func (.method "loop.example/g03223/impl.step") #[.iface kd.t (.pointer (some ⟨g, 0, none⟩))] #[]))
              (first
                | exact dA
                | exact d5
                | exact d7)
              ((first
                | (go_at_fn kd.fs; refine CALL.out.mono ?_; rintro _ w5 ⟨rfl, hu5, k5⟩
                   have K5 : Hid (Keeps f wA w5) := ⟨k5.os, k5.tape, k5.output, k5.size, k5.block⟩
                   have HU5 := Lib.hid hu5
                   have hsub := HUS.out.sub i' f HF.out
                   have hSBf : SB ∉ f := fun hm => by have := HTOP.out SB (hsub SB hm).1; have := HCS.out.top.2.1; have := HSB.out; omega
                   have B5 := HBA.out.keeps K5.out (fun hm => HNI.out.1 (hsub Q hm).1)
                   have N5 := BNA.out.keeps K5.out hSBf
                   have d5 : w5.cell? ⟨Q, 3, none⟩ = some (.slice (some ⟨O, 0, none⟩) n n) ∧ w5.cell? ⟨Q, 4, none⟩ = some (.func (.func 58) #[] #[]) ∧ w5.cell? ⟨SB, 0, none⟩ = some (.int .i64 (i' : Int)) ∧ w5.cell? ⟨SB, 2, none⟩ = some (.func (.method "loop.example/g03223/impl.step") #[.iface kd.t (.pointer (some ⟨g, 0, none⟩))] #[]) := ⟨B5.cells 3, B5.cells 4, N5.cells 0, N5.cells 2⟩
                   have hQO : O ≠ Q := fun e => HNI.out.1 (by rw [← e]; exact HNI.out.2.2.2)
                   have hSO : O ≠ SB := fun e => by have := HTOP.out O HNI.out.2.2.2; have := HCS.out.top.2.1; have := HSB.out; omega
                   have B7 := B5.other (a := ⟨O, i', none⟩) hQO (.complex .f32 y1 y2)
                   have N7 := N5.other (a := ⟨O, i', none⟩) hSO (.complex .f32 y1 y2)
                   have d7 : (w5.setCell ⟨O, i', none⟩ (.complex .f32 y1 y2)).cell? ⟨Q, 3, none⟩ = some (.slice (some ⟨O, 0, none⟩) n n) ∧ (w5.setCell ⟨O, i', none⟩ (.complex .f32 y1 y2)).cell? ⟨Q, 4, none⟩ = some (.func (.func 58) #[] #[]) ∧ (w5.setCell ⟨O, i', none⟩ (.complex .f32 y1 y2)).cell? ⟨SB, 0, none⟩ = some (.int .i64 (i' : Int)) ∧ (w5.setCell ⟨O, i', none⟩ (.complex .f32 y1 y2)).cell? ⟨SB, 2, none⟩ = some (.func (.method "loop.example/g03223/impl.step") #[.iface kd.t (.pointer (some ⟨g, 0, none⟩))] #[]) := ⟨B7.cells 3, B7.cells 4, N7.cells 0, N7.cells 2⟩
                   have OS5 := OSA.out.keeps K5.out (fun hm => (hsub O hm).2 rfl)
                   obtain ⟨A5, c5, e5, -, hpc⟩ := id OS5
                   injection e5 with e10 e11 e12
                   obtain ⟨offO, e13, -, -, -, hpc2, hpf⟩ := hpc (by have := HOL.out; have := HIN.out; omega)
                   rw [← e10] at e13
                   injection e13 with e13
                   injection e13 with e14 e15
                   subst e15
                   have oc5 : w5.cell? ⟨O, i', none⟩ = some (.complex .f32 o1 o2) := by
                     have h := hpc2 i' _ HO.out
                     rwa [Nat.zero_add] at h
                   have of5 : w5.frozen? ⟨O, i', none⟩ = false := by
                     have h := hpf rfl i' (by have := HOL.out; have := HIN.out; omega)
                     rwa [Nat.zero_add] at h
                   have NX := HCI.out.next SA.out (y1, y2) HIN.out HUI.out HF.out K5.out HU5.out
                   have NX1 := Lib.hid NX.1
                   have NX2 := Lib.hid NX.2
                   clear hu5 k5 hsub hSBf B5 N5 hQO hSO B7 N7 OS5 e10 e11 e12 e14 hpc hpc2 hpf NX)
                | (go_at_call 58; refine (asGiven_is _ _ _ _).mono ?_; rintro _ _ ⟨rfl, rfl⟩)))
            all_goals
              go_wp2_with fail
              go_roundw
              case rel => exact ⟨k + 1, HLT.out, by go_num, by rw [HTR.out]; exact NX1.out, HKP.out.trans NX2.out⟩
              case measure => have := HLT.out; simp [intOf]; omega
    · have hkn : k = ss.length := by omega
      subst hkn
      have HC := Lib.hid hc
      have HKP := Lib.hid (HK1.out.trans hkp)
      clear hc hkp hk hlt
      go_wp2_with fail
      exact bodyPost_end (v := .tuple #[]) (by simp [results, Tryz.results45, go_sem]) rfl ⟨rfl, HC.out, HKP.out⟩
end
end Go.Proofs.YtkjlodoppmipfaaGreat
