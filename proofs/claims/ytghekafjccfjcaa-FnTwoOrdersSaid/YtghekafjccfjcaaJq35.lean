/- A circuit in memory: what stays, what a step changes. -/
import Derived.Test.YtghekafjccfjcaaJq34
import Derived.Laws.ComplexArith
import Derived.Outline
namespace Go.Proofs.Ytghekafjccfjcaa
open Go.RowKit

/-- What a unit is: the cells of its box; or, of a delay, the samples of its ring, and where the oldest is. -/
inductive Un where
  | box (cs : Array Value)
  | ring (xs : List Cx) (i : Nat)
/-- A unit in memory, on the blocks f. -/
def HasU (H : Nat) (u : Un) (x : Kd × Nat) (f : List Nat) (w : World) : Prop :=
  match u with
  | .box cs => x.1 ≠ .delay ∧ f = [x.2] ∧ Bx x.2 cs w
  | .ring xs i => x.1 = .delay ∧ ∃ s off p, f = [x.2, s] ∧ x.2 ≠ s ∧ Bx x.2 #[.slice (some ⟨s, off, none⟩) xs.length p, .int .i64 (i : Int), .int .i64 (xs.length : Int)] w ∧ HasS cxV true s 0 H w (.slice (some ⟨s, off, none⟩) xs.length p) xs
theorem HasU.keeps {H : Nat} {u : Un} {x : Kd × Nat} {f W : List Nat} {w w' : World} (h : HasU H u x f w) (k : Keeps W w w') (hd : ∀ b ∈ f, b ∉ W) : HasU H u x f w' := by
  cases u with
  | box cs =>
    obtain ⟨h1, rfl, h3⟩ := h
    exact ⟨h1, rfl, h3.keeps k (hd _ (by simp))⟩
  | ring xs i =>
    obtain ⟨h1, s, off, p, rfl, h2, h3, h4⟩ := h
    exact ⟨h1, s, off, p, rfl, h2, h3.keeps k (hd _ (by simp)), h4.keeps k (hd _ (by simp))⟩
theorem HasU.own {H : Nat} {u : Un} {x : Kd × Nat} {f : List Nat} {w : World} (h : HasU H u x f w) : x.2 ∈ f ∧ x.2 < w.heap.size := by
  cases u with
  | box cs => obtain ⟨_, rfl, h3⟩ := h; exact ⟨by simp, h3.1⟩
  | ring xs i => obtain ⟨_, s, off, p, rfl, _, h3, _⟩ := h; exact ⟨by simp, h3.1⟩

def asG : Value := .func (.func 20) #[] #[]
/-- What of a circuit no step changes. -/
structure CircS (W : List Nat) (Q O n H bU bS : Nat) (C : Value) (us : List (Kd × Nat)) (ss : List (Nat × List Nat × (Kd × Nat))) (w : World) : Prop where
  nin : Q ∉ W ∧ bU ∉ W ∧ bS ∉ W ∧ O ∈ W
  sizes : n ≤ 16 ∧ ss.length ≤ 16 ∧ us.length = n
  box : ∃ (U V : Value) (sts : List (Nat × Value × (Kd × Nat))), Bx Q #[C, U, V, .slice (some ⟨O, 0, none⟩) n n, asG] w ∧ HasS uxV false bU 0 H w U us ∧ sts.length = ss.length ∧ HasC 3 stC bS 0 H w V sts ∧
    ∀ (j : Nat) (s : Nat × Value × (Kd × Nat)) (t : Nat × List Nat × (Kd × Nat)), sts[j]? = some s → ss[j]? = some t → s.1 = t.1 ∧ s.2.2 = t.2.2 ∧ ∃ bF, bF ∉ W ∧ bF < H ∧ HasS nV false bF 0 H w s.2.1 t.2.1
  top : (∀ b ∈ W, b < H) ∧ H ≤ w.heap.size ∧ Q < H ∧ bU < H ∧ bS < H
  places : ∀ (j : Nat) (t : Nat × List Nat × (Kd × Nat)), ss[j]? = some t → t.1 < n ∧ us[t.1]? = some t.2.2 ∧ t.2.1.length ≤ 40 ∧ ∀ f ∈ t.2.1, f < n
theorem CircS.keeps {W : List Nat} {Q O n H bU bS : Nat} {C : Value} {us : List (Kd × Nat)} {ss : List (Nat × List Nat × (Kd × Nat))} {w w' : World} (h : CircS W Q O n H bU bS C us ss w) (k : Keeps W w w') : CircS W Q O n H bU bS C us ss w' := by
  obtain ⟨h1, h2, ⟨U, V, sts, g1, g2, g3, g4, g5⟩, h3, h4⟩ := h
  refine ⟨h1, h2, ⟨U, V, sts, g1.keeps k h1.1, g2.keeps k h1.2.1, g3, g4.keeps k h1.2.2.1, fun j s t hs ht => ?_⟩, ⟨h3.1, Nat.le_trans h3.2.1 k.size, h3.2.2⟩, h4⟩
  obtain ⟨e1, e2, bF, e3, e5, e4⟩ := g5 j s t hs ht
  exact ⟨e1, e2, bF, e3, e5, e4.keeps k e3⟩

theorem CircS.other {W V : List Nat} {Q O n H bU bS : Nat} {C : Value} {us : List (Kd × Nat)} {ss : List (Nat × List Nat × (Kd × Nat))} {w w' : World} (h : CircS W Q O n H bU bS C us ss w) (k : Keeps V w w') (hV : ∀ b ∈ V, H ≤ b) : CircS W Q O n H bU bS C us ss w' := by
  obtain ⟨h1, h2, ⟨U, V', sts, g1, g2, g3, g4, g5⟩, h3, h4⟩ := h
  have out : ∀ b, b < H → b ∉ V := fun b hb hm => by have := hV b hm; omega
  refine ⟨h1, h2, ⟨U, V', sts, g1.keeps k (out _ h3.2.2.1), g2.keeps k (out _ h3.2.2.2.1), g3, g4.keeps k (out _ h3.2.2.2.2), fun j s t hs ht => ?_⟩, ⟨h3.1, Nat.le_trans h3.2.1 k.size, h3.2.2⟩, h4⟩
  obtain ⟨e1, e2, bF, e3, e5, e4⟩ := g5 j s t hs ht
  exact ⟨e1, e2, bF, e3, e5, e4.keeps k (out _ e5)⟩

/-- The units of a circuit. -/
structure UnS (W : List Nat) (O H : Nat) (us : List (Kd × Nat)) (fs : List (List Nat)) (Us : List Un) (w : World) : Prop where
  len : fs.length = us.length ∧ Us.length = us.length
  has : ∀ (i : Nat) (x : Kd × Nat) (f : List Nat) (u : Un), us[i]? = some x → fs[i]? = some f → Us[i]? = some u → HasU H u x f w
  sub : ∀ (i : Nat) (f : List Nat), fs[i]? = some f → ∀ b ∈ f, b ∈ W ∧ b ≠ O
  dis : ∀ (i j : Nat) (f f' : List Nat), fs[i]? = some f → fs[j]? = some f' → ∀ b, b ∈ f → b ∈ f' → i = j
theorem UnS.far {W V : List Nat} {O H : Nat} {us : List (Kd × Nat)} {fs : List (List Nat)} {Us : List Un} {w w' : World} (h : UnS W O H us fs Us w) (k : Keeps V w w') (hd : ∀ b ∈ V, b ∈ W → b = O) : UnS W O H us fs Us w' :=
  ⟨h.len, fun i x f u hx hf hu => (h.has i x f u hx hf hu).keeps k (fun b hb hm => by
    have := h.sub i f hf b hb
    exact this.2 (hd b hm this.1)), h.sub, h.dis⟩
theorem UnS.set {W : List Nat} {O H : Nat} {us : List (Kd × Nat)} {fs : List (List Nat)} {Us : List Un} {w w' : World} (h : UnS W O H us fs Us w) {i : Nat} {x : Kd × Nat} {f : List Nat} {u' : Un} (hx : us[i]? = some x) (hf : fs[i]? = some f) (k : Keeps f w w') (hu : HasU H u' x f w') : UnS W O H us fs (Us.set i u') w' := by
  refine ⟨⟨h.len.1, by rw [List.length_set]; exact h.len.2⟩, fun j y g u hy hg hu2 => ?_, h.sub, h.dis⟩
  have hl : i < Us.length := by have := (List.getElem?_eq_some_iff.1 hx).1; rw [h.len.2]; exact this
  by_cases hj : j = i
  · subst hj
    rw [List.getElem?_set_self hl] at hu2
    rw [hx] at hy; rw [hf] at hg
    cases hu2; cases hy; cases hg
    exact hu
  · rw [List.getElem?_set_ne (by omega)] at hu2
    exact (h.has j y g u hy hg hu2).keeps k (fun b hb hm => hj (h.dis j i g f hg hf b hb hm))

/-- A unit's step. -/
def StepsU (kd : Kd) (u : Un) (z : Cx) (u' : Un) (y : Cx) : Prop :=
  ∀ (H g : Nat) (f : List Nat) (w : World), HasU H u (kd, g) f w → Calls Try.prog kd.fs #[.pointer (some ⟨g, 0, none⟩), .complex .f32 z.1 z.2] w fun e w' => e = .returned (.complex .f32 y.1 y.2) ∧ HasU H u' (kd, g) f w' ∧ Keeps f w w'
/-- A sum of two samples in which no NaN comes. -/
def Adds (a b c : Cx) : Prop := cSumBits .add .f32 a.1 a.2 b.1 b.2 = some c
/-- A station's step: the input is the sum of what feeds it. -/
def One (inn : Int) (z : Cx) (t : Nat × List Nat × (Kd × Nat)) (s s' : List Un × List Cx) : Prop :=
  ∃ (parts : Nat → Cx) (u u' : Un) (y : Cx), (if (t.1 : Int) = inn then Adds (0, 0) z (parts 0) else parts 0 = (0, 0)) ∧
    (∀ j, j < t.2.1.length → ∃ f o, t.2.1[j]? = some f ∧ s.2[f]? = some o ∧ Adds (parts j) o (parts (j + 1))) ∧
    s.1[t.1]? = some u ∧ StepsU t.2.2.1 u (parts t.2.1.length) u' y ∧ s' = (s.1.set t.1 u', s.2.set t.1 y)

set_option maxRecDepth 100000 in
set_option maxHeartbeats 4000000 in
theorem readDelays_noneC {W : List Nat} {Q O n H bU bS : Nat} {C : Value} {us : List (Kd × Nat)} {ss : List (Nat × List Nat × (Kd × Nat))} {w : World} (h : CircS W Q O n H bU bS C us ss w) (hd : ∀ x ∈ us, x.1 ≠ Kd.delay) :
    Calls Try.prog 28 #[.pointer (some ⟨Q, 0, none⟩)] w fun e w' => e = .returned (.tuple #[]) ∧ w = w' := by
  obtain ⟨-, ⟨i3, -, hn⟩, ⟨U, V, sts, hq, hs, -, -, -⟩, -, -⟩ := h
  obtain ⟨AU, cU, rfl, -, hcu⟩ := id hs
  have HD := Lib.hid hd
  have HN := Lib.hid hn
  have cq := hq.cells
  rw [hn] at cq
  have i3 : (n : Int) ≤ 16 := by omega
  have HCU := Lib.hid hcu
  rw [HN.out] at HCU
  clear hd hn hs hq hcu
  go_enter Try.func28, Try.ntmps28
  go_wp2_with fail
  go_loopw [11] (fun q wr => ∃ k : Nat, k ≤ n ∧ q = .int .i64 k ∧ w = wr) (fun q _ => n - (intOf q).toNat)
  case atStart => exact ⟨0, Nat.zero_le _, rfl, rfl⟩
  case round =>
    obtain ⟨k, hk, rfl, rfl⟩ := hrel
    by_cases hlt : k < n
    · obtain ⟨⟨t, g⟩, hx⟩ := getElem?_some (xs := us) (j := k) (by rw [HN.out]; exact hlt)
      have hnd := HD.out _ (List.mem_of_getElem? hx)
      obtain ⟨off, rfl, -, -, -, hcell, -⟩ := HCU.out (by omega)
      have hck : w.cell? ⟨bU, off + k, none⟩ = some (.iface t.t (.pointer (some ⟨g, 0, none⟩))) := hcell k _ hx
      have has : ∀ (v : Value) (W : World), (Instr.typeAssert (.iface t.t v) 66 90 true).run Try.prog W = .ok (.tuple #[.pointer none, .bool false]) W := fun v W => as_other t hnd v W
      have j1 : (0 : Int) ≤ (k : Int) := by omega
      have j2 : (k : Int) < (n : Int) := by omega
      clear hx hcell hnd
      go_wp2_with fail
      go_roundw
      case rel => exact ⟨k + 1, by omega, by go_num, by first | rfl | trivial⟩
      case measure => simp [intOf]; omega
    · go_wp2_with fail
      exact bodyPost_end (v := .tuple #[]) (by simp [results, Try.results28, go_sem]) rfl ⟨rfl, rfl⟩

set_option maxRecDepth 100000 in
theorem asGiven_is (i : Int) (p q : Nat) (w : World) : Calls Try.prog 20 #[.int .i64 i, .complex .f32 p q] w fun e w' => e = .returned (.complex .f32 p q) ∧ w = w' := by
  go_enter Try.func20, Try.ntmps20
  go_wp2_with fail
  go_ret
  exact ⟨rfl, rfl⟩
end Go.Proofs.Ytghekafjccfjcaa
