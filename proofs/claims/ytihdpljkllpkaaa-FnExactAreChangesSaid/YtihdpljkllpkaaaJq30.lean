/- Lists of changes in memory: how they come in, how new ones are made. -/
import Derived.Test.YtihdpljkllpkaaaJq27
import Derived.Test.YtihdpljkllpkaaaJq29
import Derived.ProofKit
import Derived.OpenShut
import Derived.Outline
namespace Go.Proofs.Ytihdpljkllpkaaa
open Go.ChangeShapes Go.WideShapes Go.ChangeAt Go.RowKit

abbrev Ch := Int × ByteArray
/-- A change, as its cells. -/
def chC (c : Ch) : List Value := [.int .i64 c.1, .string c.2]
theorem ch_len (c : Ch) : (chC c).length = 2 := rfl
theorem HasC.change {b b' off lo hi n c j : Nat} {w : World} {L : List Ch} {x : Ch} (h : HasC 2 chC b lo hi w (.slice (some ⟨b', off, none⟩) n c) L) (hj : L[j]? = some x) : w.cell? ⟨b', off + j * 2, none⟩ = some (.int .i64 x.1) ∧ w.cell? ⟨b', off + j * 2 + 1, none⟩ = some (.string x.2) :=
  ⟨h.at_ hj (i := 0) rfl, h.at_ hj (i := 1) rfl⟩
def OkCh (c : Ch) : Prop := -9223372036854775808 ≤ c.1 ∧ c.1 ≤ 9223372036854775807 ∧ c.2.size ≤ maxLen

theorem cells_ch : Try.prog.cellsOf 31 = 2 := by kernel_rfl
theorem cells_chInt : Try.prog.cellsOf 3 = 1 := by kernel_rfl
theorem cells_chStr : Try.prog.cellsOf 9 = 1 := by kernel_rfl

section
variable {H : Type} {enc : TypeId × Value → H} {w : World} {base : Nat} {spare : Nat → Bool} {held : Bool}

theorem trod_ch {fuel : Nat} {cs : List Value} {x : DataW H × List MemPlace} (h : DataW.trod enc Try.prog w base spare held fuel 31 cs = some x) : ∃ c : Ch, cs = chC c ∧ OkCh c := by
  obtain ⟨y0, y1, n, rfl, hl, h0, h1⟩ := trod_struct2 Try.underlying31 h
  simp only [cells_ch, cells_chInt, cells_chStr] at hl h0 h1
  match cs, hl with
  | [c0, c1], _ =>
    simp only [List.drop_zero, List.drop_succ_cons, List.take_succ_cons, List.take_zero] at h0 h1
    obtain ⟨a, e1, _, hw⟩ := DataW.trod_int Try.underlying3 h0
    obtain ⟨s, e2, _, hs⟩ := DataW.trod_string Try.underlying9 h1
    injection e1 with e1
    injection e2 with e2
    subst e1; subst e2
    have := bounds_i64 hw
    exact ⟨(a, s), rfl, this.1, this.2, hs⟩

theorem add_none (b off k : Nat) : (⟨b, off, none⟩ : Addr).add k = ⟨b, off + k, none⟩ := by
  unfold Addr.add
  split
  · rename_i h; subst h; rfl
  · rfl

theorem open_changes {v : Value} {d : DataW H} {ps : List MemPlace} {b0 : Nat} {r : Reach} (hval : Value.okWide Try.prog w r b0 22 v) (h : DataW.Trod enc Try.prog w base spare held 22 v d ps) :
    ∃ (b : Nat) (L : List Ch), HasC 2 chC b 0 w.heap.size w v L ∧ (∀ x ∈ L, OkCh x) ∧ L.length ≤ maxLen := by
  obtain ⟨A, len, cap, rfl⟩ := okWide_slice Try.underlying22 hval
  obtain ⟨fuel, hf⟩ := h
  rcases DataW.trod_slice Try.underlying22 hf with ⟨h0, _⟩ | ⟨a, len', cap', elems, rest, n, _, hcs, _, hb, hl, hm, hlen, hel, _, _⟩
  · simp [Value.cells] at h0
    obtain ⟨rfl, rfl, rfl⟩ := h0
    exact ⟨0, [], HasC.empty _ _ _ _ _ _ _ _, fun x hx => by simp at hx, Nat.zero_le _⟩
  · simp [Value.cells] at hcs
    obtain ⟨rfl, rfl, rfl⟩ := hcs
    rw [cells_ch] at hel
    have each : ∀ i, i < len → ∃ x : Ch, OkCh x ∧ w.cell? ((a.add (i * 2)).add 0) = some (.int .i64 x.1) ∧ w.cell? ((a.add (i * 2)).add 1) = some (.string x.2) := by
      intro i hi
      have h1 := hel i hi
      have h2 : elems[i]? = some (elems[i]'(by omega)) := List.getElem?_eq_getElem (by omega)
      rw [h2, Option.bind_eq_some_iff] at h1
      obtain ⟨cs', h3, h4⟩ := h1
      obtain ⟨x, rfl, hx⟩ := trod_ch h4
      obtain ⟨_, _, h5⟩ := World.cells?_some h3
      exact ⟨x, hx, h5 0 (by omega), h5 1 (by omega)⟩
    by_cases hp : 0 < len
    · obtain ⟨b, off, spot⟩ := a
      obtain ⟨x0, _, h0, _⟩ := each 0 hp
      have hs : spot = none := by
        cases spot with
        | none => rfl
        | some s =>
          simp only [Addr.add, Nat.zero_mul, if_true, World.cell?] at h0
          split at h0 <;> simp at h0
      subst hs
      have each' : ∀ i, i < len → ∃ x : Ch, OkCh x ∧ w.cell? ⟨b, off + i * 2, none⟩ = some (.int .i64 x.1) ∧ w.cell? ⟨b, off + i * 2 + 1, none⟩ = some (.string x.2) := fun i hi => by
        obtain ⟨x, g1, g2, g3⟩ := each i hi
        simp only [add_none, Nat.add_zero] at g2 g3
        exact ⟨x, g1, g2, g3⟩
      obtain ⟨L, hL, hx⟩ := list_of ((0, ByteArray.empty) : Ch) each'
      have hget : ∀ (j : Nat) (x : Ch), L[j]? = some x → OkCh x ∧ w.cell? ⟨b, off + j * 2, none⟩ = some (.int .i64 x.1) ∧ w.cell? ⟨b, off + j * 2 + 1, none⟩ = some (.string x.2) := fun j x hj => by
        have hlt := (List.getElem?_eq_some_iff.1 hj).1
        have := hx j (by omega)
        rw [List.getD_eq_getElem?_getD, hj] at this
        exact this
      obtain ⟨_, _, hb0, _⟩ := each' 0 hp
      have hbl : b < w.heap.size := World.block_lt_of_cell? w ⟨b, off + 0 * 2, none⟩ hb0
      refine ⟨b, L, ⟨some ⟨b, off, none⟩, cap, by rw [hL], by omega, fun _ => ⟨off, rfl, Nat.zero_le _, hbl, hbl, fun j x i u hj hi => ?_⟩⟩, fun x hx => ?_, by omega⟩
      · obtain ⟨_, g1, g2⟩ := hget j x hj
        match i, hi with
        | 0, hi => rw [← hi]; exact g1
        | 1, hi => rw [← hi]; exact g2
      · obtain ⟨j, hj⟩ := List.getElem?_of_mem hx
        exact (hget j x hj).1
    · have h0 : len = 0 := by omega
      subst h0
      exact ⟨0, [], HasC.empty _ _ _ _ _ _ _ _, fun x hx => by simp at hx, Nat.zero_le _⟩
end

/-! New rows. -/
theorem ch_cellsSet {lo hi b : Nat} {a : World} (hb : lo ≤ b ∧ b < hi) : ∀ (vs : List Value) (o : Nat) (w : World), Span lo hi a w → Span lo hi a (w.setCells b o vs)
  | [], _, _, h => h
  | v :: vs, o, w, h => ch_cellsSet hb vs (o + 1) (w.setCell ⟨b, o, none⟩ v) (h.setCell (p := ⟨b, o, none⟩) (.inl hb) v)
theorem ch_frozen (b : Nat) (p : Addr) : ∀ (vs : List Value) (o : Nat) (w : World), (w.setCells b o vs).frozen? p = w.frozen? p
  | [], _, _ => rfl
  | v :: vs, o, w => (ch_frozen b p vs (o + 1) (w.setCell ⟨b, o, none⟩ v)).trans (World.frozen?_setCell ..)
theorem ch_size (b : Nat) : ∀ (vs : List Value) (o : Nat) (w : World), (w.setCells b o vs).heap.size = w.heap.size
  | [], _, _ => rfl
  | v :: vs, o, w => (ch_size b vs (o + 1) (w.setCell ⟨b, o, none⟩ v)).trans (by simp [World.setCell])

def zCh : Array Value := #[.int .i64 0, .string ⟨#[]⟩]
theorem info_ch : (Try.prog.info? 32).map (fun i => (i.zero, i.size, i.bytes)) = some (some (.agg #[.int .i64 0, .string ⟨#[]⟩]), 2, 24) := by kernel_rfl
theorem run_make_chs (w : World) (n : Nat) (hb : n ≤ 1048576) :
    (Instr.makeSlice 25 (.int .i64 (n : Int)) (.int .i64 (n : Int))).run Try.prog w = .ok (.slice (some ⟨w.heap.size, 0, none⟩) n n) (w.alloc (.cells (madeCells zCh (n * 2)) 32)) := by
  obtain ⟨i, h1, h2, h3, h4⟩ := info_parts info_ch
  have := run_make (P := Try.prog) w 25 32 i _ Try.underlying25 h1 h2 .i64 .i64 n n (by omega) (by omega) (by rw [h4]; omega) (by omega)
  rw [this, h3]
  simp only [Int.toNat_natCast]
  rfl

/-- A new row of n changes, the first of them laid. -/
def MadeCh (b n : Nat) (w : World) (Ns : List Ch) : Prop :=
  b < w.heap.size ∧ (∀ p, p < n * 2 → ∃ u, w.cell? ⟨b, p, none⟩ = some u) ∧ (∀ p, w.frozen? ⟨b, p, none⟩ = false) ∧ ∀ (i : Nat) (x : Ch) (o : Nat) (u : Value), Ns[i]? = some x → (chC x)[o]? = some u → w.cell? ⟨b, i * 2 + o, none⟩ = some u
theorem MadeCh.new (w : World) (n : Nat) : MadeCh w.heap.size n (w.alloc (.cells (madeCells zCh (n * 2)) 32)) [] := by
  refine ⟨by simp, fun p hp => ?_, fun p => World.frozen?_alloc_new .., fun i x o u h => by simp at h⟩
  rw [World.cell?_alloc_new]
  have hs : (madeCells zCh (n * 2)).size = n * 2 := by simp [madeCells]
  exact ⟨_, Array.getElem?_eq_getElem (by rw [hs]; exact hp)⟩
theorem MadeCh.span {b n lo hi : Nat} {w w' : World} {Ns : List Ch} (h : MadeCh b n w Ns) (s : Span lo hi w w') (hd : hi ≤ lo ∨ b < lo ∨ hi ≤ b) : MadeCh b n w' Ns := by
  obtain ⟨h0, h1, h2, h3⟩ := h
  have e := s.block b h0 (by omega)
  refine ⟨Nat.lt_of_lt_of_le h0 s.size, fun p hp => ?_, fun p => ?_, fun i x o u hi hu => ?_⟩
  · obtain ⟨u, hu⟩ := h1 p hp
    exact ⟨u, (World.cell?_of_block (w := w) (a := ⟨b, p, none⟩) e).trans hu⟩
  · exact (World.frozen?_of_block (w := w) (a := ⟨b, p, none⟩) e).trans (h2 p)
  · exact (World.cell?_of_block (w := w) (a := ⟨b, i * 2 + o, none⟩) e).trans (h3 i x o u hi hu)
theorem MadeCh.put {b n : Nat} {w : World} {Ns : List Ch} (h : MadeCh b n w Ns) (x : Ch) (hk : Ns.length < n) : MadeCh b n (w.setCells b (Ns.length * 2) (chC x)) (Ns ++ [x]) := by
  obtain ⟨h0, h1, h2, h3⟩ := h
  have hex : ∀ j, j < (chC x).length → (w.cell? ⟨b, Ns.length * 2 + j, none⟩).isSome = true := fun j hj => by
    rw [ch_len] at hj
    obtain ⟨u, hu⟩ := h1 (Ns.length * 2 + j) (by omega)
    rw [hu]; rfl
  have hout : ∀ p, p < Ns.length * 2 ∨ Ns.length * 2 + 2 ≤ p → (w.setCells b (Ns.length * 2) (chC x)).cell? ⟨b, p, none⟩ = w.cell? ⟨b, p, none⟩ := fun p hp =>
    World.cell?_setCells_out b (chC x) _ w ⟨b, p, none⟩ (fun _ _ => by rw [ch_len]; exact hp)
  have hin : ∀ o u, (chC x)[o]? = some u → (w.setCells b (Ns.length * 2) (chC x)).cell? ⟨b, Ns.length * 2 + o, none⟩ = some u := fun o u hu => by
    obtain ⟨ho, hv⟩ := List.getElem?_eq_some_iff.1 hu
    rw [World.cell?_setCells_in b (chC x) _ w hex o ho, hv]
  refine ⟨by rw [ch_size]; exact h0, fun p hp => ?_, fun p => by rw [ch_frozen]; exact h2 p, fun i y o u hi hu => ?_⟩
  · by_cases hc : p < Ns.length * 2 ∨ Ns.length * 2 + 2 ≤ p
    · rw [hout p hc]; exact h1 p hp
    · obtain ⟨v, hv⟩ := getElem?_some (xs := chC x) (j := p - Ns.length * 2) (by rw [ch_len]; omega)
      refine ⟨v, ?_⟩
      have := hin _ v hv
      rw [show Ns.length * 2 + (p - Ns.length * 2) = p by omega] at this
      exact this
  · have ho : o < 2 := by have := (List.getElem?_eq_some_iff.1 hu).1; rw [ch_len] at this; exact this
    rcases Nat.lt_trichotomy i Ns.length with hlt | rfl | hgt
    · rw [List.getElem?_append_left hlt] at hi
      rw [hout _ (.inl (by omega))]
      exact h3 i y o u hi hu
    · rw [List.getElem?_append_right (Nat.le_refl _), Nat.sub_self] at hi
      simp at hi; subst hi
      exact hin o u hu
    · rw [List.getElem?_eq_none (by simp; omega)] at hi; cases hi
theorem MadeCh.hasC {b n : Nat} {w : World} {Ns : List Ch} (h : MadeCh b n w Ns) (hn : Ns.length = n) : HasC 2 chC b b (b + 1) w (.slice (some ⟨b, 0, none⟩) n n) Ns :=
  ⟨_, n, by rw [hn], by omega, fun _ => ⟨0, rfl, Nat.le_refl _, Nat.lt_succ_self _, h.1, fun j x i u hj hi => by rw [Nat.zero_add]; exact h.2.2.2 j x i u hj hi⟩⟩
end Go.Proofs.Ytihdpljkllpkaaa
