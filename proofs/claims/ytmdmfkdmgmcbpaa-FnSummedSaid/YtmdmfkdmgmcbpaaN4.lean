/- Deciding and encoding. -/
import Derived.Test.YtmdmfkdmgmcbpaaN3
namespace Go.Proofs.Ytmdmfkdmgmcbpaa
open Go.RowKit

/-- A list of numbers in new memory, and true. -/
def GivesL {α : Type} (val : α → Value) (xs : List α) (w : World) (e : Ending) (w' : World) : Prop :=
  ∃ v b, e = .returned (.tuple #[v, .bool true]) ∧ HasS val true b w.heap.size w'.heap.size w' v xs ∧ Span 0 0 w w'

theorem Filled.setOther {w : World} {g : Nat} {e : TypeId} {n k : Nat} {f : Nat → Value} (h : Filled w g e n k f) (n' : Nat) : Filled (w.drewN n') g e n k f := h

/-- How each sample is decided. -/
def Decided (t : Tab) (zs : List Cx) (ls : List Int) : Prop :=
  ls.length = zs.length ∧ ∀ (j : Nat) (z : Cx), zs[j]? = some z → ∃ (i m : Nat) (l : Int), nearC t.1 z = some (i, m) ∧ t.2[i]? = some l ∧ ls[j]? = some l

set_option maxRecDepth 100000 in
set_option maxHeartbeats 2000000 in
theorem decidePoints_any (t : Tab) (zs : List Cx) (ls : List Int) (o o' : Bool) (b lo hi lo' hi' : Nat) (v u : Value) (w : World) (hx : HasTab o lo hi w v t) (ht : Valid t) (hu : HasS cxV o' b lo' hi' w u zs) (hz : zs.length ≤ 300) (hd : Decided t zs ls) :
    Calls Try.prog 34 #[v, u] w (GivesL intV ls w) := by
  have HX := Lib.hid hx
  have HT := Lib.hid ht
  obtain ⟨b1, b2, vP, vL, rfl, hne, g1, g2⟩ := hx
  have G1 := Lib.hid g1
  obtain ⟨AP, cP, rfl, _, _⟩ := g1
  obtain ⟨AL, cL, rfl, hcL, hcc⟩ := g2
  have HCL := Lib.hid hcc
  obtain ⟨A, cap, rfl, hcap, hc⟩ := hu
  have HC := Lib.hid hc
  have HD := Lib.hid hd
  have hm := ht.most
  have hlL := ht.len
  obtain ⟨m, hml⟩ : ∃ m, m = t.1.length := ⟨_, rfl⟩
  have HML := Lib.hid hml
  rw [hlL] at hcL ⊢
  rw [hlL] at HX
  rw [← hml] at hm HX G1 hcL ⊢
  obtain ⟨len, hl⟩ : ∃ len, len = zs.length := ⟨_, rfl⟩
  have HL := Lib.hid hl
  rw [← hl] at hz hcap ⊢
  clear hl hml hlL hc hcc hd ht
  have i1 : decide ((300 : Int) < (len : Int)) = false := by rw [decide_eq_false_iff_not]; omega
  have HB := Lib.hid (box2_new w (.slice AP m cP) (.slice AL m cL) 42)
  have HS := Lib.hid ((Span.refl 0 0 w).alloc (.cells #[.slice AP m cP, .slice AL m cL] 42))
  go_enter Try.func34, Try.ntmps34
  go_wp2_with fail
  refine (impl_isTable_true t o lo hi _ _ (HX.out.span HS.out (.inl (Nat.le_refl _))) HT.out).mono ?_
  rintro _ w1 ⟨rfl, s1⟩
  have hb := s1.box2 (b := w.heap.size) (by simp) (.inl (Nat.le_refl _)) HB.out
  have s1 := s1.after HS.out
  have hlt0 : w.heap.size < w1.heap.size := World.block_lt_of_cell? w1 ⟨w.heap.size, 0, none⟩ hb.1
  have HB1 := Lib.hid hb
  have HS1 := Lib.hid s1
  clear hb s1 HB HS
  have hmk := run_make_zeros (P := Try.prog) w1 40 3 (.int .i64 0) 8 Try.underlying40 info_int rfl len (by omega) (by omega)
  have HF := Lib.hid (Filled.made w1 3 (.int .i64 0) len (fun j => .int .i64 (ls.getD j 0)))
  have HB2 := Lib.hid (box2_alloc HB1.out hlt0)
  go_wp2_with fail
  clear hmk
  go_loopw [24] (fun c wr => ∃ k : Nat, k ≤ len ∧ c = .int .i64 k ∧ Filled wr w1.heap.size 3 len k (fun j => .int .i64 (ls.getD j 0)) ∧ Span 0 0 w wr ∧ wr.cell? ⟨w.heap.size, 0, none⟩ = some (.slice AP m cP) ∧ wr.cell? ⟨w.heap.size, 1, none⟩ = some (.slice AL m cL) ∧ wr.heap.size = w1.heap.size + 1) (fun c _ => len - (intOf c).toNat)
  case atStart => exact ⟨0, Nat.zero_le _, rfl, HF.out, HS1.out.alloc _, HB2.out.1 _, HB2.out.2 _, by simp⟩
  case round =>
    clear HF HB2
    obtain ⟨k, hk, rfl, hf, hs, hb0, hb1, hsz⟩ := hrel
    have HSZ := Lib.hid hsz
    by_cases hlt : k < len
    · obtain ⟨off, rfl, _, _, hbz, hcell, _⟩ := HC.out (by rw [← HL.out]; omega)
      obtain ⟨z, hzk⟩ := getElem?_some (xs := zs) (j := k) (by rw [← HL.out]; exact hlt)
      obtain ⟨i, mm, l, hn, hi, hl⟩ := HD.out.2 k z hzk
      have hck : wr.cell? ⟨b, off + k, none⟩ = some (.complex .f32 z.1 z.2) := (hs.cells (Nat.le_refl _)).1 b _ hbz |>.trans (hcell k z hzk)
      have hil : i < m := by
        have := (List.getElem?_eq_some_iff.1 hi).1
        rw [HT.out.len, ← HML.out] at this
        exact this
      obtain ⟨offL, rfl, _, _, hbL, hcl, _⟩ := HCL.out (by rw [HT.out.len, ← HML.out]; omega)
      have hcl2 : wr.cell? ⟨b2, offL + i, none⟩ = some (.int .i64 l) := (hs.cells (Nat.le_refl _)).1 b2 _ hbL |>.trans (hcl i l hi)
      have hg : ls.getD k 0 = l := by rw [List.getD_eq_getElem?_getD, hl]; rfl
      obtain ⟨q, hq⟩ := hf.cell hlt
      have hfr := hf.frozen k
      have HF2 : Hid (Filled (wr.setCell ⟨w1.heap.size, k, none⟩ (.int .i64 l)) w1.heap.size 3 len (k + 1) (fun j => .int .i64 (ls.getD j 0))) := by
        have := hf.step hlt
        simp only [hg] at this
        exact this
      have HSP := Lib.hid hs
      have HN := Lib.hid hn
      clear hcell hzk hn hi hl hg hcl hs hsz hf
      have hbb : w.heap.size < w1.heap.size := hlt0
      go_wp2_with fail
      refine (nearestIn_any t.1 z o b1 lo hi _ _ ((G1.out.span HSP.out (.inl (Nat.le_refl _)))) (by rw [← HML.out]; omega)).mono ?_
      rintro _ _ ⟨n2, rfl, rfl⟩
      rw [HN.out]
      simp only [Option.map_some, Option.getD_some, Option.isSome_some]
      go_wp2_with fail
      go_roundw
      case rel =>
        refine ⟨k + 1, by omega, by go_num, HF2.out, (HSP.out.drewN n2).setCell (.inr (Nat.le_of_lt hbb)) _, ?_, ?_, ?_⟩
        · exact (World.cell?_setCell_other _ ⟨w1.heap.size, k, none⟩ ⟨w.heap.size, 0, none⟩ _ (by intro e; injection e; omega)).trans hb0
        · exact (World.cell?_setCell_other _ ⟨w1.heap.size, k, none⟩ ⟨w.heap.size, 1, none⟩ _ (by intro e; injection e; omega)).trans hb1
        · have := HSZ.out
          simpa [World.setCell] using this
      case measure => simp [intOf]; omega
    · have hke : k = len := by omega
      subst hke
      have HF2 := Lib.hid hf
      have HSP := Lib.hid hs
      have hbb : w.heap.size < w1.heap.size := hlt0
      clear hf hs hsz
      go_wp2_with fail
      go_ret2
      have e : ls.length = k := by rw [HD.out.1, ← HL.out]
      refine ⟨_, w1.heap.size, rfl, ?_, HSP.out⟩
      have hF := HF2.out
      rw [← e] at hF
      have := hF.hasS (val := intV) (xs := ls) (lo := w.heap.size) (hi := wr.heap.size) (fun j x hj => by show Value.int .i64 (ls.getD j 0) = _; rw [List.getD_eq_getElem?_getD, hj]; rfl) (Nat.le_of_lt hbb) (by have := HSZ.out; omega)
      rw [e] at this
      exact this

end Go.Proofs.Ytmdmfkdmgmcbpaa
