/- Encoding, and places in lists. -/
import Derived.Test.YtmdmfkdmgmcbpaaN4
namespace Go.Proofs.Ytmdmfkdmgmcbpaa
open Go.RowKit

set_option maxHeartbeats 1000000 in
theorem indexInt_found (L : List Int) (n : Int) (i : Nat) (hi : L[i]? = some n) (hne : ∀ j, j < i → L[j]? ≠ some n) (o : Bool) (b lo hh : Nat) (v : Value) (w : World) (hx : HasS intV o b lo hh w v L) (hlen : L.length ≤ 4194304) :
    Calls Try.prog 67 #[v, .int .i64 n] w fun e w' => e = .returned (.int .i64 (i : Int)) ∧ w = w' := by
  obtain ⟨A, cap, rfl, hcap, hc⟩ := hx
  have hil := (List.getElem?_eq_some_iff.1 hi).1
  have HI := Lib.hid hi
  have HN := Lib.hid hne
  have HC := Lib.hid hc
  obtain ⟨len, hl⟩ : ∃ len, len = L.length := ⟨_, rfl⟩
  have HL := Lib.hid hl
  rw [← hl] at hcap hlen hil ⊢
  clear hi hne hc hl
  go_enter Try.func67, Try.ntmps67
  go_wp2_with fail
  go_loopw [8] (fun c wr => ∃ k : Nat, k ≤ i ∧ c = .int .i64 k ∧ w = wr) (fun c _ => len - (intOf c).toNat)
  case atStart => exact ⟨0, Nat.zero_le _, rfl, rfl⟩
  case round =>
    obtain ⟨k, hk, rfl, rfl⟩ := hrel
    obtain ⟨off, rfl, _, _, _, hcell, _⟩ := HC.out (by rw [← HL.out]; omega)
    by_cases hlt : k < i
    · obtain ⟨x, hx⟩ := getElem?_some (xs := L) (j := k) (by rw [← HL.out]; omega)
      have hck : w.cell? ⟨b, off + k, none⟩ = some (.int .i64 x) := hcell k x hx
      have hnx : (n == x) = false := by
        rw [beq_eq_false_iff_ne]; rintro rfl; exact HN.out k hlt hx
      have hkl : k < len := by omega
      clear hcell hx
      go_wp2_with fail
      go_roundw
      case rel => exact ⟨k + 1, by omega, by go_num, by first | rfl | trivial⟩
      case measure => simp [intOf]; omega
    · have hki : i = k := by omega
      subst hki
      have hck : w.cell? ⟨b, off + i, none⟩ = some (.int .i64 n) := hcell i n HI.out
      clear hcell
      go_wp2_with fail
      go_ret
      exact ⟨rfl, rfl⟩

/-- How each label is encoded. -/
def Encoded (t : Tab) (ns : List Int) (zs : List Cx) : Prop :=
  zs.length = ns.length ∧ ∀ (j : Nat) (n : Int), ns[j]? = some n → ∃ (i : Nat) (z : Cx), t.2[i]? = some n ∧ (∀ k, k < i → t.2[k]? ≠ some n) ∧ t.1[i]? = some z ∧ zs[j]? = some z

set_option maxRecDepth 100000 in
set_option maxHeartbeats 2000000 in
theorem encodeLabels_any (t : Tab) (zs : List Int) (ls : List Cx) (o o' : Bool) (b lo hi lo' hi' : Nat) (v u : Value) (w : World) (hx : HasTab o lo hi w v t) (ht : Valid t) (hu : HasS intV o' b lo' hi' w u zs) (hz : zs.length ≤ 300) (hd : Encoded t zs ls) :
    Calls Try.prog 33 #[v, u] w (GivesL cxV ls w) := by
  have HX := Lib.hid hx
  have HT := Lib.hid ht
  obtain ⟨b1, b2, vP, vL, rfl, hne, g1, g2⟩ := hx
  have G2 := Lib.hid g2
  obtain ⟨AP, cP, rfl, hcP, hcc⟩ := g1
  obtain ⟨AL, cL, rfl, hcL, _⟩ := g2
  have HCL := Lib.hid hcc
  obtain ⟨A, cap, rfl, hcap, hc⟩ := hu
  have HC := Lib.hid hc
  have HD := Lib.hid hd
  have hm := ht.most
  have hlL := ht.len
  obtain ⟨m, hml⟩ : ∃ m, m = t.1.length := ⟨_, rfl⟩
  have HML := Lib.hid hml
  rw [hlL] at hcL ⊢
  rw [hlL] at HX G2
  rw [← hml] at hm HX G2 hcL hcP ⊢
  obtain ⟨len, hl⟩ : ∃ len, len = zs.length := ⟨_, rfl⟩
  have HL := Lib.hid hl
  rw [← hl] at hz hcap ⊢
  clear hl hml hlL hc hcc hd ht
  have i1 : decide ((300 : Int) < (len : Int)) = false := by rw [decide_eq_false_iff_not]; omega
  have HB := Lib.hid (box2_new w (.slice AP m cP) (.slice AL m cL) 42)
  have HS := Lib.hid ((Span.refl 0 0 w).alloc (.cells #[.slice AP m cP, .slice AL m cL] 42))
  go_enter Try.func33, Try.ntmps33
  go_wp2_with fail
  refine (impl_isTable_true t o lo hi _ _ (HX.out.span HS.out (.inl (Nat.le_refl _))) HT.out).mono ?_
  rintro _ w1 ⟨rfl, s1⟩
  have hb := s1.box2 (b := w.heap.size) (by simp) (.inl (Nat.le_refl _)) HB.out
  have s1 := s1.after HS.out
  have hlt0 : w.heap.size < w1.heap.size := World.block_lt_of_cell? w1 ⟨w.heap.size, 0, none⟩ hb.1
  have HB1 := Lib.hid hb
  have HS1 := Lib.hid s1
  clear hb s1 HB HS
  have hmk := run_make_zeros (P := Try.prog) w1 39 49 (.complex .f32 0 0) 8 Try.underlying39 info_c64 rfl len (by omega) (by omega)
  have HF := Lib.hid (Filled.made w1 49 (.complex .f32 0 0) len (fun j => cxV (ls.getD j (0, 0))))
  have HB2 := Lib.hid (box2_alloc HB1.out hlt0)
  go_wp2_with fail
  clear hmk
  go_loopw [23] (fun c wr => ∃ k : Nat, k ≤ len ∧ c = .int .i64 k ∧ Filled wr w1.heap.size 49 len k (fun j => cxV (ls.getD j (0, 0))) ∧ Span 0 0 w wr ∧ wr.cell? ⟨w.heap.size, 0, none⟩ = some (.slice AP m cP) ∧ wr.cell? ⟨w.heap.size, 1, none⟩ = some (.slice AL m cL) ∧ wr.heap.size = w1.heap.size + 1) (fun c _ => len - (intOf c).toNat)
  case atStart => exact ⟨0, Nat.zero_le _, rfl, HF.out, HS1.out.alloc _, HB2.out.1 _, HB2.out.2 _, by simp⟩
  case round =>
    clear HF HB2
    obtain ⟨k, hk, rfl, hf, hs, hb0, hb1, hsz⟩ := hrel
    have HSZ := Lib.hid hsz
    by_cases hlt : k < len
    · obtain ⟨off, rfl, _, _, hbz, hcell, _⟩ := HC.out (by rw [← HL.out]; omega)
      obtain ⟨z, hzk⟩ := getElem?_some (xs := zs) (j := k) (by rw [← HL.out]; exact hlt)
      obtain ⟨i, l, hi2, hne, hi, hl⟩ := HD.out.2 k z hzk
      have hck : wr.cell? ⟨b, off + k, none⟩ = some (.int .i64 z) := (hs.cells (Nat.le_refl _)).1 b _ hbz |>.trans (hcell k z hzk)
      have hil : i < m := by
        have := (List.getElem?_eq_some_iff.1 hi).1
        rw [← HML.out] at this
        exact this
      obtain ⟨offL, rfl, _, _, hbL, hcl, _⟩ := HCL.out (by rw [← HML.out]; omega)
      have hcl2 : wr.cell? ⟨b1, offL + i, none⟩ = some (.complex .f32 l.1 l.2) := (hs.cells (Nat.le_refl _)).1 b1 _ hbL |>.trans (hcl i l hi)
      have hg : ls.getD k (0, 0) = l := by rw [List.getD_eq_getElem?_getD, hl]; rfl
      obtain ⟨q, hq⟩ := hf.cell hlt
      have hfr := hf.frozen k
      have HF2 : Hid (Filled (wr.setCell ⟨w1.heap.size, k, none⟩ (.complex .f32 l.1 l.2)) w1.heap.size 49 len (k + 1) (fun j => cxV (ls.getD j (0, 0)))) := by
        have := hf.step hlt
        simp only [hg] at this
        exact this
      have HSP := Lib.hid hs
      have HN := Lib.hid hi2
      have HNE := Lib.hid hne
      clear hcell hzk hi2 hne hi hl hg hcl hs hsz hf
      have hbb : w.heap.size < w1.heap.size := hlt0
      go_wp2_with fail
      refine (indexInt_found t.2 z i HN.out HNE.out o b2 lo hi _ _ ((G2.out.span HSP.out (.inl (Nat.le_refl _)))) (by rw [HT.out.len, ← HML.out]; omega)).mono ?_
      rintro _ _ ⟨rfl, rfl⟩
      go_wp2_with fail
      go_roundw
      case rel =>
        refine ⟨k + 1, by omega, by go_num, HF2.out, HSP.out.setCell (.inr (Nat.le_of_lt hbb)) _, ?_, ?_, ?_⟩
        · exact (World.cell?_setCell_other _ ⟨w1.heap.size, k, none⟩ ⟨w.heap.size, 0, none⟩ _ (by intro e; injection e; omega)).trans hb0
        · exact (World.cell?_setCell_other _ ⟨w1.heap.size, k, none⟩ ⟨w.heap.size, 1, none⟩ _ (by intro e; injection e; omega)).trans hb1
        · have := HSZ.out
          simpa [World.setCell] using this
      case measure => simp [intOf]; omega
    · have hke : k = len := by omega
      subst hke
      have HF2 := Lib.hid hf
      have HSP := Lib.hid hs
      have hbb : w.heap.size < w1.heap.size := hlt0
      clear hf hs hsz
      go_wp2_with fail
      go_ret2
      have e : ls.length = k := by rw [HD.out.1, ← HL.out]
      refine ⟨_, w1.heap.size, rfl, ?_, HSP.out⟩
      have hF := HF2.out
      rw [← e] at hF
      have := hF.hasS (val := cxV) (xs := ls) (lo := w.heap.size) (hi := wr.heap.size) (fun j x hj => by show cxV (ls.getD j (0, 0)) = _; rw [List.getD_eq_getElem?_getD, hj]; rfl) (Nat.le_of_lt hbb) (by have := HSZ.out; omega)
      rw [e] at this
      exact this

end Go.Proofs.Ytmdmfkdmgmcbpaa
