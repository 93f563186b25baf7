/- CountFrames. -/
import Derived.Test.YtfafkdpefdpnkaaJq31
import Derived.Outline
namespace Go.Proofs.Ytfafkdpefdpnkaa
open Go.RowKit

def natV (n : Nat) : Value := .int .i64 (n : Int)
/-- What is listed, and how often, the call's own. -/
def CountedF (L : List Fr) (w : World) (e : Ending) (w' : World) : Prop :=
  ∃ A q A2 q2, e = .returned (.tuple #[.slice A (countF L).1.length q, .slice A2 (countF L).2.length q2]) ∧ w'.ownsRow w.heap.size 37 8 (.slice A (countF L).1.length q) (countF L).1.length (flatF (countF L).1) ∧
    w'.ownsRow w.heap.size 3 1 (.slice A2 (countF L).2.length q2) (countF L).2.length ((countF L).2.map natV) ∧ Span 0 0 w w'

theorem Counted.short {L : List Fr} {K : List Fr × List Nat} {P : List Nat} (h : Counted L K P) : K.1.length ≤ L.length := by
  have : ∀ (l : List Nat), (∀ c ∈ l, 1 ≤ c) → l.length ≤ l.sum := by
    intro l
    induction l with
    | nil => intro _; exact Nat.le_refl _
    | cons a l ih =>
      intro hl
      have h1 := hl a (by simp)
      have h2 := ih (fun c hc => hl c (by simp [hc]))
      simp only [List.length_cons, List.sum_cons]
      omega
  have := this K.2 h.pos
  rw [h.sum] at this
  rw [h.len]; exact this
theorem mem_le_sum : ∀ (l : List Nat) (c : Nat), c ∈ l → c ≤ l.sum
  | [], c, h => by cases h
  | a :: l, c, h => by
    rw [List.sum_cons]
    rcases List.mem_cons.1 h with rfl | h
    · omega
    · have := mem_le_sum l c h; omega

/-- In the course of counting: the first k frames are counted. -/
def Counting (B : Nat) (K : List Fr × List Nat) (w : World) (u u2 : Value) (wr : World) : Prop :=
  wr.ownsRow B 37 8 u K.1.length (flatF K.1) ∧ wr.ownsRow B 3 1 u2 K.2.length (K.2.map natV) ∧ wr.heap[B]? = some (.map (entriesF K.1) K.1.length) ∧ Span 0 0 w wr

theorem own_not_map {w : World} {B b : Nat} {e : TypeId} {s n : Nat} {v : Value} {xs : List Value} {es : Array MapEntry} {c : Nat} (h : w.ownsRow B e s v n xs) (hm : w.heap[b]? = some (.map es c)) : v.ownBlock = none ∨ v.ownBlock ≠ some b := by
  rcases h.2 with ⟨rfl, _⟩ | ⟨g, cap, cur, rfl, _, hg, _⟩
  · exact .inl rfl
  · right
    intro e
    simp only [Value.ownBlock, Option.some.injEq] at e
    rw [e, hm] at hg
    cases hg

theorem map_kept {w w' : World} {B b : Nat} {e : TypeId} {s n : Nat} {v : Value} {xs : List Value} {es : Array MapEntry} {c : Nat} (o : Obj) (hm : w.heap[b]? = some (.map es c)) (h : w.ownsRow B e s v n xs) (hg : (w.alloc o).grownBy w' v.ownBlock) : w'.heap[b]? = some (.map es c) := by
  have hlt := (Array.getElem?_eq_some_iff.1 hm).1
  rw [hg.block b (by simp; omega) (fun e => by
    rcases own_not_map h hm with h1 | h1
    · rw [h1] at e; cases e
    · exact h1 e.symm), Below.heap_alloc _ _ _ hlt]
  exact hm

/-- The map from frames to their places, in memory. -/
def MapAt (w : World) (b : Nat) (K : List Fr) : Prop := w.heap[b]? = some (.map (entriesF K) K.length)
theorem MapAt.kept {w w' : World} {B b : Nat} {e : TypeId} {s n : Nat} {v : Value} {xs : List Value} {K : List Fr} {o : Obj} (hm : MapAt w b K) (h : w.ownsRow B e s v n xs) (hg : (w.alloc o).grownBy w' v.ownBlock) : MapAt w' b K := map_kept o hm h hg

set_option maxRecDepth 100000 in
set_option maxHeartbeats 8000000 in
theorem countFrames_any (L : List Fr) (b lo hi : Nat) (v : Value) (w : World) (hx : HasFr b lo hi w v L) (hm : L.length ≤ 524288) : Calls Try.prog 11 #[v] w (CountedF L w) := by
  have HX := Lib.hid hx
  have HM := Lib.hid hm
  obtain ⟨A, cap, rfl, hcap, -⟩ := hx
  obtain ⟨len, hl⟩ : ∃ len, len = L.length := ⟨_, rfl⟩
  have HL := Lib.hid hl
  rw [← hl] at HX hcap hm ⊢
  clear hl
  obtain ⟨ip, hip, hzp, hsp, hbp⟩ := info_parts info_frame
  obtain ⟨ii, hii, hzi, hsi, hbi⟩ := info_parts info_int
  have i2 : (len : Int) ≤ 524288 := by omega
  have HM0 : Hid ((w.alloc (.map #[] 0)).heap[w.heap.size]? = some (.map (entriesF []) 0)) := by
    unfold Hid; rw [heap_alloc_new]; rfl
  have HS0 := Lib.hid ((Span.refl 0 0 w).alloc (.map #[] 0))
  clear hcap hm
  have hmk : (Instr.makeMap 60 none).run Try.prog w = .ok (.map (some w.heap.size)) (w.alloc (.map #[] 0)) := by
    simp [Instr.makeMap, run_underlying Try.underlying60, newObj, Result.andThen]
    rfl
  go_enter Try.func11, Try.ntmps11
  go_wp2_with fail
  clear hmk
  generalize w.alloc (.map #[] 0) = w0 at *
  go_loopw [4, 5, 8, 9, 10, 14] (fun u u2 _ _ _ c wr => ∃ (k : Nat) (K : List Fr × List Nat), k ≤ len ∧ c = .int .i64 k ∧ K = countF (L.take k) ∧ Counting w.heap.size K w u u2 wr ∧ w.heap.size < wr.heap.size) (fun _ _ _ _ _ c _ => len - (intOf c).toNat)
  case atStart => exact ⟨0, ([], []), Nat.zero_le _, rfl, rfl, ⟨World.ownsRow_nil _ _ _ _, World.ownsRow_nil _ _ _ _, HM0.out, HS0.out⟩, by have := HM0.out; exact (Array.getElem?_eq_some_iff.1 this).1⟩
  case round =>
    clear HM0 HS0
    obtain ⟨k, K, hk, rfl, hK, ⟨ho, ho2, hmp, hs⟩, hz⟩ := hrel
    have HK := Lib.hid hK
    have HO := Lib.hid ho
    have HO2 := Lib.hid ho2
    have HMP := Lib.hid hmp
    have HS := Lib.hid hs
    have HZ := Lib.hid hz
    have HXr := Lib.hid (HX.out.keep hs)
    obtain ⟨P, hP⟩ := counted (L.take k)
    rw [← hK] at hP
    have HP := Lib.hid hP
    have HKL : Hid (K.1.length ≤ 524288 ∧ K.1.length = K.2.length) := Lib.hid ⟨by have := hP.short; rw [List.length_take] at this; have := HM.out; omega, hP.len⟩
    obtain ⟨A1, q1, rfl⟩ := ownsRow_slice ho
    obtain ⟨A2, q2, rfl⟩ := ownsRow_slice ho2
    clear hK ho ho2 hmp hs hz hP
    by_cases hlt : k < len
    · obtain ⟨F, hF⟩ := getElem?_some (xs := L) (j := k) (by rw [← HL.out]; exact hlt)
      obtain ⟨-, -, off, rfl, hat⟩ := HXr.out.at_ hF
      have HTK : Hid (countF (L.take (k + 1)) = countStep K F) := Lib.hid (by rw [take_snoc_of hF, countF_snoc, HK.out])
      have hlk : (Instr.lookup 60 (.map (some w.heap.size)) (frV F) true).run Try.prog (wr.alloc (.cells (frA F) 37)) = _ := run_lookup_fr _ (Q := K.1) (clock := K.1.length) (by rw [Below.heap_alloc _ _ _ HZ.out]; exact HMP.out) F
      obtain ⟨F0, hF0⟩ : ∃ F0, F0 = F := ⟨_, rfl⟩
      have HF0 := Lib.hid hF0
      have X1 := (Bx.new wr (frA F) 37)
      rw [← hF0] at HTK
      have HFF := Lib.hid hF
      obtain ⟨a0, a1, a2, a3, a4, a5, a6, a7⟩ := hat
      have XC : ∀ i, (wr.alloc (.cells (frA F) 37)).cell? ⟨wr.heap.size, i, none⟩ = (frA F)[i]? := X1.cells
      have hsA := Lib.hid ((Span.refl 0 0 wr).alloc (.cells (frA F) 37))
      have HOa := Lib.hid (HO.out.alloc (.cells (frA F) 37))
      have HO2a := Lib.hid (HO2.out.alloc (.cells (frA F) 37))
      have HMa : Hid ((wr.alloc (.cells (frA F) 37)).heap[w.heap.size]? = some (.map (entriesF K.1) K.1.length)) := Lib.hid (by rw [Below.heap_alloc _ _ _ HZ.out]; exact HMP.out)
      have HXa := Lib.hid X1
      clear hF X1 hF0
      cases ha : atF K.1 F with
      | some i =>
        rw [ha] at hlk
        simp only [Option.getD, Option.isSome] at hlk
        have hil : i < K.1.length := by obtain ⟨G, hG, _⟩ := atF_some ha; exact (List.getElem?_eq_some_iff.1 hG).1
        have hil2 : i < K.2.length := by rw [← HKL.out.2]; exact hil
        have hst : countStep K F0 = (K.1, K.2.set i (K.2[i] + 1)) := by
          unfold countStep
          rw [HF0.out, ha]
          simp only [List.getD_eq_getElem?_getD, List.getElem?_eq_getElem hil2, Option.getD_some]
        have HST := Lib.hid hst
        obtain ⟨ci, hci⟩ : ∃ ci, ci = K.2[i] := ⟨_, rfl⟩
        rw [← hci] at HST
        have hcb : ci ≤ 524288 := by
          have h1 := mem_le_sum K.2 ci (by rw [hci]; exact List.getElem_mem _)
          rw [HP.out.sum, List.length_take] at h1
          have := HM.out
          omega
        have hgi : K.2[i]? = some ci := by rw [hci]; exact List.getElem?_eq_getElem hil2
        obtain ⟨g, cap2, e, hg1, hg2⟩ := HO2a.out.form (by omega)
        injection e with e1 e2 e3
        subst e1 e3
        obtain ⟨b2, hs2, -, hb2⟩ := ownsRow_hasS HO2a.out
        have hgb := hb2 (by omega)
        have hgb' : g = b2 := by simpa [Value.ownBlock] using hgb
        subst hgb'
        have hck := hs2.at_ hgi
        obtain ⟨-, hfz⟩ := hs2.cellT hil2
        unfold natV at hck
        rw [Nat.zero_add] at hck hfz
        obtain ⟨HOc, HGc⟩ := HO2a.out.stored i (.int .i64 ((ci : Int) + 1))
        rw [show (.int .i64 ((ci : Int) + 1) : Value) = natV (ci + 1) by unfold natV; rw [Int.natCast_add]; rfl, ← List.map_set] at HOc
        have HOd := Lib.hid (HOa.out.kept HGc (owns_apart HOa.out HO2a.out (by decide)))
        have HOc := Lib.hid HOc
        have hw0 : w.heap.size ≠ g := by
          intro e
          rcases own_not_map HO2a.out HMa.out with h | h
          · simp [Value.ownBlock] at h
          · exact h (by simp [Value.ownBlock, e])
        have HMd := Lib.hid ((HGc.block w.heap.size (Array.getElem?_eq_some_iff.1 HMa.out).1 (fun e => hw0 (by injection e))).trans HMa.out)
        have HSd := Lib.hid ((HS.out.alloc (.cells (frA F) 37)).grown HGc (fun k hk => .inr (by injection hk with hk; omega)))
        have HZd : Hid (w.heap.size < wr.heap.size) := HZ
        have HLD : Hid (i < K.2.length) := Lib.hid hil2
        obtain ⟨n1, hn1⟩ : ∃ n, n = K.1.length := ⟨_, rfl⟩
        obtain ⟨n2, hn2⟩ : ∃ n, n = K.2.length := ⟨_, rfl⟩
        have i5 : (i : Int) < (n2 : Int) := by omega
        have i6 : (0 : Int) ≤ (i : Int) := by omega
        have i7 : (ci : Int) ≤ 524288 := by omega
        have i8 : n2 ≤ 524288 := by have := HKL.out; omega
        rw [← hn1, ← hn2]
        have HN1 := Lib.hid hn1
        have HN2 := Lib.hid hn2
        clear hn1 hn2 hw0 HGc hgb hs2 hgi hcb hst hil hil2 ha hb2 hci
        obtain ⟨⟨x0, x1⟩, ⟨x2, x3⟩, ⟨x4, x5⟩, ⟨x6, x7⟩, ⟨x8, x9⟩, ⟨x10, x11⟩, ⟨x12, x13⟩, ⟨x14, x15⟩⟩ := F
        unfold cxV at a0 a1 a2 a3 a4 a5 a6 a7
        simp only at a0 a1 a2 a3 a4 a5 a6 a7
        have hlk' : (Instr.lookup 60 (.map (some w.heap.size)) (.agg #[.complex .f32 x0 x1, .complex .f32 x2 x3, .complex .f32 x4 x5, .complex .f32 x6 x7, .complex .f32 x8 x9, .complex .f32 x10 x11, .complex .f32 x12 x13, .complex .f32 x14 x15]) true).run Try.prog (wr.alloc (.cells #[.complex .f32 x0 x1, .complex .f32 x2 x3, .complex .f32 x4 x5, .complex .f32 x6 x7, .complex .f32 x8 x9, .complex .f32 x10 x11, .complex .f32 x12 x13, .complex .f32 x14 x15] 37)) = .ok (.tuple #[.int .i64 (i : Int), .bool true]) (wr.alloc (.cells #[.complex .f32 x0 x1, .complex .f32 x2 x3, .complex .f32 x4 x5, .complex .f32 x6 x7, .complex .f32 x8 x9, .complex .f32 x10 x11, .complex .f32 x12 x13, .complex .f32 x14 x15] 37)) := hlk
        have xc : ∀ i, (wr.alloc (.cells #[.complex .f32 x0 x1, .complex .f32 x2 x3, .complex .f32 x4 x5, .complex .f32 x6 x7, .complex .f32 x8 x9, .complex .f32 x10 x11, .complex .f32 x12 x13, .complex .f32 x14 x15] 37)).cell? ⟨wr.heap.size, i, none⟩ = (#[.complex .f32 x0 x1, .complex .f32 x2 x3, .complex .f32 x4 x5, .complex .f32 x6 x7, .complex .f32 x8 x9, .complex .f32 x10 x11, .complex .f32 x12 x13, .complex .f32 x14 x15] : Array Value)[i]? := XC
        have hck' : (wr.alloc (.cells #[.complex .f32 x0 x1, .complex .f32 x2 x3, .complex .f32 x4 x5, .complex .f32 x6 x7, .complex .f32 x8 x9, .complex .f32 x10 x11, .complex .f32 x12 x13, .complex .f32 x14 x15] 37)).cell? ⟨g, i, none⟩ = some (.int .i64 (ci : Int)) := hck
        have hfz' : (wr.alloc (.cells #[.complex .f32 x0 x1, .complex .f32 x2 x3, .complex .f32 x4 x5, .complex .f32 x6 x7, .complex .f32 x8 x9, .complex .f32 x10 x11, .complex .f32 x12 x13, .complex .f32 x14 x15] 37)).frozen? ⟨g, i, none⟩ = false := hfz
        clear hlk XC hck hfz
        go_wp2_with fail
        go_roundw
        case rel =>
          refine ⟨k + 1, (K.1, K.2.set i (ci + 1)), by omega, by go_num, by rw [HTK.out, HST.out], ⟨?_, ?_, HMd.out, HSd.out⟩, ?_⟩
          · rw [HN1.out]; exact HOd.out
          · simp only [List.length_set]; rw [HN2.out]; exact HOc.out
          · exact (Array.getElem?_eq_some_iff.1 HMd.out).1
        case measure => simp [intOf]; omega
      | none =>
        rw [ha] at hlk
        simp only [Option.getD, Option.isSome] at hlk
        have HAN := Lib.hid ha
        have hst : countStep K F0 = (K.1 ++ [F0], K.2 ++ [1]) := by
          unfold countStep
          rw [HF0.out, ha]
        have HST := Lib.hid hst
        have HW := HMa.out
        clear ha hst
        obtain ⟨⟨x0, x1⟩, ⟨x2, x3⟩, ⟨x4, x5⟩, ⟨x6, x7⟩, ⟨x8, x9⟩, ⟨x10, x11⟩, ⟨x12, x13⟩, ⟨x14, x15⟩⟩ := F
        unfold cxV at a0 a1 a2 a3 a4 a5 a6 a7
        simp only at a0 a1 a2 a3 a4 a5 a6 a7
        have hlk' : (Instr.lookup 60 (.map (some w.heap.size)) (.agg #[.complex .f32 x0 x1, .complex .f32 x2 x3, .complex .f32 x4 x5, .complex .f32 x6 x7, .complex .f32 x8 x9, .complex .f32 x10 x11, .complex .f32 x12 x13, .complex .f32 x14 x15]) true).run Try.prog (wr.alloc (.cells #[.complex .f32 x0 x1, .complex .f32 x2 x3, .complex .f32 x4 x5, .complex .f32 x6 x7, .complex .f32 x8 x9, .complex .f32 x10 x11, .complex .f32 x12 x13, .complex .f32 x14 x15] 37)) = .ok (.tuple #[.int .i64 ((0 : Nat) : Int), .bool false]) (wr.alloc (.cells #[.complex .f32 x0 x1, .complex .f32 x2 x3, .complex .f32 x4 x5, .complex .f32 x6 x7, .complex .f32 x8 x9, .complex .f32 x10 x11, .complex .f32 x12 x13, .complex .f32 x14 x15] 37)) := hlk
        have xc : ∀ i, (wr.alloc (.cells #[.complex .f32 x0 x1, .complex .f32 x2 x3, .complex .f32 x4 x5, .complex .f32 x6 x7, .complex .f32 x8 x9, .complex .f32 x10 x11, .complex .f32 x12 x13, .complex .f32 x14 x15] 37)).cell? ⟨wr.heap.size, i, none⟩ = (#[.complex .f32 x0 x1, .complex .f32 x2 x3, .complex .f32 x4 x5, .complex .f32 x6 x7, .complex .f32 x8 x9, .complex .f32 x10 x11, .complex .f32 x12 x13, .complex .f32 x14 x15] : Array Value)[i]? := XC
        clear hlk XC
        have HFA : Hid (frA F0 = (#[.complex .f32 x0 x1, .complex .f32 x2 x3, .complex .f32 x4 x5, .complex .f32 x6 x7, .complex .f32 x8 x9, .complex .f32 x10 x11, .complex .f32 x12 x13, .complex .f32 x14 x15] : Array Value)) := Lib.hid (by rw [HF0.out]; rfl)
        have HFC : Hid (frC F0 = frC ⟨(x0, x1), (x2, x3), (x4, x5), (x6, x7), (x8, x9), (x10, x11), (x12, x13), (x14, x15)⟩) := Lib.hid (by rw [HF0.out])
        have HF0' : Hid (F0 = ⟨(x0, x1), (x2, x3), (x4, x5), (x6, x7), (x8, x9), (x10, x11), (x12, x13), (x14, x15)⟩) := HF0
        have HXb : Hid (Bx wr.heap.size #[.complex .f32 x0 x1, .complex .f32 x2 x3, .complex .f32 x4 x5, .complex .f32 x6 x7, .complex .f32 x8 x9, .complex .f32 x10 x11, .complex .f32 x12 x13, .complex .f32 x14 x15] (wr.alloc (.cells #[.complex .f32 x0 x1, .complex .f32 x2 x3, .complex .f32 x4 x5, .complex .f32 x6 x7, .complex .f32 x8 x9, .complex .f32 x10 x11, .complex .f32 x12 x13, .complex .f32 x14 x15] 37))) := HXa
        have HOx : Hid ((wr.alloc (.cells #[.complex .f32 x0 x1, .complex .f32 x2 x3, .complex .f32 x4 x5, .complex .f32 x6 x7, .complex .f32 x8 x9, .complex .f32 x10 x11, .complex .f32 x12 x13, .complex .f32 x14 x15] 37)).ownsRow w.heap.size 37 8 (.slice A1 K.1.length q1) K.1.length (flatF K.1)) := HOa
        have HO2x : Hid ((wr.alloc (.cells #[.complex .f32 x0 x1, .complex .f32 x2 x3, .complex .f32 x4 x5, .complex .f32 x6 x7, .complex .f32 x8 x9, .complex .f32 x10 x11, .complex .f32 x12 x13, .complex .f32 x14 x15] 37)).ownsRow w.heap.size 3 1 (.slice A2 K.2.length q2) K.2.length (K.2.map natV)) := HO2a
        have HMx : Hid ((wr.alloc (.cells #[.complex .f32 x0 x1, .complex .f32 x2 x3, .complex .f32 x4 x5, .complex .f32 x6 x7, .complex .f32 x8 x9, .complex .f32 x10 x11, .complex .f32 x12 x13, .complex .f32 x14 x15] 37)).heap[w.heap.size]? = some (.map (entriesF K.1) K.1.length)) := HMa
        have HSx : Hid (Span 0 0 w (wr.alloc (.cells #[.complex .f32 x0 x1, .complex .f32 x2 x3, .complex .f32 x4 x5, .complex .f32 x6 x7, .complex .f32 x8 x9, .complex .f32 x10 x11, .complex .f32 x12 x13, .complex .f32 x14 x15] 37))) := Lib.hid (HS.out.alloc _)
        clear HXa HOa HO2a HMa hsA HF0 HFF
        go_upto_region 10 with fail
        generalize wr.alloc (.cells #[.complex .f32 x0 x1, .complex .f32 x2 x3, .complex .f32 x4 x5, .complex .f32 x6 x7, .complex .f32 x8 x9, .complex .f32 x10 x11, .complex .f32 x12 x13, .complex .f32 x14 x15] 37) = wx at *
        go_wp2_with (first
          | (at_mapUpdate; go_loud (refine wpList_mapUpdate_fr _ rfl _ _ _ rfl w.heap.size K.1 rfl HMx.out ⟨(x0, x1), (x2, x3), (x4, x5), (x6, x7), (x8, x9), (x10, x11), (x12, x13), (x14, x15)⟩ rfl rfl HAN.out ?_; intro w1 hm1 hg1; have HM1 : Hid (MapAt w1 w.heap.size (K.1 ++ [⟨(x0, x1), (x2, x3), (x4, x5), (x6, x7), (x8, x9), (x10, x11), (x12, x13), (x14, x15)⟩])) := hm1; have HO1 := Lib.hid (HOx.out.kept hg1 (own_not_map HOx.out HMx.out)); have HO21 := Lib.hid (HO2x.out.kept hg1 (own_not_map HO2x.out HMx.out)); have HX1 := HXb.out.grow hg1 (by have := HZ.out; omega); have HS1 := Lib.hid (HSx.out.grown hg1 (fun k hk => .inr (by injection hk with hk; omega))); have xc1 := HX1.cells; clear hm1 hg1 HX1 xc))
          | (at_builtin; go_loud (refine wpList_append_own_at _ rfl _ _ 25 rfl w.heap.size 37 ip (.agg #[.complex .f32 0 0, .complex .f32 0 0, .complex .f32 0 0, .complex .f32 0 0, .complex .f32 0 0, .complex .f32 0 0, .complex .f32 0 0, .complex .f32 0 0]) 8 64 Try.underlying25 hip hzp hsp hbp rfl (by decide) _ _ _ rfl (HO1.out.alloc (.cells #[.complex .f32 x0 x1, .complex .f32 x2 x3, .complex .f32 x4 x5, .complex .f32 x6 x7, .complex .f32 x8 x9, .complex .f32 x10 x11, .complex .f32 x12 x13, .complex .f32 x14 x15] 37)) ⟨w1.heap.size, 0, none⟩ 1 1 (frC ⟨(x0, x1), (x2, x3), (x4, x5), (x6, x7), (x8, x9), (x10, x11), (x12, x13), (x14, x15)⟩) rfl rfl ?c1 ?c2 ?c3 ?c4 ?c5 ?_; (case c1 => exact World.news_of_block (heap_alloc_new _ _)); (case c2 => exact fun u hu => flatF_one' (L := [⟨(x0, x1), (x2, x3), (x4, x5), (x6, x7), (x8, x9), (x10, x11), (x12, x13), (x14, x15)⟩]) u (by rw [flatF_one]; exact hu)); (case c3 => have := HKL.out; unfold maxLen; omega); (case c4 => have := HKL.out; omega); (case c5 => have := HS1.out.size; simp; omega); intro v2 w2 ho hgr _ _; have HO3 := Lib.hid ho; have HO23 := Lib.hid ((HO21.out.alloc _).kept hgr (owns_apart (HO21.out.alloc (.cells #[.complex .f32 x0 x1, .complex .f32 x2 x3, .complex .f32 x4 x5, .complex .f32 x6 x7, .complex .f32 x8 x9, .complex .f32 x10 x11, .complex .f32 x12 x13, .complex .f32 x14 x15] 37)) (HO1.out.alloc (.cells #[.complex .f32 x0 x1, .complex .f32 x2 x3, .complex .f32 x4 x5, .complex .f32 x6 x7, .complex .f32 x8 x9, .complex .f32 x10 x11, .complex .f32 x12 x13, .complex .f32 x14 x15] 37)) (by decide))); have HM3 := Lib.hid (MapAt.kept HM1.out HO1.out hgr); have HS3 := Lib.hid ((HS1.out.alloc _).grown hgr (fun k hk => .inr (HO1.out.lt k hk).1)); clear ho hgr))
          | (at_builtin; go_loud (refine wpList_append_own_at _ rfl _ _ 32 rfl w.heap.size 3 ii (.int .i64 0) 1 8 Try.underlying32 hii hzi hsi hbi rfl (by decide) _ _ _ rfl (HO23.out.alloc (.cells #[natV 1] 3)) ⟨w2.heap.size, 0, none⟩ 1 1 [natV 1] rfl rfl ?c1 ?c2 ?c3 ?c4 ?c5 ?_; (case c1 => exact one_new _ _ _); (case c2 => exact one_cell (by rfl)); (case c3 => have := HKL.out; unfold maxLen; omega); (case c4 => have := HKL.out; omega); (case c5 => have := HS3.out.size; simp; omega); intro v4 w4 ho hgr _ _; have HO4 := Lib.hid ho; have HOf := Lib.hid ((HO3.out.alloc _).kept hgr (owns_apart (HO3.out.alloc (.cells #[natV 1] 3)) (HO23.out.alloc (.cells #[natV 1] 3)) (by decide))); have HM4 := Lib.hid (MapAt.kept HM3.out HO23.out hgr); have HS4 := Lib.hid ((HS3.out.alloc _).grown hgr (fun k hk => .inr (HO23.out.lt k hk).1)); clear ho hgr)))
        go_roundw
        case rel =>
          refine ⟨k + 1, (K.1 ++ [F0], K.2 ++ [1]), by omega, by go_num, by rw [HTK.out, HST.out], ⟨?_, ?_, ?_, HS4.out⟩, ?_⟩
          · have h := HOf.out
            simp only [List.length_append, List.length_singleton, flatF_append, flatF_one]
            rw [HFC.out]
            exact h
          · have h := HO4.out
            simp only [List.length_append, List.length_singleton, List.map_append]
            exact h
          · rw [HF0'.out]; exact HM4.out
          · exact (Array.getElem?_eq_some_iff.1 HM4.out).1
        case measure => simp [intOf]; omega
    · have hke : k = len := by omega
      have HKE : Hid (K = countF L) := Lib.hid (by rw [HK.out, hke, HL.out, List.take_length])
      clear hke
      go_wp2_with fail
      refine bodyPost_ret (v := .tuple #[.slice A1 K.1.length q1, .slice A2 K.2.length q2]) (by simp [results, Try.results11, go_sem]) rfl ?_
      unfold CountedF
      rw [← HKE.out]
      exact ⟨_, _, _, _, rfl, HO.out, HO2.out, HS.out⟩
end Go.Proofs.Ytfafkdpefdpnkaa
