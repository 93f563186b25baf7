/- The model splits a text. -/
import Derived.Test.YthcccliiokckjaaDoorT9
import Derived.Test.YthcccliiokckjaaDoorG2
import Derived.Deep.AppendSrc
namespace Go.Proofs.YthcccliiokckjaaDoor
open Go.RowKit

def strV (p : List UInt8) : Value := .string ⟨p.toArray⟩
/-- The pieces before the last p, and what stands behind it. -/
def splitSt (l : List UInt8) : List (List UInt8) × List UInt8 := l.foldl (fun s c => if c = 112 then (s.1 ++ [s.2], []) else (s.1, s.2 ++ [c])) ([], [])
def splitL (l : List UInt8) : List (List UInt8) := (splitSt l).1 ++ [(splitSt l).2]

theorem splitSt_snoc (l : List UInt8) (c : UInt8) : splitSt (l ++ [c]) = if c = 112 then ((splitSt l).1 ++ [(splitSt l).2], []) else ((splitSt l).1, (splitSt l).2 ++ [c]) := by
  simp [splitSt]

theorem splitL_text (a b : List UInt8) (ha : (112 : UInt8) ∉ a) (hb : (112 : UInt8) ∉ b) : splitL (a ++ 112 :: b) = [a, b] := by
  have key : ∀ (l : List UInt8) (o : List (List UInt8)) (c : List UInt8), (112 : UInt8) ∉ l → l.foldl (fun (s : List (List UInt8) × List UInt8) c => if c = 112 then (s.1 ++ [s.2], []) else (s.1, s.2 ++ [c])) (o, c) = (o, c ++ l) := by
    intro l
    induction l with
    | nil => intro o c _; simp
    | cons x r ih =>
      intro o c h
      have hx : x ≠ 112 := fun e => h (by simp [e])
      rw [List.foldl_cons, if_neg hx, ih _ _ (fun e => h (by simp [e]))]
      simp
  unfold splitL splitSt
  rw [List.foldl_append, key a [] [] ha, List.foldl_cons, if_pos rfl, key b _ _ hb]
  simp

theorem info_str : (Tryd.prog.info? 9).map (fun i => (i.zero, i.size, i.bytes)) = some (some (.string ⟨#[]⟩), 1, 16) := by kernel_rfl

theorem piece_eq (s : ByteArray) (f k : Nat) (hf : f ≤ k) : Value.string (s.extract f k) = strV ((s.data.toList.take k).drop f) := by
  unfold strV
  congr 1
  apply ByteArray.ext
  apply Array.toList_inj.1
  rw [Lib.extract_data, List.drop_take]

theorem str_cells (ps : List (List UInt8)) : ∀ u ∈ ps.map strV, u.oneCell' = true := by
  intro u hu
  obtain ⟨x, _, rfl⟩ := List.mem_map.1 hu
  rfl

/-- The pieces of a text. -/
def GivesPieces (ps : List (List UInt8)) (w : World) (e : Ending) (w' : World) : Prop := ∃ v b, e = .returned v ∧ HasS strV true b w.heap.size w'.heap.size w' v ps ∧ Span 0 0 w w'

theorem byte_eq {c : UInt8} (h : ((c.toNat : Int) == 112) = true) : c = 112 := by
  rw [beq_iff_eq] at h
  exact UInt8.toNat_inj.1 (by have : (112 : UInt8).toNat = 112 := rfl; omega)
theorem byte_ne {c : UInt8} (h : ((c.toNat : Int) == 112) = false) : c ≠ 112 := by
  rw [beq_eq_false_iff_ne] at h
  intro e; rw [e] at h; exact h (by decide)
theorem take_at {s : ByteArray} {l : List UInt8} {k : Nat} (hl : l = s.data.toList) (h : k < s.size) : l.take (k + 1) = l.take k ++ [s[k]] := by
  have ha := at_list (s := s) (k := k) h
  rw [← hl] at ha
  rw [List.take_add_one, ha]; rfl

set_option maxRecDepth 100000 in
set_option maxHeartbeats 1000000 in
theorem l1Split_any (s : ByteArray) (hs : s.size ≤ 4194304) (w : World) : Calls Tryd.prog 31 #[.string s, .int .u8 112] w (GivesPieces (splitL s.data.toList) w) := by
  obtain ⟨l, hl⟩ : ∃ l, l = s.data.toList := ⟨_, rfl⟩
  have hlen : l.length = s.size := by rw [hl]; simp
  rw [← hl]
  have HL := Lib.hid hl
  have HLEN := Lib.hid hlen
  clear hl hlen
  obtain ⟨ip, hip, hzp, hsp, hbp⟩ := info_parts info_str
  have HO0 : Hid ((w.alloc (.cells #[] 9)).ownsRow w.heap.size 9 1 (.slice (some ⟨w.heap.size, 0, none⟩) 0 0) 0 (([] : List (List UInt8)).map strV)) :=
    World.ownsRow_made (base := w.heap.size) (e := 9) (size := 1) w #[] 0 (Nat.le_refl _) (Nat.zero_le _) rfl
  have HS0 := Lib.hid ((Span.refl 0 0 w).alloc (.cells #[] 9))
  go_enter Tryd.func31, Tryd.ntmps31
  go_wp2_with fail
  go_loopw [5, 6, 7] (fun v fr i wr => ∃ (k f : Nat) (ps : List (List UInt8)), k ≤ s.size ∧ i = .int .i64 k ∧ fr = .int .i64 f ∧ f ≤ k ∧ splitSt (l.take k) = (ps, (l.take k).drop f) ∧ ps.length ≤ k ∧ (∃ A q, v = .slice A ps.length q) ∧ wr.ownsRow w.heap.size 9 1 v ps.length (ps.map strV) ∧ Span 0 0 w wr) (fun _ _ i _ => s.size - (intOf i).toNat)
  case atStart => exact ⟨0, 0, [], Nat.zero_le _, rfl, rfl, Nat.le_refl _, by simp [splitSt], Nat.le_refl _, ⟨_, _, rfl⟩, HO0.out, HS0.out⟩
  case round =>
    clear HO0 HS0
    obtain ⟨k, f, ps, hk, rfl, rfl, hf, hst, hps, ⟨A, q, rfl⟩, ho, hsp2⟩ := hrel
    have HST := Lib.hid hst
    have HO := Lib.hid ho
    have HS := Lib.hid hsp2
    clear hst ho hsp2
    by_cases hlt : k < s.size
    · have f0 : (f : Int) ≤ (k : Int) := by omega
      have f1 : (k : Int) ≤ (s.size : Int) := by omega
      have HPE := Lib.hid (piece_eq s f k hf)
      go_wp2_with (at_builtin; go_loud ((refine wpList_append_own _ rfl (.tmp 20) (.tmp 25) 53 rfl w.heap.size 9 ip (.string ⟨#[]⟩) 1 16 Tryd.underlying53 hip hzp hsp hbp rfl (by decide) _ _ _ rfl (HO.out.alloc _) ⟨wr.heap.size, 0, none⟩ 1 1 [.string (s.extract f k)] rfl rfl ?c1 ?c2 ?c3 ?c4 ?c5 ?_); (case c1 => exact one_new _ _ _); (case c2 => exact one_cell (by rfl)); (case c3 => unfold maxLen; omega); (case c4 => omega); (case c5 => have := HS.out.size; simp; omega); intro v2 w4 ho4 hg4 _; obtain ⟨A4, q4, rfl⟩ := ownsRow_slice ho4; have HO4 := Lib.hid ho4; have HG4 := Lib.hid hg4; clear ho4 hg4))
      · have h112 : ((s[k].toNat : Int) == 112) = true := by assumption
        go_roundw
        case rel =>
          have hc : s[k] = 112 := byte_eq h112
          refine ⟨k + 1, k + 1, ps ++ [(l.take k).drop f], by omega, by go_num, by go_num, Nat.le_refl _, ?_, by simp; omega, ⟨A4, q4, by simp⟩, ?_, (HS.out.alloc _).grown HG4.out (fun j hj => by have := (HO.out.lt j hj).1; right; omega)⟩
          · rw [take_at HL.out hlt, splitSt_snoc, if_pos hc, HST.out]
            simp [HLEN.out, Nat.le_of_lt hlt]
          · have h := HO4.out
            have e := HPE.out
            rw [← HL.out] at e
            rw [e] at h
            rw [List.map_append]
            simpa using h
        case measure => simp [intOf]; omega
      · have h112 : ((s[k].toNat : Int) == 112) = false := by assumption
        go_roundw
        case rel =>
          have hc : s[k] ≠ 112 := byte_ne h112
          refine ⟨k + 1, f, ps, by omega, by go_num, rfl, by omega, ?_, by omega, ⟨_, _, rfl⟩, HO.out, HS.out⟩
          rw [take_at HL.out hlt, splitSt_snoc, if_neg hc, HST.out]
          rw [List.drop_append_of_le_length (by rw [List.length_take, HLEN.out]; omega)]
        case measure => simp [intOf]; omega
    · have hke : k = s.size := by omega
      have HK := Lib.hid hke
      have f0 : (f : Int) ≤ (s.size : Int) := by omega
      have HPE := Lib.hid (piece_eq s f s.size (by omega))
      clear hke
      go_wp2_with (at_builtin; go_loud ((refine wpList_append_own _ rfl (.tmp 29) (.tmp 33) 53 rfl w.heap.size 9 ip (.string ⟨#[]⟩) 1 16 Tryd.underlying53 hip hzp hsp hbp rfl (by decide) _ _ _ rfl (HO.out.alloc _) ⟨wr.heap.size, 0, none⟩ 1 1 [.string (s.extract f s.size)] rfl rfl ?d1 ?d2 ?d3 ?d4 ?d5 ?_); (case d1 => exact one_new _ _ _); (case d2 => exact one_cell (by rfl)); (case d3 => unfold maxLen; omega); (case d4 => omega); (case d5 => have := HS.out.size; simp; omega); intro v2 w4 ho4 hg4 _; obtain ⟨A4, q4, rfl⟩ := ownsRow_slice ho4; have HO4 := Lib.hid ho4; have HG4 := Lib.hid hg4; clear ho4 hg4))
      go_ret
      have h := HO4.out
      have e := HPE.out
      rw [← HL.out] at e
      rw [e] at h
      have e2 : splitL l = ps ++ [(l.take s.size).drop f] := by
        have h1 := HST.out
        rw [HK.out] at h1
        rw [List.take_of_length_le (by rw [HLEN.out]; exact Nat.le_refl _)] at h1 ⊢
        unfold splitL; rw [h1]
      have h2 : w4.ownsRow w.heap.size 9 1 (.slice A4 (ps.length + 1) q4) (ps.length + 1) ((splitL l).map strV) := by
        rw [e2, List.map_append]; exact h
      obtain ⟨b, hb, _, _⟩ := ownsRow_hasS h2
      exact ⟨_, b, rfl, hb, (HS.out.alloc _).grown HG4.out (fun j hj => by have := (HO.out.lt j hj).1; right; omega)⟩
end Go.Proofs.YthcccliiokckjaaDoor
