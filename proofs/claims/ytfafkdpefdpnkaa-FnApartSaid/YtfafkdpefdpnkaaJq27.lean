/- Frames made of samples, and samples of frames. -/
import Derived.Test.YtfafkdpefdpnkaaJq26
import Derived.Outline
namespace Go.Proofs.Ytfafkdpefdpnkaa
open Go.RowKit

@[go_sem] theorem run_arrayAt_fr (a : Option Addr) (c : Nat) (w : World) : (Instr.arrayAt 37 (.slice a 8 c)).run Try.prog w = .ok (.pointer a) w :=
  run_arrayAt w 37 35 8 a 8 c Try.underlying37 (Nat.le_refl _)

theorem fr_split : ∀ {R : List Cx}, 8 ≤ R.length → ∃ F R', R = Fr.l F ++ R'
  | a :: b :: c :: d :: e :: f :: g :: h :: R, _ => ⟨⟨a, b, c, d, e, f, g, h⟩, R, rfl⟩
  | [], h => absurd h (by simp)
  | [_], h => absurd h (by simp)
  | [_, _], h => absurd h (by simp)
  | [_, _, _], h => absurd h (by simp)
  | [_, _, _, _], h => absurd h (by simp)
  | [_, _, _, _, _], h => absurd h (by simp)
  | [_, _, _, _, _, _], h => absurd h (by simp)
  | [_, _, _, _, _, _, _], h => absurd h (by simp)

theorem HasS.rest {o : Bool} {b off lo hi n c : Nat} {w : World} {R R' : List Cx} {F : Fr} (h : HasS cxV o b lo hi w (.slice (some ⟨b, off, none⟩) n c) R) (hr : R = F.l ++ R') :
    HasS cxV o b lo hi w (.slice (if c = 8 then some ⟨b, off, none⟩ else some ⟨b, off + 8, none⟩) (n - 8) (c - 8)) R' := by
  obtain ⟨A', cap, e, hcap, hc⟩ := h
  injection e with e1 e2 e3
  subst e1 e2 e3
  have hl : R.length = 8 + R'.length := by rw [hr, List.length_append]; rfl
  refine ⟨_, _, by rw [hl, Nat.add_sub_cancel_left], by omega, fun hp => ?_⟩
  obtain ⟨off', e4, g1, g2, g3, g4, g5⟩ := hc (by omega)
  injection e4 with e4
  injection e4 with _ e5
  subst e5
  rw [if_neg (by omega)]
  refine ⟨_, rfl, g1, g2, g3, fun j x hj => ?_, fun ho j hj => ?_⟩
  · have := g4 (8 + j) x (by rw [hr, List.getElem?_append_right (by rw [Fr.len]; omega), Fr.len, Nat.add_sub_cancel_left]; exact hj)
    rw [Nat.add_assoc]; exact this
  · rw [Nat.add_assoc]; exact g5 ho (8 + j) (by omega)

theorem HasS.grownF {α : Type} {val : α → Value} {own : Bool} {b lo hi : Nat} {w w' : World} {v : Value} {xs : List α} {row : Option Nat} (h : HasS val own b lo hi w v xs) (hg : w.grownBy w' row) (hne : ∀ k, row = some k → b ≠ k) : HasS val own b lo hi w' v xs :=
  h.same (fun hb => ⟨Nat.lt_of_lt_of_le hb hg.size, hg.block b hb (fun e => hne b e.symm rfl)⟩)

theorem HasS.fr {o : Bool} {b off lo hi n c : Nat} {w : World} {R R' : List Cx} {F : Fr} (h : HasS cxV o b lo hi w (.slice (some ⟨b, off, none⟩) n c) R) (hr : R = F.l ++ R') : FrAt w b off F := by
  obtain ⟨A', cap, e, hcap, hc⟩ := h
  injection e with e1 e2 e3
  subst e1 e2 e3
  have hl : R.length = 8 + R'.length := by rw [hr, List.length_append]; rfl
  obtain ⟨off', e4, g1, g2, g3, g4, g5⟩ := hc (by omega)
  injection e4 with e4
  injection e4 with _ e5
  subst e5
  have g : ∀ j x, F.l[j]? = some x → w.cell? ⟨b, off + j, none⟩ = some (cxV x) := fun j x hj => g4 j x (by rw [hr, List.getElem?_append_left (List.getElem?_eq_some_iff.1 hj).1]; exact hj)
  exact ⟨g 0 _ rfl, g 1 _ rfl, g 2 _ rfl, g 3 _ rfl, g 4 _ rfl, g 5 _ rfl, g 6 _ rfl, g 7 _ rfl⟩

theorem HasS.some_ {α : Type} {val : α → Value} {o : Bool} {b lo hi n c : Nat} {w : World} {A : Option Addr} {xs : List α} (h : HasS val o b lo hi w (.slice A n c) xs) (hp : 0 < xs.length) : n = xs.length ∧ n ≤ c ∧ ∃ off, A = some ⟨b, off, none⟩ := by
  obtain ⟨A', cap, e, hcap, hc⟩ := h
  injection e with e1 e2 e3
  subst e1 e2 e3
  obtain ⟨off, e, _⟩ := hc hp
  exact ⟨rfl, hcap, off, e⟩

/-- A slice's length. -/
def lenOf : Value → Nat
  | .slice _ n _ => n
  | _ => 0

/-- Frames, and what is left. -/
def Chopped (L : List Cx) (w : World) (e : Ending) (w' : World) : Prop :=
  ∃ (v v2 : Value) (Fs : List Fr) (R : List Cx) (m b2 : Nat), e = .returned (.tuple #[v, v2]) ∧ Fs.flatMap Fr.l ++ R = L ∧ R.length < 8 ∧ w'.ownsRow w.heap.size 37 8 v Fs.length (flatF Fs) ∧
    (∀ k, v.ownBlock = some k → k < m) ∧ w.heap.size ≤ m ∧ HasS cxV true b2 m w'.heap.size w' v2 R ∧ Span 0 0 w w'

set_option maxRecDepth 100000 in
set_option maxHeartbeats 4000000 in
theorem framesOf_any (L : List Cx) (o : Bool) (b lo hi : Nat) (v : Value) (w : World) (hx : HasS cxV o b lo hi w v L) (hm : L.length ≤ 4194304) : Calls Try.prog 6 #[v] w (Chopped L w) := by
  have HX := Lib.hid hx
  have HM := Lib.hid hm
  obtain ⟨A, cap, rfl, hcap, -⟩ := hx
  obtain ⟨len, hl⟩ : ∃ len, len = L.length := ⟨_, rfl⟩
  have HL := Lib.hid hl
  rw [← hl] at HX hcap hm ⊢
  clear hl
  obtain ⟨ip, hip, hzp, hsp, hbp⟩ := info_parts info_frame
  obtain ⟨q, Z, hZ, hmk, hq⟩ : ∃ (q : Nat) (Z : Array Value), Z.size = q * 8 ∧ (Instr.makeSlice 25 (.int .i64 0) (.int .i64 ((len : Int) / 8))).run Try.prog w = .ok (.slice (some ⟨w.heap.size, 0, none⟩) 0 q) (w.alloc (.cells Z 37)) ∧ q ≤ 4194304 := by
    have h0 : (0 : Int) ≤ (len : Int) / 8 := by omega
    have h1 : (len : Int) / 8 ≤ 4194304 := by omega
    have := run_make (P := Try.prog) w 25 37 ip _ Try.underlying25 hip hzp .i64 .i64 0 ((len : Int) / 8) (Int.le_refl _) h0 (by rw [hbp]; omega) (by omega)
    refine ⟨_, _, ?_, this, by omega⟩
    rw [hsp]
    unfold madeCells
    simp
  have HO0 := Lib.hid (World.ownsRow_made (base := w.heap.size) (e := 37) (size := 8) w Z q (Nat.le_refl _) (by unfold maxLen; omega) hZ)
  have HX0 := Lib.hid (HX.out.alloc (.cells Z 37))
  have HS0 := Lib.hid ((Span.refl 0 0 w).alloc (.cells Z 37))
  have HCL := Lib.hid hcap
  clear hZ hq
  go_enter Try.func6, Try.ntmps6
  go_wp2_with fail
  clear hmk
  have HZ0 : Hid (w.heap.size < (w.alloc (.cells Z 37)).heap.size) := Lib.hid (by simp)
  generalize w.alloc (.cells Z 37) = w0 at *
  go_loopw [0, 4] (fun s u wr => ∃ (Fs : List Fr) (R : List Cx) (A' : Option Addr) (c : Nat), s = .slice A' R.length c ∧ HasS cxV o b lo hi wr (.slice A' R.length c) R ∧ Fs.flatMap Fr.l ++ R = L ∧ wr.ownsRow w.heap.size 37 8 u Fs.length (flatF Fs) ∧ Span 0 0 w wr ∧ w.heap.size < wr.heap.size ∧ Fs.length * 8 + R.length ≤ len) (fun s _ _ => lenOf s)
  case atStart => exact ⟨[], L, A, cap, by rw [HL.out], by rw [← HL.out]; exact HX0.out, by simp, HO0.out, HS0.out, HZ0.out, by simp; rw [HL.out]; exact Nat.le_refl _⟩
  case round =>
    clear HO0 HX0 HS0
    obtain ⟨Fs, R, A', c, rfl, hx, hcat, ho, hs, hz, hlen⟩ := hrel
    have HXr := Lib.hid hx
    have HCAT := Lib.hid hcat
    have HOr := Lib.hid ho
    have HSr := Lib.hid hs
    have HZr := Lib.hid hz
    have HLr := Lib.hid hlen
    clear hx hcat ho hs hz hlen
    by_cases h8 : 8 ≤ R.length
    · obtain ⟨F, R', hR⟩ := fr_split h8
      have HR := Lib.hid hR
      obtain ⟨-, hc, off, rfl⟩ := HXr.out.some_ (show 0 < R.length by omega)
      obtain ⟨a0, a1, a2, a3, a4, a5, a6, a7⟩ := HXr.out.fr hR
      have HXn := Lib.hid (HXr.out.rest hR)
      have HRL : Hid (R.length = 8 + R'.length) := Lib.hid (by rw [hR, List.length_append]; rfl)
      obtain ⟨⟨x0, x1⟩, ⟨x2, x3⟩, ⟨x4, x5⟩, ⟨x6, x7⟩, ⟨x8, x9⟩, ⟨x10, x11⟩, ⟨x12, x13⟩, ⟨x14, x15⟩⟩ := F
      unfold cxV at a0 a1 a2 a3 a4 a5 a6 a7
      simp only at a0 a1 a2 a3 a4 a5 a6 a7
      obtain ⟨r, hr⟩ : ∃ r, r = R.length := ⟨_, rfl⟩
      rw [← hr] at h8 hc HRL HLr ⊢
      have HRr := Lib.hid hr
      have i1 : (8 : Int) ≤ (r : Int) := by omega
      have i3 : 8 ≤ c := by omega
      have i4 : (8 : Int) ≤ (c : Int) := by omega
      have i5 : ¬ c = 0 := by omega
      have i6 : ¬ c < 8 := by omega
      have i7 : ¬ r < 8 := by omega
      clear hr hR
      go_wp2_with (at_builtin; go_loud (refine wpList_append_own_at _ rfl _ _ 25 rfl w.heap.size 37 ip _ 8 64 Try.underlying25 hip hzp hsp hbp rfl (by decide) _ _ _ rfl (HOr.out.alloc _) ⟨wr.heap.size, 0, none⟩ 1 1 (frC ⟨(x0, x1), (x2, x3), (x4, x5), (x6, x7), (x8, x9), (x10, x11), (x12, x13), (x14, x15)⟩) rfl rfl ?c1 ?c2 ?c3 ?c4 ?c5 ?_; (case c1 => exact World.news_of_block (heap_alloc_new _ _)); (case c2 => exact fun u hu => flatF_one' (L := [⟨(x0, x1), (x2, x3), (x4, x5), (x6, x7), (x8, x9), (x10, x11), (x12, x13), (x14, x15)⟩]) u (by rw [flatF_one]; exact hu)); (case c3 => have := HLr.out; have := HM.out; have := HL.out; unfold maxLen; omega); (case c4 => have := HLr.out; have := HM.out; have := HL.out; omega); (case c5 => have := HZr.out; simp; omega); intro v1 w5 ho hgr _ _; have HO5 := Lib.hid ho; have HG5 := Lib.hid hgr; clear ho hgr))
      have HV5 := Lib.hid (show ∃ A5 q5, v1 = .slice A5 (Fs.length + 1) q5 from by
        rcases HO5.out.2 with ⟨_, h⟩ | ⟨g, cap, cur, rfl, _⟩
        · exact absurd h (by omega)
        · exact ⟨_, _, rfl⟩)
      have hrl := HRL.out
      have hbw : b < w.heap.size := HX.out.lt (by have := HLr.out; have := HL.out; omega)
      have hrow : ∀ k, _ = some k → b ≠ k := fun k hk => by have := (HOr.out.lt k hk).1; omega
      refine ⟨⟨Fs ++ [⟨(x0, x1), (x2, x3), (x4, x5), (x6, x7), (x8, x9), (x10, x11), (x12, x13), (x14, x15)⟩], R', _, c - 8, by rw [show r - 8 = R'.length by omega], ?_, ?_, ?_, (HSr.out.alloc _).grown HG5.out (fun k hk => .inr (HOr.out.lt k hk).1), ?_, ?_⟩, ?_⟩
      · have h := (HXn.out.alloc (.cells #[.complex .f32 x0 x1, .complex .f32 x2 x3, .complex .f32 x4 x5, .complex .f32 x6 x7, .complex .f32 x8 x9, .complex .f32 x10 x11, .complex .f32 x12 x13, .complex .f32 x14 x15] 37)).grownF HG5.out hrow
        rw [← HRr.out, show r - 8 = R'.length by omega] at h
        exact h
      · rw [List.flatMap_append, List.flatMap_cons, List.flatMap_nil, List.append_nil, List.append_assoc, ← HR.out]; exact HCAT.out
      · have h := HO5.out
        rw [List.length_append, List.length_singleton, flatF_append, flatF_one]
        exact h
      · have := HG5.out.size; have := HZr.out; simp at *; omega
      · have := HLr.out; rw [List.length_append, List.length_singleton]; omega
      · show r - 8 < r; omega
    · have HN8 := Lib.hid h8
      obtain ⟨r, hr⟩ : ∃ r, r = R.length := ⟨_, rfl⟩
      have HRr := Lib.hid hr
      rw [← hr] at h8 ⊢
      have i1 : ¬ (8 : Int) ≤ (r : Int) := by omega
      have HCC := Lib.hid (cloneC_any R o b lo hi (.slice A' r c) wr (by rw [hr]; exact HXr.out) (by have := HLr.out; have := HM.out; have := HL.out; omega))
      obtain ⟨A4, q4, rfl⟩ := ownsRow_slice HOr.out
      clear hr
      go_wp2_with fail
      refine HCC.out.mono ?_
      rintro _ w6 ⟨v6, b6, rfl, h6, s6⟩
      have H6 := Lib.hid h6
      have S6 := Lib.hid s6
      clear h6 s6
      go_wp2_with fail
      refine bodyPost_ret (v := .tuple #[.slice A4 Fs.length q4, v6]) (by simp [results, Try.results6, go_sem]) rfl ?_
      exact ⟨_, _, Fs, R, wr.heap.size, b6, rfl, HCAT.out, by have := HN8.out; omega, ownsRow_keep HOr.out S6.out, fun k hk => (HOr.out.lt k hk).2, HSr.out.size, H6.out, HSr.out.trans S6.out⟩

/-- Samples that the call owns. -/
def OwnsC (xs : List Cx) (w : World) (e : Ending) (w' : World) : Prop :=
  ∃ v, e = .returned v ∧ w'.ownsRow w.heap.size 35 1 v xs.length (xs.map cxV) ∧ Span 0 0 w w'
theorem flatL_length : ∀ L : List Fr, (L.flatMap Fr.l).length = L.length * 8
  | [] => rfl
  | x :: L => by rw [List.flatMap_cons, List.length_append, flatL_length L, List.length_cons]; show 8 + _ = _; omega

set_option maxRecDepth 100000 in
set_option maxHeartbeats 4000000 in
theorem samplesOf_any (L : List Fr) (b lo hi : Nat) (v : Value) (w : World) (hx : HasFr b lo hi w v L) (hm : L.length ≤ 524288) : Calls Try.prog 8 #[v] w (OwnsC (L.flatMap Fr.l) w) := by
  have HX := Lib.hid hx
  have HM := Lib.hid hm
  obtain ⟨A, cap, rfl, hcap, -⟩ := hx
  obtain ⟨len, hl⟩ : ∃ len, len = L.length := ⟨_, rfl⟩
  have HL := Lib.hid hl
  rw [← hl] at HX hcap hm ⊢
  clear hl
  obtain ⟨ip, hip, hzp, hsp, hbp⟩ := info_parts info_c64
  have i2 : (len : Int) ≤ 524288 := by omega
  obtain ⟨q, Z, hZ, hmk, hq⟩ : ∃ (q : Nat) (Z : Array Value), Z.size = q * 1 ∧ (Instr.makeSlice 23 (.int .i64 0) (.int .i64 ((len : Int) * 8))).run Try.prog w = .ok (.slice (some ⟨w.heap.size, 0, none⟩) 0 q) (w.alloc (.cells Z 35)) ∧ q ≤ 4194304 := by
    have h0 : (0 : Int) ≤ (len : Int) * 8 := by omega
    have := run_make (P := Try.prog) w 23 35 ip _ Try.underlying23 hip hzp .i64 .i64 0 ((len : Int) * 8) (Int.le_refl _) h0 (by rw [hbp]; omega) (by omega)
    refine ⟨_, _, ?_, this, by omega⟩
    rw [hsp]
    unfold madeCells
    simp
  have HO0 := Lib.hid (World.ownsRow_made (base := w.heap.size) (e := 35) (size := 1) w Z q (Nat.le_refl _) (by unfold maxLen; omega) hZ)
  have HS0 := Lib.hid ((Span.refl 0 0 w).alloc (.cells Z 35))
  have HZ0 : Hid (w.heap.size < (w.alloc (.cells Z 35)).heap.size) := Lib.hid (by simp)
  clear hZ hq hcap hm
  go_enter Try.func8, Try.ntmps8
  go_wp2_with fail
  clear hmk
  generalize w.alloc (.cells Z 35) = w0 at *
  go_loopw [3, 5, 12] (fun u _ c wr => ∃ (k : Nat) (xs : List Cx), k ≤ len ∧ c = .int .i64 k ∧ xs = (L.take k).flatMap Fr.l ∧ wr.ownsRow w.heap.size 35 1 u xs.length (xs.map cxV) ∧ Span 0 0 w wr ∧ w.heap.size < wr.heap.size) (fun _ _ c _ => len - (intOf c).toNat)
  case atStart => exact ⟨0, [], Nat.zero_le _, rfl, rfl, HO0.out, HS0.out, HZ0.out⟩
  case round =>
    clear HO0 HS0 HZ0
    obtain ⟨k, xs, hk, rfl, hxs, ho, hs, hz⟩ := hrel
    have HXS := Lib.hid hxs
    have HOr := Lib.hid ho
    have HSr := Lib.hid hs
    have HZr := Lib.hid hz
    have HXr := Lib.hid (HX.out.keep hs)
    have HXL : Hid (xs.length ≤ 4194304) := Lib.hid (by rw [hxs, flatL_length, List.length_take]; have := HM.out; omega)
    clear hxs ho hs hz
    by_cases hlt : k < len
    · obtain ⟨F, hF⟩ := getElem?_some (xs := L) (j := k) (by rw [← HL.out]; exact hlt)
      obtain ⟨-, -, off, rfl, hat⟩ := HXr.out.at_ hF
      have HTK : Hid ((L.take (k + 1)).flatMap Fr.l = xs ++ F.l) := Lib.hid (by rw [take_snoc_of hF, List.flatMap_append, HXS.out, List.flatMap_cons, List.flatMap_nil, List.append_nil])
      obtain ⟨⟨x0, x1⟩, ⟨x2, x3⟩, ⟨x4, x5⟩, ⟨x6, x7⟩, ⟨x8, x9⟩, ⟨x10, x11⟩, ⟨x12, x13⟩, ⟨x14, x15⟩⟩ := F
      obtain ⟨a0, a1, a2, a3, a4, a5, a6, a7⟩ := hat
      unfold cxV at a0 a1 a2 a3 a4 a5 a6 a7
      simp only at a0 a1 a2 a3 a4 a5 a6 a7
      have SS := Lib.hid ((Span.refl 0 0 wr).alloc (.cells #[.complex .f32 x0 x1, .complex .f32 x2 x3, .complex .f32 x4 x5, .complex .f32 x6 x7, .complex .f32 x8 x9, .complex .f32 x10 x11, .complex .f32 x12 x13, .complex .f32 x14 x15] 37))
      clear hF
      go_wp2_with (at_builtin; go_loud (refine wpList_append_own_at _ rfl _ _ 23 rfl w.heap.size 35 ip _ 1 8 Try.underlying23 hip hzp hsp hbp rfl (by decide) _ _ _ rfl (HOr.out.alloc _) ⟨wr.heap.size, 0, none⟩ 8 8 (frC ⟨(x0, x1), (x2, x3), (x4, x5), (x6, x7), (x8, x9), (x10, x11), (x12, x13), (x14, x15)⟩) rfl rfl ?c1 ?c2 ?c3 ?c4 ?c5 ?_; (case c1 => exact World.news_of_block (heap_alloc_new _ _)); (case c2 => exact fun u hu => flatF_one' (L := [⟨(x0, x1), (x2, x3), (x4, x5), (x6, x7), (x8, x9), (x10, x11), (x12, x13), (x14, x15)⟩]) u (by rw [flatF_one]; exact hu)); (case c3 => have := HXL.out; unfold maxLen; omega); (case c4 => have := HXL.out; omega); (case c5 => have := HZr.out; have := SS.out.size; omega); intro v1 w5 ho hgr _ _; have HO5 := Lib.hid ho; have HG5 := Lib.hid hgr; clear ho hgr))
      go_roundw
      case rel =>
        have s5 : Span 0 0 w w5 := (HSr.out.alloc _).grown HG5.out (fun k' hk' => .inr (HOr.out.lt k' hk').1)
        have hz5 := HG5.out.size
        refine ⟨k + 1, xs ++ Fr.l ⟨(x0, x1), (x2, x3), (x4, x5), (x6, x7), (x8, x9), (x10, x11), (x12, x13), (x14, x15)⟩, by omega, by go_num, HTK.out.symm, ?_, s5, by have := HZr.out; simp at hz5; omega⟩
        · have h := HO5.out
          rw [List.length_append, List.map_append]
          exact h
      case measure => simp [intOf]; omega
    · have hke : k = len := by omega
      have HK := Lib.hid hke
      have HXE : Hid (xs = L.flatMap Fr.l) := Lib.hid (by rw [HXS.out, hke, HL.out, List.take_length])
      clear hke
      go_wp2_with fail
      go_ret
      rw [← HXE.out]
      exact ⟨_, rfl, HOr.out, HSr.out⟩
end Go.Proofs.Ytfafkdpefdpnkaa
