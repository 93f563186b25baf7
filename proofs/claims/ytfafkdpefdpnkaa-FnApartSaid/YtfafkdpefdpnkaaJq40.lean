/- The model's pools: which samples are taken; a valid pool is valid. -/
import Derived.Test.YtfafkdpefdpnkaaJq39
import Derived.Test.YtfafkdpefdpnkaaJq8
namespace Go.Proofs.Ytfafkdpefdpnkaa
open Go.RowKit

theorem Filled.store {w : World} {g : Nat} {e : TypeId} {n : Nat} {f : Nat → Value} (h : Filled w g e n n f) {j : Nat} (u : Value) : Filled (w.setCell ⟨g, j, none⟩ u) g e n n (fun i => if i = j then u else f i) := by
  obtain ⟨cs, hh, hs, hc⟩ := h
  have hg : g < w.heap.size := (Array.getElem?_eq_some_iff.1 hh).1
  refine ⟨cs.setIfInBounds j u, ?_, by simpa using hs, fun i hi => ?_⟩
  · unfold World.setCell
    simp [Array.getElem?_modify, hh]
  · by_cases e : i = j
    · subst e
      simp [hs, hi]
    · rw [Array.getElem?_setIfInBounds_ne (Ne.symm e), hc i hi]; simp only [if_neg e]

theorem Filled.span {w w' : World} {g : Nat} {e : TypeId} {n k : Nat} {f : Nat → Value} {l r : Nat} (h : Filled w g e n k f) (s : Span l r w w') (hd : r ≤ l ∨ g < l ∨ r ≤ g) : Filled w' g e n k f := by
  obtain ⟨cs, hh, hs, hc⟩ := h
  have hg : g < w.heap.size := (Array.getElem?_eq_some_iff.1 hh).1
  exact ⟨cs, by rw [s.block g hg (by omega)]; exact hh, hs, hc⟩

theorem Filled.congr' {w : World} {g : Nat} {e : TypeId} {n : Nat} {f f' : Nat → Value} (h : Filled w g e n n f) (hf : ∀ i, i < n → f i = f' i) : Filled w g e n n f' := by
  obtain ⟨cs, hh, hs, hc⟩ := h
  exact ⟨cs, hh, hs, fun j hj => by rw [hc j hj, hf j hj]⟩

theorem Filled.zeros (w : World) (e : TypeId) (z : Value) (n : Nat) : Filled (w.alloc (.cells (zerosV z n) e)) w.heap.size e n n (fun _ => z) :=
  ⟨zerosV z n, heap_alloc_new _ _, by simp [zerosV], fun j hj => by simp [zerosV, hj]⟩

/-- How often each sample is taken, in a row of the call's own. -/
def TakesS (p : Pl) (w : World) (e : Ending) (w' : World) : Prop :=
  ∃ g, e = .returned (.tuple #[.slice (some ⟨g, 0, none⟩) p.1.length p.1.length, .bool true]) ∧ Filled w' g 3 p.1.length p.1.length (fun i => .int .i64 (cnt p.2 i : Int)) ∧ w.heap.size ≤ g ∧ Span 0 0 w w'

/-- Four cells of a lease of the call's own. -/
theorem lsBox (w : World) (x : Ls) (t : TypeId) : LsAt (w.alloc (.cells #[.int .i64 (x.start : Int), .int .i64 (x.count : Int), .int .i64 (x.room : Int), .bool x.free] t)) w.heap.size 0 x := by
  refine ⟨?_, ?_, ?_, ?_⟩ <;> rw [World.cell?_alloc_new] <;> rfl

theorem wrap_le {x y : Nat} (h : x + y ≤ 4194304) : wrap64 ((x : Int) + (y : Int)) = ((x + y : Nat) : Int) := by
  rw [IntWalk.wrap64_in _ (by omega)]; omega
theorem wrap_sub {x y : Nat} (h : y ≤ x) (h2 : x ≤ 4194304) : wrap64 ((x : Int) - (y : Int)) = ((x - y : Nat) : Int) := by
  rw [IntWalk.wrap64_in _ (by omega)]; omega

theorem l1In_true (x a b : Int) (h : a ≤ x ∧ x ≤ b) (w : World) : Calls Try.prog 69 #[.int .i64 x, .int .i64 a, .int .i64 b] w fun e w' => e = .returned (.bool true) ∧ w = w' := by
  have := l1In_any x a b w
  rw [decide_eq_true h] at this
  exact this

set_option maxRecDepth 100000 in
set_option maxHeartbeats 4000000 in
theorem l3Taken_valid (p : Pl) (lo hi : Nat) (v : Value) (w : World) (hx : HasP lo hi w v p) (hp : VP p) :
    Calls Try.prog 71 #[v] w (TakesS p w) := by
  obtain ⟨b1, b2, vP, vL, rfl, g1, g2⟩ := hx
  obtain ⟨AP, cP, rfl, _, _⟩ := g1
  have G2 := Lib.hid g2
  obtain ⟨AL, cL, rfl, _, _⟩ := g2
  obtain ⟨n, hn⟩ : ∃ n, n = p.1.length := ⟨_, rfl⟩
  obtain ⟨ll, hll⟩ : ∃ n, n = p.2.length := ⟨_, rfl⟩
  have HV := Lib.hid hp
  have HNN := Lib.hid hn
  have HLL := Lib.hid hll
  have hn256 : n ≤ 256 := by rw [hn]; exact hp.size
  have hl16 : ll ≤ 16 := by rw [hll]; exact hp.most
  rw [← hll] at G2 ⊢
  rw [← hn]
  unfold TakesS
  rw [← hn]
  have X0 := Lib.hid ((Box.new w (.slice AP n cP) (.slice AL ll cL) 45).alloc (.cells (zerosV (.int .i64 0) n) 3))
  have HS := Lib.hid (((Span.refl 0 0 w).alloc (.cells #[.slice AP n cP, .slice AL ll cL] 45)).alloc (.cells (zerosV (.int .i64 0) n) 3))
  have HF := Lib.hid (Filled.zeros (w.alloc (.cells #[.slice AP n cP, .slice AL ll cL] 45)) 3 (.int .i64 0) n)
  rw [show (w.alloc (.cells #[.slice AP n cP, .slice AL ll cL] 45)).heap.size = w.heap.size + 1 by simp] at HF
  have hmk := run_make_zeros (P := Try.prog) (w.alloc (.cells #[.slice AP n cP, .slice AL ll cL] 45)) 32 3 (.int .i64 0) 8 Try.underlying32 info_int rfl n (by omega) (by omega)
  have H256 : Hid (n ≤ 256) := hn256
  clear hp hn hll
  obtain ⟨_, x0, x1, _, _⟩ := X0.out
  go_enter Try.func71, Try.ntmps71
  go_wp2_with fail
  clear hmk x0 x1
  go_loopw [15] (fun c wr => ∃ k : Nat, k ≤ ll ∧ c = .int .i64 k ∧ Filled wr (w.heap.size + 1) 3 n n (fun i => .int .i64 (cnt (p.2.take k) i : Int)) ∧ Box w.heap.size (.slice AP n cP) (.slice AL ll cL) wr ∧ Span 0 0 w wr) (fun c _ => ll - (intOf c).toNat)
  case atStart => exact ⟨0, Nat.zero_le _, rfl, HF.out, X0.out, HS.out⟩
  case round =>
    clear HF X0 HS
    obtain ⟨k, hk, rfl, hf, hx, hs⟩ := hrel
    by_cases hlt : k < ll
    · obtain ⟨x, hxk⟩ := getElem?_some (xs := p.2) (j := k) (by rw [← HLL.out]; exact hlt)
      obtain ⟨-, hb2, off, rfl, l0, l1, l2, l3⟩ := (G2.out.span hs (.inl (Nat.le_refl _))).at_ hxk
      have HXK := Lib.hid hxk
      have HOK := Lib.hid (HV.out.ok x (List.mem_of_getElem? hxk))
      have HF := Lib.hid hf
      have HX := Lib.hid hx
      have HS := Lib.hid hs
      have HKL : Hid (k < ll) := hlt
      have k0 : (0 : Int) ≤ (k : Int) := by omega
      have k1 : (k : Int) < (ll : Int) := by omega
      clear hf hx hs hxk hk
      obtain ⟨s, c, r, fr⟩ := x
      cases fr with
      | true =>
        obtain ⟨e1, e2, e3⟩ := HOK.out.fr rfl
        simp only at e1 e2 e3
        subst e1 e2 e3
        have HCT : Hid (∀ i, cnt (p.2.take (k + 1)) i = cnt (p.2.take k) i) := fun i => by
          rw [cnt_take HXK.out, covers_free rfl]; rfl
        simp only at l0 l1 l2 l3
        go_wp2_with fail
        go_roundw
        case rel => exact ⟨k + 1, HKL.out, by go_num, (HF.out.span ((Span.refl 0 0 wr).alloc _) (.inl (Nat.le_refl _))).congr' (fun i _ => by rw [HCT.out]), HX.out.alloc _, HS.out.alloc _⟩
        case measure => have := HKL.out; simp [intOf]; omega
      | false =>
        obtain ⟨o1, o2, o3⟩ := HOK.out.lent rfl
        simp only at o1 o2 o3 l0 l1 l2 l3
        rw [← HNN.out] at o3
        obtain ⟨N, hN⟩ : ∃ N, N = wr.heap.size := ⟨_, rfl⟩
        have HNB : Hid (w.heap.size + 1 < N) := by
          obtain ⟨cs, hh, _⟩ := HF.out
          rw [hN]; exact (Array.getElem?_eq_some_iff.1 hh).1
        have HB6 := Lib.hid (lsBox wr ⟨s, c, r, false⟩ 68)
        have HX2 := Lib.hid (HX.out.alloc (.cells #[.int .i64 (s : Int), .int .i64 (c : Int), .int .i64 (r : Int), .bool false] 68))
        have HF2 := Lib.hid (HF.out.span ((Span.refl 0 0 wr).alloc (.cells #[.int .i64 (s : Int), .int .i64 (c : Int), .int .i64 (r : Int), .bool false] 68)) (.inl (Nat.le_refl _)))
        have HS2 := Lib.hid (HS.out.alloc (.cells #[.int .i64 (s : Int), .int .i64 (c : Int), .int .i64 (r : Int), .bool false] 68))
        obtain ⟨_, x0, x1, _, _⟩ := HX2.out
        clear hb2
        go_wp2_with fail
        clear l0 l1 l2 l3
        generalize wr.alloc (.cells #[.int .i64 (s : Int), .int .i64 (c : Int), .int .i64 (r : Int), .bool false] 68) = wl at *
        rw [← hN] at HB6 ⊢
        clear hN
        obtain ⟨l0, l1, l2, l3⟩ := HB6.out
        refine (l1In_true _ _ _ ⟨by omega, by omega⟩ wl).mono ?_
        rintro _ _ ⟨rfl, rfl⟩
        go_wp2_with fail
        refine (l1In_true _ _ _ ⟨by omega, by omega⟩ wl).mono ?_
        rintro _ _ ⟨rfl, rfl⟩
        go_wp2_with fail
        refine (l1In_true _ _ _ ⟨by omega, by omega⟩ wl).mono ?_
        rintro _ _ ⟨rfl, rfl⟩
        have HC1 : Hid (∀ i, cnt (p.2.take k) i ≤ 1) := fun i => Nat.le_trans (cnt_le k i) (HV.out.one i)
        go_wp2_with fail
        clear x0 x1 l0 l1 l2 l3
        go_loopw [7] (fun q wi => ∃ j : Nat, (s ≤ j ∧ j ≤ s + r) ∧ q = .int .i64 (j : Int) ∧ Filled wi (w.heap.size + 1) 3 n n (fun i => .int .i64 ((cnt (p.2.take k) i + (if s ≤ i ∧ i < j then 1 else 0) : Nat) : Int)) ∧ Box w.heap.size (.slice AP n cP) (.slice (some ⟨b2, off, none⟩) ll cL) wi ∧ LsAt wi N 0 ⟨s, c, r, false⟩ ∧ Span 0 0 w wi) (fun q _ => s + r - (intOf q).toNat)
        case atStart => exact ⟨s, ⟨Nat.le_refl _, by omega⟩, rfl, HF2.out.congr' (fun i _ => by rw [if_neg (by omega), Nat.add_zero]), HX2.out, HB6.out, HS2.out⟩
        case round =>
          clear HF2 HX2 HB6 HS2
          obtain ⟨j, ⟨hj0, hj1⟩, rfl, hf, hx, hl, hs⟩ := hrel
          obtain ⟨l0, l1, l2, l3⟩ := id hl
          have HF3 := Lib.hid hf
          have HX3 := Lib.hid hx
          have HB3 := Lib.hid hl
          have HS3 := Lib.hid hs
          clear hx hl hs
          by_cases hjr : j < s + r
          · have cf := hf.at_ (j := j) (by omega)
            rw [if_neg (by omega), Nat.add_zero] at cf
            have ff := hf.frozen j
            have hc1 : (cnt (p.2.take k) j : Int) ≤ 1 := by have := HC1.out j; omega
            have j0 : (0 : Int) ≤ (j : Int) := by omega
            have j1 : (j : Int) < (n : Int) := by omega
            have HJ : Hid (s ≤ j + 1 ∧ j + 1 ≤ s + r) := ⟨by omega, by omega⟩
            clear hf
            go_wp2_with fail
            go_roundw
            case rel =>
              have sp : ∀ u, Span (w.heap.size + 1) (w.heap.size + 1 + 1) wr (wr.setCell ⟨w.heap.size + 1, j, none⟩ u) := fun u => (Span.refl (w.heap.size + 1) (w.heap.size + 1 + 1) wr).setCell (.inl ⟨Nat.le_refl _, Nat.lt_succ_self _⟩) _
              refine ⟨j + 1, HJ.out, by go_num, (HF3.out.store _).congr' (fun i _ => ?_), HX3.out.span (sp _) (.inr (.inl (Nat.lt_succ_self _))), HB3.out.span (sp _) (.inr (.inr HNB.out)), HS3.out.setCell (.inr (Nat.le_succ _)) _⟩
              by_cases e : i = j
              · subst e
                rw [if_pos rfl, if_pos ⟨by omega, by omega⟩]
                rfl
              · rw [if_neg e]
                by_cases e2 : s ≤ i ∧ i < j
                · rw [if_pos e2, if_pos ⟨e2.1, by omega⟩]
                · rw [if_neg e2, if_neg (by omega)]
            case measure => simp [intOf]; omega
          · have hj : j = s + r := by omega
            subst hj
            have HCT : Hid (∀ i, cnt (p.2.take (k + 1)) i = cnt (p.2.take k) i + (if s ≤ i ∧ i < s + r then 1 else 0)) := fun i => by
              rw [cnt_take HXK.out]
              congr 1
              by_cases e : s ≤ i ∧ i < s + r
              · rw [if_pos e, (covers_lent (x := ⟨s, c, r, false⟩) rfl i).2 e]; rfl
              · rw [if_neg e, show covers ⟨s, c, r, false⟩ i = false by rw [← Bool.not_eq_true, covers_lent rfl]; exact e]; rfl
            clear hf hjr
            go_wp2_with fail
            go_roundw
            case rel => exact ⟨k + 1, HKL.out, by go_num, HF3.out.congr' (fun i _ => by rw [HCT.out]), HX3.out, HS3.out⟩
            case measure => have := HKL.out; simp [intOf]; omega
    · have hke : ll = k := by omega
      subst hke
      have HFN := Lib.hid hf
      have HSN := Lib.hid hs
      clear hf hx hs hk hlt
      go_wp2_with fail
      go_ret2
      exact ⟨_, rfl, HFN.out.congr' (fun i _ => by rw [HLL.out, List.take_length]), Nat.le_succ _, HSN.out⟩

/-- Of a valid pool no sample is taken twice. -/
theorem spec_isPool_true (p : Pl) (lo hi : Nat) (v : Value) (w : World) (hx : HasP lo hi w v p) (hp : VP p) :
    Calls Try.prog 70 #[v] w (Bool0 true w) := by
  have HX := Lib.hid hx
  have HV := Lib.hid hp
  obtain ⟨AS, cS, AL, cL, rfl⟩ := hx.form
  obtain ⟨n, hn⟩ : ∃ n, n = p.1.length := ⟨_, rfl⟩
  obtain ⟨ll, hll⟩ : ∃ n, n = p.2.length := ⟨_, rfl⟩
  have hn256 : (n : Int) ≤ 256 := by have := hp.size; rw [← hn] at this; omega
  have hl16 : (ll : Int) ≤ 16 := by have := hp.most; rw [← hll] at this; omega
  have HNN := Lib.hid hn
  rw [← hn, ← hll] at HX ⊢
  have X0 := Lib.hid (Box.new w (.slice AS n cS) (.slice AL ll cL) 45)
  have HS := Lib.hid ((Span.refl 0 0 w).alloc (.cells #[.slice AS n cS, .slice AL ll cL] 45))
  clear hx hp hn hll
  go_enter Try.func70, Try.ntmps70
  go_wp2_with fail
  refine (l3Taken_valid p lo hi _ _ (HX.out.span HS.out (.inl (Nat.le_refl _))) HV.out).mono ?_
  rintro _ w1 ⟨g, rfl, hf, -, s1⟩
  rw [← HNN.out] at hf ⊢
  have HF := Lib.hid hf
  have S1 := Lib.hid (s1.after HS.out)
  clear hf s1
  go_wp2_with fail
  go_loopw [24] (fun c wr => ∃ k : Nat, k ≤ n ∧ c = .int .i64 k ∧ w1 = wr) (fun c _ => n - (intOf c).toNat)
  case atStart => exact ⟨0, Nat.zero_le _, rfl, rfl⟩
  case round =>
    obtain ⟨k, hk, rfl, rfl⟩ := hrel
    by_cases hlt : k < n
    · have cf := HF.out.at_ hlt
      have c1 : (cnt p.2 k : Int) ≤ 1 := by have := HV.out.one k; omega
      go_wp2_with fail
      go_roundw
      case rel => exact ⟨k + 1, by omega, by go_num, by first | rfl | trivial⟩
      case measure => simp [intOf]; omega
    · have hke : n = k := by omega
      subst hke
      clear hk hlt
      go_wp2_with fail
      go_ret
      exact ⟨rfl, S1.out⟩
end Go.Proofs.Ytfafkdpefdpnkaa
