/- Samples that are like others, but for NaN; holds as units of a circuit. A rack of a hold and a delay behind it: what a run of it gives. A new hold. -/
import Derived.Test.YtkjlodoppmipfaaGreatJh47
import Derived.Test.YtkjlodoppmipfaaGreatJh48
import Derived.Test.YtkjlodoppmipfaaGreatJh49
import Derived.Test.YtkjlodoppmipfaaGreatJh50
import Derived.Test.YtkjlodoppmipfaaGreatJh41
import Derived.Test.YtkjlodoppmipfaaGreatJh11
import Derived.Outline
namespace Go.Proofs.YtkjlodoppmipfaaGreat
section
open Go.RowKit

theorem isU_self {x : Nat} (hx : x < 4294967296) (h : rungOf Ieee.single x < Ieee.single.infRung) : isU Ieee.single x (negOf Ieee.single x) (units Ieee.single (rungOf Ieee.single x)) := by
  refine ⟨rungOf Ieee.single x, ?_, h, rfl⟩
  have hs : Ieee.single.signWeight = 2147483648 := by decide +kernel
  unfold Ieee.Format.word negOf rungOf
  rw [hs]
  have h1 : x / 2147483648 < 2 := by omega
  by_cases h2 : x / 2147483648 = 0
  · rw [h2]
    simp
    omega
  · have h3 : x / 2147483648 = 1 := by omega
    rw [h3]
    simp
    omega
theorem isU_nought : isU Ieee.single 0 false 0 := ⟨0, by decide +kernel, by rw [s_inf]; omega, by decide +kernel⟩
theorem order_zeros {x : Nat} {s : Bool} (h : isU Ieee.single x s 0) (v : Nat) : FloatKind.f32.format.order 0 v = FloatKind.f32.format.order x v := by
  obtain ⟨m, e, h1, h2⟩ := read_isU h
  obtain ⟨m0, e0, g1, g2⟩ := read_isU isU_nought
  have hm : m = 0 := by
    rcases Nat.mul_eq_zero.1 h2 with h | h
    · exact h
    · have := Nat.two_pow_pos e; omega
  have hm0 : m0 = 0 := by
    rcases Nat.mul_eq_zero.1 g2 with h | h
    · exact h
    · have := Nat.two_pow_pos e0; omega
  subst hm; subst hm0
  show Ieee.single.order 0 v = Ieee.single.order x v
  unfold Ieee.Format.order
  rw [h1, g1]
  cases hv : Ieee.single.read v with
  | nan a b => rfl
  | infinity t => rfl
  | number t n j =>
    have hz : ∀ (b : Bool) (k : Nat), Ieee.signed b 0 k = 0 := fun b k => by cases b <;> simp [Ieee.signed]
    have hc : ∀ (i i' : Int), (compare (0 : Int) (Ieee.signed t n (j - min i j).toNat)) = compare (0 : Int) (Ieee.signed t n (j - min i' j).toNat) := fun i i' => by
      have key : ∀ k, compare (0 : Int) (Ieee.signed t n k) = if n = 0 then .eq else if t then .gt else .lt := fun k => by
        have hp := Nat.two_pow_pos k
        unfold Ieee.signed
        rw [Nat.shiftLeft_eq]
        by_cases hn : n = 0
        · subst hn; cases t <;> simp [compare, compareOfLessAndEq]
        · have hq : 0 < n * 2 ^ k := Nat.mul_pos (by omega) hp
          rw [if_neg hn]
          generalize n * 2 ^ k = K at *
          cases t
          · simp only [Bool.false_eq_true, if_false, compare, compareOfLessAndEq]
            rw [if_pos (by omega)]
          · simp only [if_true, compare, compareOfLessAndEq]
            rw [if_neg (by omega), if_neg (by omega)]
      rw [key, key]
    simp only [Ieee.Datum.order, hz]
    rw [hc _ (Ieee.single.leastPlace + (e : Int))]
/-- Nought and a number. -/
theorem zero_add32 {x : Nat} (hx : x < 4294967296) (hn : nanB .f32 x = false) : floatBits .add .f32 0 x = some x ∨ (floatBits .add .f32 0 x = some 0 ∧ ∀ v, FloatKind.f32.format.order 0 v = FloatKind.f32.format.order x v) := by
  by_cases hr : rungOf Ieee.single x < Ieee.single.infRung
  · have h1 := isU_self hx hr
    generalize negOf Ieee.single x = s at h1
    generalize units Ieee.single (rungOf Ieee.single x) = U at h1
    have hz0 : sgn false 0 = 0 := rfl
    obtain ⟨z, neg, e, hz, hs, h0⟩ := add_isU isU_nought h1 (isU_rep h1) (by rw [hz0, Int.zero_add]; unfold sgn; split <;> simp)
    by_cases hU : U = 0
    · right
      subst hU
      have hneg : neg = false := by rw [h0 rfl]; rfl
      subst hneg
      have ez := isU_word hz isU_nought
      rw [ez] at e
      exact ⟨e, order_zeros h1⟩
    · left
      have hneg : neg = s := by
        rw [hz0, Int.zero_add] at hs
        unfold sgn at hs
        cases neg <;> cases s <;> simp at hs <;> first | rfl | omega
      subst hneg
      have : z = x := isU_word hz h1
      have e2 : floatBits .add .f32 0 x = some z := e
      rw [this] at e2
      exact e2
  · left
    have hle : ¬ Ieee.single.infRung < rungOf Ieee.single x := fun h => by
      have := nan_of_rung (x := x) (by rw [← s_inf]; exact h)
      rw [this] at hn; cases hn
    have he : rungOf Ieee.single x = Ieee.single.infRung := by omega
    have hread := read_inf Ieee.single s_eb he
    obtain ⟨m0, e0, g1, _⟩ := read_isU isU_nought
    show Ieee.single.add 0 x = some x
    unfold Ieee.Format.add
    rw [hread, g1]
    show some (Ieee.single.word (negOf Ieee.single x) Ieee.single.infRung) = some x
    congr 1
    have hs : Ieee.single.signWeight = 2147483648 := by decide +kernel
    rw [← he]
    unfold Ieee.Format.word negOf rungOf
    rw [hs]
    by_cases h2 : x / 2147483648 = 0
    · rw [h2]; simp; omega
    · have h3 : x / 2147483648 = 1 := by omega
      rw [h3]; simp; omega

/-- A sample that is as v is, if v is a number. -/
def Like (v c : Cx) : Prop := nanB .f32 v.1 = false → nanB .f32 v.2 = false → smallS c ∧ FloatKind.f32.format.order c.1 v.1 = some .eq ∧ FloatKind.f32.format.order c.2 v.2 = some .eq
theorem Like.refl {v : Cx} (h : smallS v) : Like v v := fun h1 h2 => ⟨h, by rw [order_self, h1]; rfl, by rw [order_self, h2]; rfl⟩
theorem like_part {c v : Nat} (hc : c < 4294967296) (ho : FloatKind.f32.format.order c v = some .eq) (w : World) : fAr .add .f32 0 c w < 4294967296 ∧ FloatKind.f32.format.order (fAr .add .f32 0 c w) v = some .eq := by
  have hn : nanB .f32 c = false := by
    cases h : nanB .f32 c with
    | false => rfl
    | true => rw [order_nan_left h] at ho; cases ho
  rcases zero_add32 hc hn with h | ⟨h, h2⟩
  · unfold fAr; rw [h]; exact ⟨hc, ho⟩
  · unfold fAr; rw [h]; exact ⟨show 0 < 4294967296 by decide, show FloatKind.f32.format.order 0 v = some .eq by rw [h2]; exact ho⟩
theorem Like.adds {v c d : Cx} (h : Like v c) (ha : AddsR (0, 0) c d) : Like v d := fun h1 h2 => by
  obtain ⟨⟨g1, g2⟩, g3, g4⟩ := h h1 h2
  obtain ⟨w1, w2, rfl⟩ := ha
  have a := like_part g1 g3 w1
  have b := like_part g2 g4 w2
  exact ⟨⟨a.1, b.1⟩, a.2, b.2⟩
theorem small_zero : smallS (0, 0) := ⟨by decide, by decide⟩
theorem smallS_getD {xs : List Cx} (h : ∀ z ∈ xs, smallS z) (r : Nat) : smallS (xs.getD r (0, 0)) := by
  rw [List.getD_eq_getElem?_getD]
  cases hx : xs[r]? with
  | none => exact small_zero
  | some z => exact h z (List.mem_of_getElem? hx)

/-! Holds. -/
def uHold (st : Cx) (c l : Nat) : Un := .box #[.complex .f32 st.1 st.2, .int .i64 (c : Int), .int .i64 (l : Int)]
def mHold (n : Nat) : Mw := ⟨8, 0, 0, 0, 0, 0, none, 0, 0, 0, 0, none, 0, 0, none, 0, 0, (n : Int), 0⟩
theorem hold_on (b p q s1 s2 : Nat) (c l : Int) (h1 : 1 ≤ l) (h2 : l ≤ 100) (w : World) (hx : Bx b #[.complex .f32 s1 s2, .int .i64 c, .int .i64 l] w) :
    Calls Tryz.prog 190 #[.pointer (some ⟨b, 0, none⟩), .complex .f32 p q] w fun e w' => e = .returned (.complex .f32 s1 s2) ∧ Bx b #[.complex .f32 s1 s2, .int .i64 c, .int .i64 (l - 1)] w' ∧ Span b (b + 1) w w' := by
  have cx := hx.cells
  have ft := hx.thaw
  have HX := Lib.hid hx
  have h0 : ¬ l = 0 := by omega
  clear hx
  go_enter Tryz.func190, Tryz.ntmps190
  go_wp2_with fail
  go_ret
  refine ⟨rfl, ?_, (Span.refl b (b + 1) w).setCell (p := ⟨b, 2, none⟩) (.inl ⟨Nat.le_refl _, Nat.lt_succ_self _⟩) _⟩
  have := HX.out.set 2 (.int .i64 (l - 1)) (by simp)
  simpa using this
theorem stepU_hold (st z : Cx) (c l : Nat) (h1 : 1 ≤ c) (h2 : c ≤ 100) (hl : l < c) : StepsU .hold (uHold st c l) z (uHold (if l = 0 then z else st) c (if l = 0 then c - 1 else l - 1)) (if l = 0 then z else st) := fun X g f w _ h => by
  obtain ⟨hk, rfl, hb⟩ := h
  by_cases h0 : l = 0
  · subst h0
    rw [if_pos rfl, if_pos rfl]
    refine (hold1_step g z.1 z.2 st.1 st.2 (c : Int) (by omega) (by omega) w hb).mono ?_
    rintro e w' ⟨rfl, hb', sp⟩
    refine ⟨rfl, ⟨hk, rfl, ?_⟩, Keeps.of sp (fun k g1 g2 => List.mem_singleton.2 (by omega))⟩
    rw [show ((c : Int) - 1) = ((c - 1 : Nat) : Int) by omega] at hb'
    exact hb'
  · rw [if_neg h0, if_neg h0]
    refine (hold_on g z.1 z.2 st.1 st.2 (c : Int) (l : Int) (by omega) (by omega) w hb).mono ?_
    rintro e w' ⟨rfl, hb', sp⟩
    refine ⟨rfl, ⟨hk, rfl, ?_⟩, Keeps.of sp (fun k g1 g2 => List.mem_singleton.2 (by omega))⟩
    rw [show ((l : Int) - 1) = ((l - 1 : Nat) : Int) by omega] at hb'
    exact hb'
theorem modU_hold (st : Cx) (c l : Nat) (X : List Nat) (g : Nat) (f : List Nat) : ModU X (.hold, g) f (uHold st c l) (fun _ => True) := fun w h => by
  obtain ⟨_, _, hb⟩ := h
  exact (hold1_module g st.1 st.2 (c : Int) (l : Int) w hb).mono fun e w' ⟨h1, h2⟩ => ⟨⟨8, 0, 0, st.1, st.2, 0, none, 0, 0, 0, 0, none, 0, 0, none, 0, 0, (c : Int), (l : Int)⟩, h1, trivial, h2⟩
theorem okM_hold {n : Nat} (h1 : 1 ≤ n) (h2 : n ≤ 100) (w : World) : OkM w (mHold n) := fun w' _ => isModule_hold1 0 0 (n : Int) 0 (by omega) (by omega) (by omega) (by omega) w'

theorem rgS_congr {s s' : Nat → Cx} {n : Nat} : ∀ r, (∀ m, m < r → s m = s' m) → rgS s n r = rgS s' n r
  | 0, _ => rfl
  | r + 1, h => by rw [rgS, rgS, rgS_congr r (fun m hm => h m (by omega)), h r (by omega)]
end
section
open Go.RowKit

/-- What the hold gives at step r, and what the delay gives. -/
def hV (n : Nat) (V : Nat → Cx) (r : Nat) : Cx := V (r - r % n)
def dV (n k : Nat) (V : Nat → Cx) (m : Nat) : Cx := if m < k then (0, 0) else hV n V (m - k)
def lft (n t : Nat) : Nat := if t = 0 then 0 else n - t
theorem mod_next {n r : Nat} (hn : 1 ≤ n) : (r + 1) % n = if r % n + 1 = n then 0 else r % n + 1 := by
  have h1 := Nat.mod_lt r (show n > 0 by omega)
  have h2 := Nat.div_add_mod r n
  split
  · rename_i h
    have e : r + 1 = n * (r / n + 1) := by rw [Nat.mul_add, Nat.mul_one]; omega
    rw [e, Nat.mul_mod_right]
  · rename_i h
    have e : r + 1 = (r % n + 1) + n * (r / n) := by omega
    rw [e, Nat.add_mul_mod_self_left, Nat.mod_eq_of_lt (by omega)]
theorem lft_next {n r : Nat} (hn : 1 ≤ n) : (if lft n (r % n) = 0 then n - 1 else lft n (r % n) - 1) = lft n ((r + 1) % n) := by
  have h1 := Nat.mod_lt r (show n > 0 by omega)
  rw [mod_next hn]
  unfold lft
  by_cases h0 : r % n = 0
  · rw [h0]
    simp only [if_true]
    by_cases h2 : 0 + 1 = n
    · rw [if_pos h2]; simp; omega
    · rw [if_neg h2]; simp
  · rw [if_neg h0, if_neg (by omega)]
    by_cases h2 : r % n + 1 = n
    · rw [if_pos h2]; simp; omega
    · rw [if_neg h2, if_neg (by omega)]; omega
theorem lft_zero {n t : Nat} (h : t < n) : lft n t = 0 ↔ t = 0 := by
  unfold lft; split <;> omega
theorem hV_next {n r : Nat} (V : Nat → Cx) (hn : 1 ≤ n) (h : (r + 1) % n ≠ 0) : hV n V (r + 1) = hV n V r := by
  unfold hV
  rw [mod_next hn] at h ⊢
  split at h
  · exact absurd rfl h
  · rename_i h2
    rw [if_neg h2]
    congr 1
    have := Nat.mod_le r n
    omega

structure Hd0 (n k : Nat) (V : Nat → Cx) (r : Nat) (d : Nat → Cx) (st : Cx) : Prop where
  past : ∀ m, m < r → Like (hV n V m) (d m)
  held : r % n ≠ 0 → Like (hV n V r) st
def hdSt (n k : Nat) (V : Nat → Cx) (r : Nat) (s : List Un × List Cx) : Prop :=
  ∃ (d : Nat → Cx) (st o0 o1 : Cx), s = ([uHold st n (lft n (r % n)), .ring (rgS d k r).1 (rgS d k r).2.1], [o0, o1]) ∧ Hd0 n k V r d st ∧ (0 < r → Like (hV n V (r - 1)) o0 ∧ Like (dV n k V (r - 1)) o1)
def hdJ (n k : Nat) (V : Nat → Cx) (r : Nat) : Nat → List Un × List Cx → Prop
  | 0 => fun s => ∃ (d : Nat → Cx) (st o0 o1 : Cx), s = ([uHold st n (lft n (r % n)), .ring (rgS d k r).1 (rgS d k r).2.1], [o0, o1]) ∧ Hd0 n k V r d st
  | 1 => fun s => ∃ (d : Nat → Cx) (st o0 o1 : Cx), s = ([uHold st n (lft n ((r + 1) % n)), .ring (rgS d k r).1 (rgS d k r).2.1], [o0, o1]) ∧ (∀ m, m < r → Like (hV n V m) (d m)) ∧ Like (hV n V r) st ∧ Like (hV n V r) o0
  | _ => hdSt n k V (r + 1)

theorem hd_dly {n k : Nat} {V : Nat → Cx} {r : Nat} {d : Nat → Cx} (h : ∀ m, m < r → Like (hV n V m) (d m)) (hk : 1 ≤ k) : Like (dV n k V r) (dlyS d k r) := by
  unfold dV dlyS
  split
  · exact Like.refl small_zero
  · exact h _ (by omega)

theorem one_hold {n k : Nat} (hn : 1 ≤ n) (hn9 : n ≤ 100) {V : Nat → Cx} (hV0 : ∀ r, smallS (V r)) (r : Nat) : OneI 0 (V r) (fun _ y => y) (0, [], (.hold, 0)) (hdJ n k V r 0) (hdJ n k V r 1) := by
  rintro s u a c ⟨d, st, o0, o1, rfl, hd⟩ hu hbase hs
  simp only [List.getElem?_cons_zero] at hu
  injection hu with hu
  subst hu
  have ha : AddsR (0, 0) (V r) a := hbase
  have hc : c = a := hs
  subst hc
  have hLc : Like (V r) c := (Like.refl (hV0 r)).adds ha
  have ht := Nat.mod_lt r (show n > 0 by omega)
  have hl : lft n (r % n) < n := by unfold lft; split <;> omega
  refine (stepU_hold st c n (lft n (r % n)) hn hn9 hl).rel ?_
  rw [lft_next hn]
  refine ⟨d, _, _, o1, rfl, hd.past, ?_, ?_⟩
  all_goals
    by_cases h0 : lft n (r % n) = 0
    · rw [if_pos h0]
      have h1 := (lft_zero ht).1 h0
      have e : hV n V r = V r := by unfold hV; rw [h1, Nat.sub_zero]
      rw [e]; exact hLc
    · rw [if_neg h0]
      exact hd.held (fun h => h0 ((lft_zero ht).2 h))

theorem one_delay {n k : Nat} (hn : 1 ≤ n) (h1 : 1 ≤ k) (h2 : k ≤ 16) {V : Nat → Cx} (r : Nat) (z : Cx) : OneI 0 z (fun _ y => y) (1, [0], (.delay, 0)) (hdJ n k V r 1) (hdJ n k V r 2) := by
  rintro s u a c ⟨d, st, o0, o1, rfl, hp, hst, ho⟩ hu hbase hs
  simp only [List.getElem?_cons_succ, List.getElem?_cons_zero] at hu
  injection hu with hu
  subst hu
  have ha : a = (0, 0) := hbase
  subst ha
  obtain ⟨b, f, o, hb, hf, hof, had⟩ := hs
  have hb : b = (0, 0) := hb
  subst hb
  simp only [List.getElem?_cons_zero] at hf
  injection hf with hf
  subst hf
  simp only [List.getElem?_cons_zero] at hof
  injection hof with hof
  subst hof
  have hLc : Like (hV n V r) c := ho.adds had
  have heta := rgS_eta d h1 h2 r
  have hv : VR ((rgS d k r).1, (rgS d k r).2.1, (rgS d k r).1.length) := by rw [heta]; exact rgS_ok d h1 h2 r
  refine (stepU_delay (rgS d k r).1 (rgS d k r).2.1 hv c).rel ?_
  rw [heta]
  obtain ⟨d', hd'⟩ : ∃ d' : Nat → Cx, d' = fun m => if m = r then c else d m := ⟨_, rfl⟩
  have e1 : ∀ m, m < r → d m = d' m := fun m hm => by rw [hd']; show d m = if m = r then c else d m; rw [if_neg (by omega)]
  have e2 : pushR (rgS d k r) c = rgS d' k (r + 1) := by
    rw [rgS, rgS_congr r e1, hd']
    show _ = pushR _ (if r = r then c else d r)
    rw [if_pos rfl]
  rw [e2]
  refine ⟨d', st, o0, oldR (rgS d k r), rfl, ⟨fun m hm => ?_, fun hne => ?_⟩, fun _ => ⟨?_, ?_⟩⟩
  · by_cases hmr : m = r
    · subst hmr
      rw [hd']
      show Like _ (if m = m then c else d m)
      rw [if_pos rfl]; exact hLc
    · rw [← e1 m (by omega)]; exact hp m (by omega)
  · rw [hV_next V hn hne]; exact hst
  · rw [Nat.add_sub_cancel]; exact ho
  · rw [Nat.add_sub_cancel, rgS_old d h1 h2 r]; exact hd_dly hp h1

set_option maxHeartbeats 1000000 in
theorem run_held {w : World} {bM bC lo hi : Nat} {AM : Option Addr} {cM : Nat} {AC : Option Addr} {cC : Nat} {n k : Nat} (hn : 1 ≤ n) (hn9 : n ≤ 100) (h1 : 1 ≤ k) (h2 : k ≤ 16) {A : Option Addr} {p : Nat} (hr : RkAt w bM bC lo hi AM 2 cM AC 1 cC [mHold n, mDl k A p] [(0, 1)]) {ow : Bool} {bd ld hd : Nat} (hring : HasS cxV ow bd ld hd w (.slice A k p) (List.replicate k (0, 0)))
    (xs : List Cx) (hxs : xs.length ≤ 4194304) (hsm : ∀ z ∈ xs, smallS z) (o : Nat) (ho : o < 2) (ob : Bool) (b0 lo0 hi0 : Nat) (v : Value) (hb0 : b0 < w.heap.size) (hv : HasS cxV ob b0 lo0 hi0 w v xs) (N : Nat) (hN : N ≤ 500) :
    Calls Tryz.prog 11 #[.agg #[.slice AM 2 cM, .slice AC 1 cC], .agg #[.int .i64 0, .int .i64 (o : Int)], v, .int .i64 (N : Int)] w (RanRel 2 1 N [(0, 1)] (fun i y => Like (if o = 0 then hV n (fun r => xs.getD r (0, 0)) i else dV n k (fun r => xs.getD r (0, 0)) i) y) (fun _ _ => True) w) := by
  obtain ⟨V, hVV⟩ : ∃ V : Nat → Cx, V = fun r => xs.getD r (0, 0) := ⟨_, rfl⟩
  have hV0 : ∀ r, smallS (V r) := fun r => by rw [hVV]; exact smallS_getD hsm r
  have hVr : ∀ r, xs.getD r (0, 0) = V r := fun r => by rw [hVV]
  rw [← hVV]
  have hlen : ∀ (d : Nat → Cx) r, (rgS d k r).1.length = k := fun d r => rgS_len d k r
  refine runRack_rel (n := 2) (m := 1) hr [([], ([], [])), (List.replicate k (0, 0), ([], []))] ⟨rfl, fun i m r hm hr2 => ?_⟩ [.hold, .delay] rfl (fun i kd x r hk hx hrr => ?_) [0, 1] (order_id _ [(0, 1)] 2 (fun c hc => by simp at hc; subst hc; decide)) 0 (.inr ⟨0, rfl, by decide⟩) o ho xs hxs ob b0 lo0 hi0 v hb0 hv N hN (hdSt n k V) (hdJ n k V) ?_ (fun r _ s hs => ?_) (fun r _ s hs i ys a hi => ?_) (fun r _ j i kd l hj hk hl => ?_) (fun r _ s hs => hs) _ (fun i s y _ hs hy => ?_) (fun _ _ => True) (fun i kd u s hs hk hu X g f => ?_)
  · rcases i with _ | _ | i
    · simp at hm hr2; subst hm; subst hr2
      exact ⟨by decide, rfl, by decide, true, 0, 0, 0, 0, HasS.empty .., ⟨0, 1, _, _, rfl, by decide, HasS.empty .., HasS.empty ..⟩⟩
    · simp at hm hr2; subst hm; subst hr2
      exact ⟨by simp; omega, rfl, by simp, ow, bd, _, _, 0, hring, ⟨0, 1, _, _, rfl, by decide, HasS.empty .., HasS.empty ..⟩⟩
    · simp at hm
  · rcases i with _ | _ | i
    · simp at hk hx hrr; subst hk; subst hx; subst hrr
      exact ⟨rfl, by decide, fun h => by cases h⟩
    · simp at hk hx hrr; subst hk; subst hx; subst hrr
      exact ⟨rfl, by decide, fun _ => ⟨by simp; omega, by simp [mDl], by simp [mDl]⟩⟩
    · simp at hk
  · refine ⟨fun _ => (0, 0), (0, 0), (0, 0), (0, 0), ?_, ⟨fun m hm => absurd hm (Nat.not_lt_zero _), fun h => absurd (Nat.zero_mod n) h⟩, fun h => absurd h (Nat.lt_irrefl _)⟩
    simp only [Nat.zero_mod]
    rfl
  · obtain ⟨d, st, o0, o1, rfl, hd, _⟩ := hs
    exact ⟨d, st, o0, _, rfl, hd⟩
  · obtain ⟨d, st, o0, o1, rfl, hd, _⟩ := hs
    rcases i with _ | _ | i
    · simp [uHold] at hi
    · simp at hi
      obtain ⟨rfl, rfl⟩ := hi
      have hok := rgS_ok d h1 h2 r
      have := hlen d r
      exact ⟨hok.at_, by omega⟩
    · simp at hi
  · rw [hVr]
    rcases j with _ | _ | j
    · have hi : i = 0 := by simp at hj; omega
      subst hi
      simp at hk; subst hk
      have hl2 : l = [] := by
        have : (feedsC 2 [(0, 1)])[0]? = some [] := rfl
        rw [this] at hl; injection hl with hl; exact hl.symm
      subst hl2
      exact one_hold hn hn9 hV0 r
    · have hi : i = 1 := by simp at hj; omega
      subst hi
      simp at hk; subst hk
      have hl2 : l = [0] := by
        have : (feedsC 2 [(0, 1)])[1]? = some [0] := rfl
        rw [this] at hl; injection hl with hl; exact hl.symm
      subst hl2
      exact one_delay hn h1 h2 r _
    · simp at hj
  · obtain ⟨d, st, o0, o1, rfl, hd, hlast⟩ := hs
    have hl := hlast (by omega)
    rw [Nat.add_sub_cancel] at hl
    rcases (show o = 0 ∨ o = 1 by omega) with rfl | rfl
    · simp at hy; subst hy
      exact hl.1
    · simp at hy; subst hy
      exact hl.2
  · obtain ⟨d, st, o0, o1, rfl, hd, _⟩ := hs
    rcases i with _ | _ | i
    · simp at hk hu; subst hk; subst hu
      exact modU_hold st n _ X g f
    · simp at hk hu; subst hk; subst hu
      exact fun w hw => (modU_delay _ _ X g f w hw).mono fun e w' ⟨m, g1, _, g3⟩ => ⟨m, g1, trivial, g3⟩
    · simp at hk
end
section
open Go.RowKit

set_option maxRecDepth 100000 in
set_option maxHeartbeats 4000000 in
theorem onlyValid_holdH (n : Int) (h1 : 1 ≤ n) (h2 : n ≤ 100) (w : World) : Calls Tryz.prog 33 #[.agg #[.int .i64 8, .complex .f32 0 0, .complex .f32 0 0, .float .f32 0, .slice none 0 0, .int .i64 0, .int .i64 0, .slice none 0 0, .slice none 0 0, .int .i64 n, .int .i64 0]] w fun e w' => e = .returned (.tuple #[.agg #[.int .i64 8, .complex .f32 0 0, .complex .f32 0 0, .float .f32 0, .slice none 0 0, .int .i64 0, .int .i64 0, .slice none 0 0, .slice none 0 0, .int .i64 n, .int .i64 0], .bool true]) ∧ Span 0 0 w w' := by
  have HI := Lib.hid (isModule_hold1 0 0 n 0 h1 h2 (by omega) (by omega))
  clear h1 h2
  go_enter Tryz.func33, Tryz.ntmps33
  go_wp2_with fail
  refine (HI.out _).mono ?_
  rintro _ w1 ⟨rfl, s1⟩
  have X := ((Bx.new w #[.int .i64 8, .complex .f32 0 0, .complex .f32 0 0, .float .f32 0, .slice none 0 0, .int .i64 0, .int .i64 0, .slice none 0 0, .slice none 0 0, .int .i64 n, .int .i64 0] 32).alloc (.cells #[.int .i64 0, .complex .f32 0 0, .complex .f32 0 0, .float .f32 0, .slice none 0 0, .int .i64 0, .int .i64 0, .slice none 0 0, .slice none 0 0, .int .i64 0, .int .i64 0] 32)).keep s1
  have Y := (Bx.new (w.alloc (.cells #[.int .i64 8, .complex .f32 0 0, .complex .f32 0 0, .float .f32 0, .slice none 0 0, .int .i64 0, .int .i64 0, .slice none 0 0, .slice none 0 0, .int .i64 n, .int .i64 0] 32)) #[.int .i64 0, .complex .f32 0 0, .complex .f32 0 0, .float .f32 0, .slice none 0 0, .int .i64 0, .int .i64 0, .slice none 0 0, .slice none 0 0, .int .i64 0, .int .i64 0] 32).keep s1
  rw [show (w.alloc (.cells #[.int .i64 8, .complex .f32 0 0, .complex .f32 0 0, .float .f32 0, .slice none 0 0, .int .i64 0, .int .i64 0, .slice none 0 0, .slice none 0 0, .int .i64 n, .int .i64 0] 32)).heap.size = w.heap.size + 1 by simp] at Y
  have S1 := Lib.hid ((((Span.refl 0 0 w).alloc (.cells #[.int .i64 8, .complex .f32 0 0, .complex .f32 0 0, .float .f32 0, .slice none 0 0, .int .i64 0, .int .i64 0, .slice none 0 0, .slice none 0 0, .int .i64 n, .int .i64 0] 32)).alloc (.cells #[.int .i64 0, .complex .f32 0 0, .complex .f32 0 0, .float .f32 0, .slice none 0 0, .int .i64 0, .int .i64 0, .slice none 0 0, .slice none 0 0, .int .i64 0, .int .i64 0] 32)).trans s1)
  have cx := X.cells
  have cy := Y.cells
  have fy := Y.thaw
  have YS := Lib.hid (Y.set11 (.int .i64 8) (.complex .f32 0 0) (.complex .f32 0 0) (.float .f32 0) (.slice none 0 0) (.int .i64 0) (.int .i64 0) (.slice none 0 0) (.slice none 0 0) (.int .i64 n) (.int .i64 0))
  clear s1 X Y
  go_wp2_with fail
  have d1 := YS.out.cells
  exact bodyPost_ret (v := .tuple #[.agg #[.int .i64 8, .complex .f32 0 0, .complex .f32 0 0, .float .f32 0, .slice none 0 0, .int .i64 0, .int .i64 0, .slice none 0 0, .slice none 0 0, .int .i64 n, .int .i64 0], .bool true]) (by simp [results, Tryz.results33, go_sem, d1]) rfl ⟨rfl, S1.out.set11 (by omega) _ _ _ _ _ _ _ _ _ _ _⟩

set_option maxRecDepth 100000 in
set_option maxHeartbeats 4000000 in
theorem newHoldH (n : Int) (h : 1 ≤ n ∧ n ≤ 100) (w : World) : Calls Tryz.prog 15 #[.int .i64 n] w fun e w' => e = .returned (.tuple #[.agg #[.int .i64 8, .complex .f32 0 0, .complex .f32 0 0, .float .f32 0, .slice none 0 0, .int .i64 0, .int .i64 0, .slice none 0 0, .slice none 0 0, .int .i64 n, .int .i64 0], .bool true]) ∧ Span 0 0 w w' := by
  have HO := Lib.hid (onlyValid_holdH n h.1 h.2)
  clear h
  go_enter Tryz.func15, Tryz.ntmps15
  go_wp2_with fail
  refine (HO.out _).mono ?_
  rintro _ w1 ⟨rfl, s1⟩
  have Y := (Bx.new w #[.int .i64 0, .complex .f32 0 0, .complex .f32 0 0, .float .f32 0, .slice none 0 0, .int .i64 0, .int .i64 0, .slice none 0 0, .slice none 0 0, .int .i64 0, .int .i64 0] 32).keep s1
  have S1 := Lib.hid (((Span.refl 0 0 w).alloc (.cells #[.int .i64 0, .complex .f32 0 0, .complex .f32 0 0, .float .f32 0, .slice none 0 0, .int .i64 0, .int .i64 0, .slice none 0 0, .slice none 0 0, .int .i64 0, .int .i64 0] 32)).trans s1)
  have cy := Y.cells
  have fy := Y.thaw
  have YS := Lib.hid (Y.set11 (.int .i64 8) (.complex .f32 0 0) (.complex .f32 0 0) (.float .f32 0) (.slice none 0 0) (.int .i64 0) (.int .i64 0) (.slice none 0 0) (.slice none 0 0) (.int .i64 n) (.int .i64 0))
  clear s1 Y
  go_wp2_with fail
  have d1 := YS.out.cells
  exact bodyPost_ret (v := .tuple #[.agg #[.int .i64 8, .complex .f32 0 0, .complex .f32 0 0, .float .f32 0, .slice none 0 0, .int .i64 0, .int .i64 0, .slice none 0 0, .slice none 0 0, .int .i64 n, .int .i64 0], .bool true]) (by simp [results, Tryz.results15, go_sem, d1]) rfl ⟨rfl, S1.out.set11 (Nat.le_refl _) _ _ _ _ _ _ _ _ _ _ _⟩
end
end Go.Proofs.YtkjlodoppmipfaaGreat
