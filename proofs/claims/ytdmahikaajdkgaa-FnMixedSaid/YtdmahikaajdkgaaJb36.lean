/- Meters are stepped, and told. Sums, meters, gains are made. The greatest absolute value, step by step. -/
import Derived.Test.YtdmahikaajdkgaaJb34
import Derived.Test.YtdmahikaajdkgaaJb35
import Derived.Outline
import Derived.Test.YtdmahikaajdkgaaJb15
namespace Go.Proofs.Ytdmahikaajdkgaa
section
open Go.RowKit

theorem meter_step (b l p q : Nat) (hl : l ≤ 2139095040) (hp : p < 4294967296) (hq : q < 4294967296) (w : World) (hx : Bx b #[.float .f32 l] w) :
    Calls Try.prog 193 #[.pointer (some ⟨b, 0, none⟩), .complex .f32 p q] w fun e w' => e = .returned (.complex .f32 p q) ∧ Bx b #[.float .f32 (raiseN (raiseN l p) q)] w' ∧ Span b (b + 1) w w' := by
  have cx := hx.cells
  have ft := hx.thaw
  have HX := Lib.hid hx
  have R1 := Lib.hid (raised_any l p hl hp)
  have R2 := Lib.hid (raised_any (raiseN l p) q (raiseN_le hl) hq)
  clear hl hp hq hx
  go_enter Try.func193, Try.ntmps193
  go_wp2_with fail
  refine (R1.out _).mono ?_
  rintro _ _ ⟨rfl, n1, rfl⟩
  go_wp2_with fail
  refine (R2.out _).mono ?_
  rintro _ _ ⟨rfl, n2, rfl⟩
  go_wp2_with fail
  go_ret
  refine ⟨rfl, ?_, ((Span.refl b (b + 1) w).drewN _).setCell (p := ⟨b, 0, none⟩) (.inl ⟨Nat.le_refl _, Nat.lt_succ_self _⟩) _⟩
  have := (HX.out.drewN (n1 + n2)).set 0 (.float .f32 (raiseN (raiseN l p) q)) (by simp)
  simpa using this

set_option maxRecDepth 100000 in
set_option maxHeartbeats 4000000 in
theorem stepModule_meter (l p q : Nat) (hl : l ≤ 2139095040) (hp : p < 4294967296) (hq : q < 4294967296) (w : World) :
    Calls Try.prog 14 #[.agg #[.int .i64 7, .complex .f32 0 0, .complex .f32 0 0, .float .f32 l, .slice none 0 0, .int .i64 0, .int .i64 0, .slice none 0 0, .slice none 0 0, .int .i64 0, .int .i64 0], .complex .f32 p q] w fun e w' => e = .returned (.tuple #[.agg #[.int .i64 7, .complex .f32 0 0, .complex .f32 0 0, .float .f32 (raiseN (raiseN l p) q), .slice none 0 0, .int .i64 0, .int .i64 0, .slice none 0 0, .slice none 0 0, .int .i64 0, .int .i64 0], .complex .f32 p q, .bool true]) ∧ Span 0 0 w w' := by
  have cm1 := call_meter_step
  have cm2 := call_meter_module
  have VU := Lib.hid (validUnit_meter l hl)
  have ST := Lib.hid (fun b w h => meter_step b l p q hl hp hq w h)
  clear hl hp hq
  go_enter Try.func14, Try.ntmps14
  go_wp2_with fail
  refine (VU.out _).mono ?_
  rintro _ w1 ⟨b, rfl, x1, h1, s1⟩
  have Y := (Bx.new (w.alloc (.cells #[.int .i64 7, .complex .f32 0 0, .complex .f32 0 0, .float .f32 l, .slice none 0 0, .int .i64 0, .int .i64 0, .slice none 0 0, .slice none 0 0, .int .i64 0, .int .i64 0] 35)) #[.int .i64 0, .complex .f32 0 0, .complex .f32 0 0, .float .f32 0, .slice none 0 0, .int .i64 0, .int .i64 0, .slice none 0 0, .slice none 0 0, .int .i64 0, .int .i64 0] 35).keep s1
  rw [show (w.alloc (.cells #[.int .i64 7, .complex .f32 0 0, .complex .f32 0 0, .float .f32 l, .slice none 0 0, .int .i64 0, .int .i64 0, .slice none 0 0, .slice none 0 0, .int .i64 0, .int .i64 0] 35)).heap.size = w.heap.size + 1 by simp] at Y
  have S1 := Lib.hid ((((Span.refl 0 0 w).alloc (.cells #[.int .i64 7, .complex .f32 0 0, .complex .f32 0 0, .float .f32 l, .slice none 0 0, .int .i64 0, .int .i64 0, .slice none 0 0, .slice none 0 0, .int .i64 0, .int .i64 0] 35)).alloc (.cells #[.int .i64 0, .complex .f32 0 0, .complex .f32 0 0, .float .f32 0, .slice none 0 0, .int .i64 0, .int .i64 0, .slice none 0 0, .slice none 0 0, .int .i64 0, .int .i64 0] 35)).trans s1)
  have h1' : w.heap.size + 2 ≤ b := by have := h1; simp at this; omega
  have X1 := Lib.hid x1
  have Y1 := Lib.hid Y
  have H1 := Lib.hid h1'
  clear s1 x1 h1 h1' Y
  go_wp2_with fail
  refine (ST.out b _ X1.out).mono ?_
  rintro _ w2 ⟨rfl, x2, s2⟩
  have hb := H1.out
  have Y2 := Lib.hid (Y1.out.span s2 (by omega))
  have S2 := Lib.hid (show Span 0 0 w w2 from ⟨s2.os.trans S1.out.os, s2.tape.trans S1.out.tape, s2.output.trans S1.out.output, Nat.le_trans S1.out.size s2.size, fun k hk _ => (s2.block k (Nat.lt_of_lt_of_le hk S1.out.size) (by omega)).trans (S1.out.block k hk (by omega))⟩)
  have X2 := Lib.hid x2
  clear s2 x2 hb
  go_wp2_with fail
  refine (meter_module b _ _ X2.out).mono ?_
  rintro _ w3 ⟨rfl, s3⟩
  have Y3 := Y2.out.keep s3
  have S3 := Lib.hid (S2.out.trans s3)
  have cy := Y3.cells
  have fy := Y3.thaw
  have YS := Lib.hid (Y3.set11 (.int .i64 7) (.complex .f32 0 0) (.complex .f32 0 0) (.float .f32 (raiseN (raiseN l p) q)) (.slice none 0 0) (.int .i64 0) (.int .i64 0) (.slice none 0 0) (.slice none 0 0) (.int .i64 0) (.int .i64 0))
  clear s3 Y3
  go_wp2_with fail
  have d1 := YS.out.cells
  exact bodyPost_ret (v := .tuple #[.agg #[.int .i64 7, .complex .f32 0 0, .complex .f32 0 0, .float .f32 (raiseN (raiseN l p) q), .slice none 0 0, .int .i64 0, .int .i64 0, .slice none 0 0, .slice none 0 0, .int .i64 0, .int .i64 0], .complex .f32 p q, .bool true]) (by simp [results, Try.results14, go_sem, d1]) rfl ⟨rfl, S3.out.set11 (by omega) _ _ _ _ _ _ _ _ _ _ _⟩

theorem call_meter_tell (v : Value) (w : World) : (method 340 168 v "loop.example/g03223/impl.tell").run Try.prog w = .ok (194, v) w := by kernel_rfl

theorem field_meter (a : Addr) (w : World) : (Instr.field 97 (.agg #[.iface 168 (.pointer (some a)), .nilIface, .iface 168 (.pointer (some a))]) 2).run Try.prog w = .ok (.iface 168 (.pointer (some a))) w := by kernel_rfl

theorem meter_tell (b l : Nat) (w : World) (hx : Bx b #[.float .f32 l] w) :
    Calls Try.prog 194 #[.pointer (some ⟨b, 0, none⟩)] w fun e w' => e = .returned (.complex .f32 l 0) ∧ w = w' := by
  have cx := hx.cells
  clear hx
  go_enter Try.func194, Try.ntmps194
  go_wp2_with fail
  go_ret
  exact ⟨rfl, rfl⟩

set_option maxRecDepth 100000 in
set_option maxHeartbeats 4000000 in
theorem tellModule_meter (l : Nat) (hl : l ≤ 2139095040) (w : World) :
    Calls Try.prog 21 #[.agg #[.int .i64 7, .complex .f32 0 0, .complex .f32 0 0, .float .f32 l, .slice none 0 0, .int .i64 0, .int .i64 0, .slice none 0 0, .slice none 0 0, .int .i64 0, .int .i64 0]] w fun e w' => e = .returned (.tuple #[.complex .f32 l 0, .bool true]) ∧ Span 0 0 w w' := by
  have cm1 := call_meter_tell
  have cf := field_meter
  have VU := Lib.hid (validUnit_meter l hl)
  clear hl
  go_enter Try.func21, Try.ntmps21
  go_wp2_with fail
  refine (VU.out _).mono ?_
  rintro _ w1 ⟨b, rfl, x1, _, s1⟩
  have X1 := Lib.hid x1
  have S1 := Lib.hid (((Span.refl 0 0 w).alloc (.cells #[.int .i64 7, .complex .f32 0 0, .complex .f32 0 0, .float .f32 l, .slice none 0 0, .int .i64 0, .int .i64 0, .slice none 0 0, .slice none 0 0, .int .i64 0, .int .i64 0] 35)).trans s1)
  clear s1 x1
  go_wp2_with fail
  refine (powersOf_7 _ _).mono ?_
  rintro _ w2 ⟨rfl, s2⟩
  have X2 := Lib.hid (X1.out.keep s2)
  have S2 := Lib.hid (S1.out.trans s2)
  clear s2
  go_wp2_with fail
  refine (meter_tell b l _ X2.out).mono ?_
  rintro _ _ ⟨rfl, rfl⟩
  go_wp2_with fail
  go_ret2
  exact ⟨rfl, S2.out⟩
end
section
open Go.RowKit

def sumM : Md := ⟨5, (0, 0), (0, 0), 0, ⟨[], 0, 0⟩, 0, 0⟩
def meterM : Md := ⟨7, (0, 0), (0, 0), 0, ⟨[], 0, 0⟩, 0, 0⟩
def gainM (n : Nat) : Md := ⟨3, (0, 0), (0, 0), n, ⟨[], 0, 0⟩, 0, 0⟩
theorem sumM_len : sumM.ring.store.length ≤ 16 := by decide
theorem meterM_len : meterM.ring.store.length ≤ 16 := by decide
theorem gainM_len (n : Nat) : (gainM n).ring.store.length ≤ 16 := by simp [gainM]

set_option maxRecDepth 100000 in
theorem impl_newSum (w : World) : Calls Try.prog 12 #[] w (MakesM sumM w) := by
  go_enter Try.func12, Try.ntmps12
  go_wp2_with fail
  exact bodyPost_ret (v := .agg #[.int .i64 5, .complex .f32 0 0, .complex .f32 0 0, .float .f32 0, .slice none 0 0, .int .i64 0, .int .i64 0, .slice none 0 0, .slice none 0 0, .int .i64 0, .int .i64 0]) (by simp [results, Try.results12, go_sem]) rfl ⟨_, rfl, HasM0.plain _ _ _ _ _ (0, 0) (0, 0) _ _ _, (Span.refl _ _ _).alloc _⟩
set_option maxRecDepth 100000 in
theorem impl_newMeter (w : World) : Calls Try.prog 13 #[] w (MakesM meterM w) := by
  go_enter Try.func13, Try.ntmps13
  go_wp2_with fail
  exact bodyPost_ret (v := .agg #[.int .i64 7, .complex .f32 0 0, .complex .f32 0 0, .float .f32 0, .slice none 0 0, .int .i64 0, .int .i64 0, .slice none 0 0, .slice none 0 0, .int .i64 0, .int .i64 0]) (by simp [results, Try.results13, go_sem]) rfl ⟨_, rfl, HasM0.plain _ _ _ _ _ (0, 0) (0, 0) _ _ _, (Span.refl _ _ _).alloc _⟩
set_option maxRecDepth 100000 in
theorem impl_newGain (n : Nat) (w : World) : Calls Try.prog 17 #[.float .f32 n] w (MakesM (gainM n) w) := by
  go_enter Try.func17, Try.ntmps17
  go_wp2_with fail
  exact bodyPost_ret (v := .agg #[.int .i64 3, .complex .f32 0 0, .complex .f32 0 0, .float .f32 n, .slice none 0 0, .int .i64 0, .int .i64 0, .slice none 0 0, .slice none 0 0, .int .i64 0, .int .i64 0]) (by simp [results, Try.results17, go_sem]) rfl ⟨_, rfl, HasM0.plain _ _ _ _ _ (0, 0) (0, 0) _ _ _, (Span.refl _ _ _).alloc _⟩
end
section
open Go.RowKit Ieee

/-- The greater one, as the law finds it. -/
def updN (m x : Nat) : Nat := if FloatKind.f32.format.order x m = some .gt then x else m

theorem updN_nan {m x : Nat} (h : nanB .f32 x = true) : updN m x = m := by
  unfold updN
  rw [order_nan_left h]
  rfl
theorem updN_pos {m x : Nat} (hm : m ≤ 2139095040) (hx : x ≤ 2139095040) : updN m x = max m x := by
  unfold updN
  rw [order_bits hx hm]
  by_cases h : (m : Int) < (x : Int)
  · rw [(cmp_gt).2 h, if_pos rfl]; omega
  · rw [if_neg (fun e => h ((cmp_gt).1 (by injection e))) ]; omega
theorem updN_neg {m x : Nat} (hm : m ≤ 2139095040) (hx : 2147483648 ≤ x) (hx2 : x < 4294967296) (hn : nanB .f32 x = false) : updN m x = m := by
  unfold updN
  have hs := nan_size hn
  have ng : negOf Ieee.single x = true := by unfold negOf; rw [s_sw]; have : x / 2147483648 = 1 := by omega
                                             rw [this]; rfl
  have rm : rungOf Ieee.single m = m := by unfold rungOf; rw [s_sw]; exact Nat.mod_eq_of_lt (by omega)
  have nm : negOf Ieee.single m = false := by unfold negOf; rw [s_sw, Nat.div_eq_of_lt (by omega)]; rfl
  rw [if_neg]
  intro e
  have e : Ieee.single.order x m = some .gt := e
  rcases Nat.lt_or_ge (sizeB x) 2139095040 with h1 | h1
  · rcases Nat.lt_or_ge m 2139095040 with h2 | h2
    · rw [order_rung _ (by rw [sizeB_rung, s_inf]; exact h1) (by rw [rm, s_inf]; exact h2), ng, nm] at e
      injection e with e
      have := (cmp_gt).1 e
      unfold sgn at this
      simp only [if_true, Bool.false_eq_true, if_false] at this
      omega
    · have em : m = 2139095040 := by omega
      obtain ⟨a, b, hr, _⟩ := read_fin Ieee.single (b := x) (by rw [sizeB_rung, s_inf]; exact h1)
      rw [order_inf_right ⟨_, _, _, hr⟩ (read_inf Ieee.single s_eb (by rw [rm, s_inf]; exact em)), nm] at e
      cases e
  · have ex : x = 4286578688 := by unfold sizeB at hs h1; omega
    subst ex
    rcases Nat.lt_or_ge m 2139095040 with h2 | h2
    · obtain ⟨a, b, hr, _⟩ := read_fin Ieee.single (b := m) (by rw [rm, s_inf]; exact h2)
      rw [order_inf_left (read_inf Ieee.single s_eb (by rw [sizeB_rung, s_inf]; unfold sizeB; decide)) ⟨_, _, _, hr⟩, ng] at e
      cases e
    · have em : m = 2139095040 := by omega
      subst em
      revert e
      decide +kernel

theorem neg_size {x : Nat} (hx : x < 4294967296) : (x < 2147483648 → Op.negFloat .f32 x = x + 2147483648) ∧ (2147483648 ≤ x → Op.negFloat .f32 x = x - 2147483648) := by
  obtain ⟨h1, h2⟩ := neg_rung x
  have h3 : Op.negFloat .f32 x < 4294967296 := by
    show x ^^^ 2 ^ 31 < 2 ^ 32
    exact Nat.xor_lt_two_pow hx (by decide)
  generalize Op.negFloat .f32 x = y at *
  unfold rungOf negOf at *
  rw [s_sw] at *
  constructor
  · intro h
    rw [Nat.div_eq_of_lt h] at h2
    have : y / 2147483648 = 0 ∨ y / 2147483648 = 1 := by omega
    rcases this with e | e
    · rw [e] at h2; simp at h2
    · omega
  · intro h
    have e0 : x / 2147483648 = 1 := by omega
    rw [e0] at h2
    have : y / 2147483648 = 0 ∨ y / 2147483648 = 1 := by omega
    rcases this with e | e
    · omega
    · rw [e] at h2; simp at h2

theorem neg_nan {x : Nat} (hx : x < 4294967296) : nanB .f32 (Op.negFloat .f32 x) = nanB .f32 x := by
  have hs : sizeB (Op.negFloat .f32 x) = sizeB x := by rw [← sizeB_rung, ← sizeB_rung]; exact (neg_rung x).1
  cases h : nanB .f32 x with
  | false => exact size_nan (by rw [hs]; exact nan_size h)
  | true => exact nan_of_rung (by rw [(neg_rung x).1]; exact nan_rung h)

theorem updN_le {m x : Nat} (hm : m ≤ 2139095040) (hx : x < 4294967296) : updN m x ≤ 2139095040 := by
  cases hn : nanB .f32 x with
  | true => rw [updN_nan hn]; exact hm
  | false =>
    have hs := nan_size hn
    rcases Nat.lt_or_ge x 2147483648 with h | h
    · rw [updN_pos hm (by unfold sizeB at hs; omega)]; unfold sizeB at hs; omega
    · rw [updN_neg hm h hx hn]; exact hm

theorem updN_raise {l p : Nat} (hl : l ≤ 2139095040) (hp : p < 4294967296) (m : Nat) (hm : m ≤ 2139095040) :
    (updN l p = raiseN l p ∧ ∀ m, l ≤ m → raiseN l p ≤ m → m ≤ 2139095040 → updN m (Op.negFloat .f32 p) = m) ∨ (updN l p = l ∧ ∀ m, m ≤ 2139095040 → updN m (Op.negFloat .f32 p) = raiseN m p) := by
  cases hn : nanB .f32 p with
  | true =>
    left
    refine ⟨by rw [updN_nan hn]; unfold raiseN; rw [hn]; rfl, fun m _ _ _ => updN_nan (by rw [neg_nan hp]; exact hn)⟩
  | false =>
    have hs := nan_size hn
    obtain ⟨n1, n2⟩ := neg_size hp
    have hn' := neg_nan hp
    rw [hn] at hn'
    rcases Nat.lt_or_ge p 2147483648 with h | h
    · left
      have e : sizeB p = p := by unfold sizeB; omega
      refine ⟨by rw [updN_pos hl (by omega)]; unfold raiseN; rw [hn, e]; rfl, fun m _ _ hm => ?_⟩
      rw [n1 h] at hn' ⊢
      exact updN_neg hm (by omega) (by omega) hn'
    · right
      have e : sizeB p = p - 2147483648 := by unfold sizeB; omega
      refine ⟨updN_neg hl h hp hn, fun m hm => ?_⟩
      rw [n2 h, updN_pos hm (by omega)]
      unfold raiseN
      rw [hn, e]
      rfl

theorem raise_max (l p q : Nat) : raiseN (raiseN l p) q = raiseN (raiseN l q) p := by
  unfold raiseN
  cases nanB .f32 p <;> cases nanB .f32 q <;> simp <;> omega
theorem raise_ge (l p : Nat) : l ≤ raiseN l p := by
  unfold raiseN
  cases nanB .f32 p <;> simp <;> omega

/-- Behind all four, the two agree. -/
theorem upd_four {l p q : Nat} (hl : l ≤ 2139095040) (hp : p < 4294967296) (hq : q < 4294967296) :
    updN (updN (updN (updN l p) q) (Op.negFloat .f32 p)) (Op.negFloat .f32 q) = raiseN (raiseN l p) q := by
  have r1 := raiseN_le (p := p) hl
  have r2 := raiseN_le (p := q) hl
  have r3 := raiseN_le (p := q) r1
  rcases updN_raise hl hp l hl with ⟨a1, a2⟩ | ⟨a1, a2⟩
  · rw [a1]
    rcases updN_raise r1 hq l hl with ⟨b1, b2⟩ | ⟨b1, b2⟩
    · have g := raise_ge (raiseN l p) q
      have g2 := raise_ge l p
      rw [b1, a2 _ (by omega) g r3, b2 _ g (Nat.le_refl _) r3]
    · have g2 := raise_ge l p
      rw [b1, a2 _ g2 (Nat.le_refl _) r1, b2 _ r1]
  · rw [a1]
    rcases updN_raise hl hq l hl with ⟨b1, b2⟩ | ⟨b1, b2⟩
    · have g := raise_ge (raiseN l q) p
      have g2 := raise_ge l q
      rw [b1, a2 _ r2, b2 _ (by omega) g (raiseN_le r2), raise_max]
    · rw [b1, a2 _ hl, b2 _ r1]

/-- A meter that is made. -/
theorem newMeter_is (w : World) : Calls Try.prog 13 #[] w fun e w' => e = .returned (.agg #[.int .i64 7, .complex .f32 0 0, .complex .f32 0 0, .float .f32 0, .slice none 0 0, .int .i64 0, .int .i64 0, .slice none 0 0, .slice none 0 0, .int .i64 0, .int .i64 0]) ∧ Span 0 0 w w' := by
  go_enter Try.func13, Try.ntmps13
  go_wp2_with fail
  exact bodyPost_ret (v := .agg #[.int .i64 7, .complex .f32 0 0, .complex .f32 0 0, .float .f32 0, .slice none 0 0, .int .i64 0, .int .i64 0, .slice none 0 0, .slice none 0 0, .int .i64 0, .int .i64 0]) (by simp [results, Try.results13, go_sem]) rfl ⟨rfl, (Span.refl _ _ _).alloc _⟩
end
end Go.Proofs.Ytdmahikaajdkgaa
