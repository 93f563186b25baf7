/- The law FnThrough. -/
import Derived.Test.YtdmahikaajdkgaaJb49
import Derived.Test.YtdmahikaajdkgaaJb50
import Derived.Test.YtdmahikaajdkgaaJb51
import Derived.Test.YtdmahikaajdkgaaJb28
import Derived.Test.YtdmahikaajdkgaaJb29
import Derived.Test.YtdmahikaajdkgaaJb52
import Derived.Deep.DeepCutAuto
import Derived.Deep.RegionWith
import Derived.Outline
namespace Go.Proofs.Ytdmahikaajdkgaa
open Go.RowKit

theorem one_hasS' (w : World) (x y : Nat) : HasS cxV false w.heap.size 0 (w.heap.size + 1) (w.alloc (.cells #[.complex .f32 x y] 27)) (.slice (some ⟨w.heap.size, 0, none⟩) 1 1) [(x, y)] := by
  refine ⟨_, 1, rfl, Nat.le_refl _, fun _ => ⟨0, rfl, Nat.zero_le _, Nat.lt_succ_self _, by simp, fun j z hj => ?_, fun h => by cases h⟩⟩
  cases j with
  | zero =>
    simp at hj
    subst hj
    rw [World.cell?_alloc_new]
    rfl
  | succ j => simp at hj

/-- A delay of one sample that is 0. -/
theorem newDelay_one (w : World) : Calls Try.prog 11 #[.int .i64 1] w fun e w' => ∃ Ad pd bd, e = .returned (.tuple #[.agg #[.int .i64 4, .complex .f32 0 0, .complex .f32 0 0, .float .f32 0, .slice Ad 1 pd, .int .i64 0, .int .i64 1, .slice none 0 0, .slice none 0 0, .int .i64 0, .int .i64 0], .bool true]) ∧ HasS cxV true bd w.heap.size w'.heap.size w' (.slice Ad 1 pd) [(0, 0)] ∧ Span 0 0 w w' := by
  refine (impl_newDelay 1 w).mono ?_
  rintro _ w' ⟨v, rfl, ⟨b, vS, rfl, h⟩, s⟩
  obtain ⟨A, p, rfl, -, -⟩ := id h
  exact ⟨A, p, b, rfl, h, s⟩

/-- The first step of such a delay, and the second one. -/
theorem step_first (x y : Nat) (Ad : Option Addr) (pd bd lo hi : Nat) (w : World) (hs : HasS cxV true bd lo hi w (.slice Ad 1 pd) [(0, 0)]) : Calls Try.prog 14 #[.agg #[.int .i64 4, .complex .f32 0 0, .complex .f32 0 0, .float .f32 0, .slice Ad 1 pd, .int .i64 0, .int .i64 1, .slice none 0 0, .slice none 0 0, .int .i64 0, .int .i64 0], .complex .f32 x y] w fun e w' => ∃ A1 q1 b1, e = .returned (.tuple #[.agg #[.int .i64 4, .complex .f32 0 0, .complex .f32 0 0, .float .f32 0, .slice A1 1 q1, .int .i64 0, .int .i64 1, .slice none 0 0, .slice none 0 0, .int .i64 0, .int .i64 0], .complex .f32 0 0, .bool true]) ∧ HasS cxV true b1 w.heap.size w'.heap.size w' (.slice A1 1 q1) [(x, y)] ∧ Span 0 0 w w' := by
  have h := stepModule_delay [(0, 0)] 0 1 rfl (ring1_vr _) x y true bd lo hi pd Ad w hs
  rw [(ring1_first (x, y)).1, (ring1_first (x, y)).2] at h
  exact h
theorem ring1_next (z z' : Cx) : pushR ([z], 0, 1) z' = ([z'], 0, 1) := by simp [pushR, putR, takeR]
theorem step_second (x y p q : Nat) (Ad : Option Addr) (pd bd lo hi : Nat) (w : World) (hs : HasS cxV true bd lo hi w (.slice Ad 1 pd) [(x, y)]) : Calls Try.prog 14 #[.agg #[.int .i64 4, .complex .f32 0 0, .complex .f32 0 0, .float .f32 0, .slice Ad 1 pd, .int .i64 0, .int .i64 1, .slice none 0 0, .slice none 0 0, .int .i64 0, .int .i64 0], .complex .f32 p q] w fun e w' => ∃ A1 q1, e = .returned (.tuple #[.agg #[.int .i64 4, .complex .f32 0 0, .complex .f32 0 0, .float .f32 0, .slice A1 1 q1, .int .i64 0, .int .i64 1, .slice none 0 0, .slice none 0 0, .int .i64 0, .int .i64 0], .complex .f32 x y, .bool true]) ∧ Span 0 0 w w' := by
  have h := stepModule_delay [(x, y)] 0 1 rfl (ring1_vr _) p q true bd lo hi pd Ad w hs
  rw [ring1_old (x, y), ring1_next] at h
  exact h.mono fun _ _ ⟨A1, q1, b1, h1, _, h3⟩ => ⟨A1, q1, h1, h3⟩
theorem gain_low (x y : Nat) (gx : floatBits .mul .f32 x 1065353216 = some x) (gy : floatBits .mul .f32 y 1065353216 = some y) (fx : flushB x = 0) (fy : flushB y = 2147483648) (w : World) : Calls Try.prog 14 #[.agg #[.int .i64 3, .complex .f32 0 0, .complex .f32 0 0, .float .f32 1065353216, .slice none 0 0, .int .i64 0, .int .i64 0, .slice none 0 0, .slice none 0 0, .int .i64 0, .int .i64 0], .complex .f32 x y] w fun e w' => e = .returned (.tuple #[.agg #[.int .i64 3, .complex .f32 0 0, .complex .f32 0 0, .float .f32 1065353216, .slice none 0 0, .int .i64 0, .int .i64 0, .slice none 0 0, .slice none 0 0, .int .i64 0, .int .i64 0], .complex .f32 0 2147483648, .bool true]) ∧ Span 0 0 w w' := by
  have h := stepModule_gain 1065353216 x y x y gx gy (by rw [fx]; decide +kernel) (by rw [fy]; decide +kernel) w
  rw [fx, fy] at h
  exact h
theorem gain_norm (w : World) : Calls Try.prog 14 #[.agg #[.int .i64 3, .complex .f32 0 0, .complex .f32 0 0, .float .f32 1065353216, .slice none 0 0, .int .i64 0, .int .i64 0, .slice none 0 0, .slice none 0 0, .int .i64 0, .int .i64 0], .complex .f32 1065353216 3225419776] w fun e w' => e = .returned (.tuple #[.agg #[.int .i64 3, .complex .f32 0 0, .complex .f32 0 0, .float .f32 1065353216, .slice none 0 0, .int .i64 0, .int .i64 0, .slice none 0 0, .slice none 0 0, .int .i64 0, .int .i64 0], .complex .f32 1065353216 3225419776, .bool true]) ∧ Span 0 0 w w' := by
  have f1 : flushB 1065353216 = 1065353216 := by decide +kernel
  have f2 : flushB 3225419776 = 3225419776 := by decide +kernel
  have h := stepModule_gain 1065353216 1065353216 3225419776 1065353216 3225419776 (by decide +kernel) (by decide +kernel) (by rw [f1]; decide +kernel) (by rw [f2]; decide +kernel) w
  rw [f1, f2] at h
  exact h

set_option maxRecDepth 100000 in
set_option maxHeartbeats 16000000 in
theorem law_through (A : Option Addr) (n c : Nat) (w : World) (h : HasBy w.heap.size w A n) : Calls Try.prog 3 #[.slice A n c] w (Says w) := by
  by_cases hn : n ≤ 1048576
  · have Hn := Lib.hid hn
    have Hby := Lib.hid h
    have i0 : decide ((1048576 : Int) < (n : Int)) = false := by rw [decide_eq_false_iff_not]; omega
    clear hn h
    go_enter Try.func3, Try.ntmps3
    go_wp2_with fail
    refine (at_any w.heap.size A n c 1 w (by omega) (by omega) Hn.out Hby.out).mono ?_
    rintro _ _ ⟨⟨r1, rfl, l1, m1⟩, rfl⟩
    obtain ⟨r1, rfl⟩ := Int.eq_ofNat_of_zero_le l1
    have q1 := Lib.hid (show r1 ≤ 255 by omega)
    clear l1 m1
    go_wp2_with fail
    refine (at_any w.heap.size A n c 2 w (by omega) (by omega) Hn.out Hby.out).mono ?_
    rintro _ _ ⟨⟨r2, rfl, l2, m2⟩, rfl⟩
    obtain ⟨r2, rfl⟩ := Int.eq_ofNat_of_zero_le l2
    have hM := Nat.mul_le_mul q1.out (show r2 ≤ 255 by omega)
    obtain ⟨M, hMe⟩ : ∃ M, M = r1 * r2 := ⟨_, rfl⟩
    have e1 : (r1 : Int) * (r2 : Int) = (M : Int) := by rw [hMe, Int.natCast_mul]
    rw [← hMe] at hM
    have hM0 : (M : Int) ≤ 65025 := by omega
    have HM := Lib.hid (show M ≤ 65025 by omega)
    clear hMe hM l2 m2
    go_wp2_with fail
    refine (fromSteps_posM M HM.out _).mono ?_
    rintro _ _ ⟨rfl, rfl⟩
    clear e1 hM0
    go_wp2_with fail
    refine (at_any w.heap.size A n c 3 w (by omega) (by omega) Hn.out Hby.out).mono ?_
    rintro _ _ ⟨⟨r3, rfl, l3, m3⟩, rfl⟩
    obtain ⟨r3, rfl⟩ := Int.eq_ofNat_of_zero_le l3
    have q3 := Lib.hid (show r3 ≤ 255 by omega)
    clear l3 m3
    go_wp2_with fail
    refine (at_any w.heap.size A n c 4 w (by omega) (by omega) Hn.out Hby.out).mono ?_
    rintro _ _ ⟨⟨r4, rfl, l4, m4⟩, rfl⟩
    obtain ⟨r4, rfl⟩ := Int.eq_ofNat_of_zero_le l4
    have hN := Nat.mul_le_mul q3.out (show r4 ≤ 255 by omega)
    obtain ⟨N, hNe⟩ : ∃ N, N = r3 * r4 := ⟨_, rfl⟩
    have e2 : (r3 : Int) * (r4 : Int) = (N : Int) := by rw [hNe, Int.natCast_mul]
    rw [← hNe] at hN
    have hN0 : (N : Int) ≤ 65025 := by omega
    have HN := Lib.hid (show N ≤ 65025 by omega)
    clear hNe hN l4 m4
    go_wp2_with fail
    refine (fromSteps_negM N HN.out _).mono ?_
    rintro _ _ ⟨rfl, rfl⟩
    clear e2 hN0
    have hX1 := Lib.hid (show M + 1 ≤ 65026 by have := HM.out; omega)
    have hY1 := Lib.hid (show N + 1 ≤ 65026 by have := HN.out; omega)
    obtain ⟨x, hx⟩ : ∃ x, x = M + 1 := ⟨_, rfl⟩
    obtain ⟨u, hu⟩ : ∃ u, u = N + 1 := ⟨_, rfl⟩
    obtain ⟨y, hy⟩ : ∃ y, y = 2147483648 + (N + 1) := ⟨_, rfl⟩
    rw [← hx, ← hy]
    rw [← hx] at hX1
    rw [← hu] at hY1 hy
    have HX0 := Lib.hid (show 0 < x ∧ 0 < u by omega)
    have HY := Lib.hid hy
    have FX : Hid (flushB x = 0) := Lib.hid (flush_low HX0.out.1 hX1.out).1
    have FY : Hid (flushB y = 2147483648) := Lib.hid (by rw [hy]; exact (flush_low HX0.out.2 hY1.out).2)
    have GX : Hid (floatBits .mul .f32 x 1065353216 = some x) := Lib.hid (mul_one_low (isU_low hX1.out).1)
    have GY : Hid (floatBits .mul .f32 y 1065353216 = some y) := Lib.hid (by rw [hy]; exact mul_one_low (isU_low hY1.out).2)
    obtain ⟨t1, t2, hmix, ho1, ho2⟩ := mixed_low hX1.out hY1.out w
    rw [← hy] at hmix ho2
    have HMIX := Lib.hid hmix
    have HO1 := Lib.hid ho1
    have HO2 := Lib.hid ho2
    obtain ⟨L, hL⟩ : ∃ L, L = max x u := ⟨_, rfl⟩
    have HL : Hid (raiseN (raiseN 0 x) y = L) := Lib.hid (by rw [hy, raise_low hX1.out hY1.out, hL])
    have HLE := Lib.hid (show L ≤ 2139095040 by have := hX1.out; have := hY1.out; omega)
    have HNG : Hid (Op.negFloat .f32 y = u) := Lib.hid (by
      have hyl : y < 4294967296 := by have := hY1.out; omega
      have := (neg_size hyl).2 (by omega)
      rw [this]; omega)
    have HMX : Hid (∀ (ts : Array TypeId) (t : TypeId) (w : World), (Builtin.max_ ts t #[.float .f32 x, .float .f32 u]).run Try.prog w = .ok (.float .f32 L) w) := Lib.hid (fun ts t w => by rw [hL]; exact run_max_pos _ ts t x u HX0.out.1 (by have := hX1.out; omega) (by have := hY1.out; omega) w)
    have HSM : Hid (x < 4294967296 ∧ y < 4294967296) := Lib.hid (by have := hX1.out; have := hY1.out; omega)
    clear hx hu hy hmix ho1 ho2 hL
    go_wp2_with fail
    refine (newHold_is 3 (by omega) _).mono ?_
    rintro _ w1 ⟨rfl, s1⟩
    have X1 := Lib.hid (Bx.new w1 #[.int .i64 8, .complex .f32 0 0, .complex .f32 0 0, .float .f32 0, .slice none 0 0, .int .i64 0, .int .i64 0, .slice none 0 0, .slice none 0 0, .int .i64 3, .int .i64 0] 35)
    have B1 := Lib.hid ((s1.below (Below.refl _ _) (.inl (Nat.le_refl _)) (Nat.le_refl _)).alloc s1.size (.cells #[.int .i64 8, .complex .f32 0 0, .complex .f32 0 0, .float .f32 0, .slice none 0 0, .int .i64 0, .int .i64 0, .slice none 0 0, .slice none 0 0, .int .i64 3, .int .i64 0] 35))
    obtain ⟨hb, hhb⟩ : ∃ b, b = w1.heap.size := ⟨_, rfl⟩
    clear s1
    go_wp2_with fail
    rw [← hhb] at X1 ⊢
    clear hhb
    generalize w1.alloc (.cells #[.int .i64 8, .complex .f32 0 0, .complex .f32 0 0, .float .f32 0, .slice none 0 0, .int .i64 0, .int .i64 0, .slice none 0 0, .slice none 0 0, .int .i64 3, .int .i64 0] 35) = w2 at *
    refine (newDelay_one _).mono ?_
    rintro _ w3 ⟨Ad, pd, bd, rfl, d3, s3⟩
    have X3 := Lib.hid ((X1.out.keep s3).alloc (.cells #[.int .i64 4, .complex .f32 0 0, .complex .f32 0 0, .float .f32 0, .slice Ad 1 pd, .int .i64 0, .int .i64 1, .slice none 0 0, .slice none 0 0, .int .i64 0, .int .i64 0] 35))
    have D3 := Lib.hid (Bx.new w3 #[.int .i64 4, .complex .f32 0 0, .complex .f32 0 0, .float .f32 0, .slice Ad 1 pd, .int .i64 0, .int .i64 1, .slice none 0 0, .slice none 0 0, .int .i64 0, .int .i64 0] 35)
    have DS3 := Lib.hid (d3.alloc (.cells #[.int .i64 4, .complex .f32 0 0, .complex .f32 0 0, .float .f32 0, .slice Ad 1 pd, .int .i64 0, .int .i64 1, .slice none 0 0, .slice none 0 0, .int .i64 0, .int .i64 0] 35))
    have B3 := Lib.hid ((s3.below B1.out (.inl (Nat.le_refl _)) B1.out.size).alloc (Nat.le_trans B1.out.size s3.size) (.cells #[.int .i64 4, .complex .f32 0 0, .complex .f32 0 0, .float .f32 0, .slice Ad 1 pd, .int .i64 0, .int .i64 1, .slice none 0 0, .slice none 0 0, .int .i64 0, .int .i64 0] 35))
    obtain ⟨db, hdb⟩ : ∃ b, b = w3.heap.size := ⟨_, rfl⟩
    obtain ⟨dhi, hdhi⟩ : ∃ b, b = w3.heap.size := ⟨_, rfl⟩
    obtain ⟨dlo, hdlo⟩ : ∃ b, b = w2.heap.size := ⟨_, rfl⟩
    rw [← hdhi, ← hdlo] at DS3
    rw [← hdb] at D3
    clear s3 d3 X1 B1 hdhi hdlo

    go_wp2_with fail
    rw [← hdb]
    have X4 := Lib.hid (X3.out.alloc (.cells #[.complex .f32 x y] 27))
    have D4 := Lib.hid (D3.out.alloc (.cells #[.complex .f32 x y] 27))
    have DS4 := Lib.hid (DS3.out.alloc (.cells #[.complex .f32 x y] 27))
    have L4 := one_hasS' (w3.alloc (.cells #[.int .i64 4, .complex .f32 0 0, .complex .f32 0 0, .float .f32 0, .slice Ad 1 pd, .int .i64 0, .int .i64 1, .slice none 0 0, .slice none 0 0, .int .i64 0, .int .i64 0] 35)) x y
    rw [show (w3.alloc (.cells #[.int .i64 4, .complex .f32 0 0, .complex .f32 0 0, .float .f32 0, .slice Ad 1 pd, .int .i64 0, .int .i64 1, .slice none 0 0, .slice none 0 0, .int .i64 0, .int .i64 0] 35)).heap.size = db + 1 by rw [hdb]; simp] at L4
    have L4 := Lib.hid L4
    have B4 := Lib.hid (B3.out.alloc B3.out.size (.cells #[.complex .f32 x y] 27))
    have OL := Lib.hid (show FloatKind.f32.format.order L L = some .eq by rw [order_bits HLE.out HLE.out, (cmp_eq).2 rfl])
    clear X3 D3 DS3 B3 hdb
    generalize (w3.alloc (.cells #[.int .i64 4, .complex .f32 0 0, .complex .f32 0 0, .float .f32 0, .slice Ad 1 pd, .int .i64 0, .int .i64 1, .slice none 0 0, .slice none 0 0, .int .i64 0, .int .i64 0] 35)).alloc (.cells #[.complex .f32 x y] 27) = w4 at *
    have c4 := X4.out.cells
    go_cut [72, 73, 74] (fun a l i wx => ∃ mb, a = .slice (some ⟨mb, 0, none⟩) 3 3 ∧ l = .int .i64 3 ∧ i = .int .i64 0 ∧ Bx mb #[.int .i64 5, .complex .f32 0 0, .complex .f32 0 0, .float .f32 0, .slice none 0 0, .int .i64 0, .int .i64 0, .slice none 0 0, .slice none 0 0, .int .i64 0, .int .i64 0, .int .i64 7, .complex .f32 0 0, .complex .f32 0 0, .float .f32 0, .slice none 0 0, .int .i64 0, .int .i64 0, .slice none 0 0, .slice none 0 0, .int .i64 0, .int .i64 0, .int .i64 8, .complex .f32 0 0, .complex .f32 0 0, .float .f32 0, .slice none 0 0, .int .i64 0, .int .i64 0, .slice none 0 0, .slice none 0 0, .int .i64 3, .int .i64 0] wx ∧ Span 0 0 w4 wx)
    case first =>
      go_region_with (first
        | (go_at_call 12; go_loud (refine (newSum_is _).mono ?_; rintro _ wa ⟨rfl, sa⟩; have SA : Hid (Span 0 0 w4 wa) := (by first | exact sa | exact sa.undrawn' | exact Span.undrawn' (n := 1) sa); have ca := (X4.out.keep SA.out).cells; clear sa))
        | (go_at_call 13; go_loud (refine (newMeter_is _).mono ?_; rintro _ wb ⟨rfl, sb⟩; have SB : Hid (Span 0 0 wa wb) := (by first | exact sb | exact sb.undrawn' | exact Span.undrawn' (n := 1) sb); have cb := ((X4.out.keep SA.out).keep SB.out).cells; clear sb)))
      all_goals
        go_wp2_with fail
        go_meet
        refine ⟨_, rfl, rfl, rfl, by first | exact Bx.new _ _ _ | exact (Bx.new _ _ _).drewN _, ?_⟩
        first | exact (SA.out.trans SB.out).alloc _ | exact ((SA.out.trans SB.out).drewN _).alloc _ | exact ((SA.out.trans SB.out).alloc _).drewN _ | exact ((SA.out.trans SB.out).drew).alloc _ | exact ((SA.out.trans SB.out).alloc _).drew
    case rest =>
      obtain ⟨mb, rfl, rfl, rfl, hbx, hsc⟩ := hcut
      have HBX := Lib.hid hbx
      have LH := Lib.hid (L4.out.span hsc (.inl (Nat.le_refl _)))
      have DB := Lib.hid (D4.out.keep hsc)
      have DS := Lib.hid (DS4.out.span hsc (.inl (Nat.le_refl _)))
      have BB := Lib.hid (hsc.below B4.out (.inl (Nat.le_refl _)) B4.out.size)
      clear hbx hsc c4 X4 L4 D4 DS4 B4
      go_wp2_with fail
      go_loopw [14, 15, 16, 17, 74] (fun _ _ _ _ i wr => ∃ j : Nat, j ≤ 3 ∧ i = .int .i64 j ∧ Span 0 0 wc wr) (fun _ _ _ _ i _ => 3 - (intOf i).toNat)
      case atStart => exact ⟨0, by omega, rfl, Span.refl _ _ _⟩
      case round =>
        obtain ⟨j, hj, rfl, hs⟩ := hrel
        have hj5 : j = 0 ∨ j = 1 ∨ j = 2 ∨ j = 3 := by omega
        clear hj
        rcases hj5 with rfl | rfl | rfl | rfl
        · have cm := (HBX.out.keep hs).cells
          have HSr := Lib.hid hs
          have STP := Lib.hid (fun w => stepModule_sum x y w)
          clear hs
          go_wp2_with fail
          refine (STP.out _).mono ?_
          rintro _ wa ⟨rfl, sa⟩
          skip
          have MB := ((((Bx.new wr #[.int .i64 5, .complex .f32 0 0, .complex .f32 0 0, .float .f32 0, .slice none 0 0, .int .i64 0, .int .i64 0, .slice none 0 0, .slice none 0 0, .int .i64 0, .int .i64 0] 35).keep sa).alloc (.cells #[.int .i64 5, .complex .f32 0 0, .complex .f32 0 0, .float .f32 0, .slice none 0 0, .int .i64 0, .int .i64 0, .slice none 0 0, .slice none 0 0, .int .i64 0, .int .i64 0] 35)).alloc (.cells #[.complex .f32 x y] 27))
          have NB := ((Bx.new wa #[.int .i64 5, .complex .f32 0 0, .complex .f32 0 0, .float .f32 0, .slice none 0 0, .int .i64 0, .int .i64 0, .slice none 0 0, .slice none 0 0, .int .i64 0, .int .i64 0] 35).alloc (.cells #[.complex .f32 x y] 27))
          have G1 := one_hasS' (wa.alloc (.cells #[.int .i64 5, .complex .f32 0 0, .complex .f32 0 0, .float .f32 0, .slice none 0 0, .int .i64 0, .int .i64 0, .slice none 0 0, .slice none 0 0, .int .i64 0, .int .i64 0] 35)) x y
          rw [show (wa.alloc (.cells #[.int .i64 5, .complex .f32 0 0, .complex .f32 0 0, .float .f32 0, .slice none 0 0, .int .i64 0, .int .i64 0, .slice none 0 0, .slice none 0 0, .int .i64 0, .int .i64 0] 35)).heap.size = wa.heap.size + 1 by simp] at G1
          have SR := (((HSr.out.alloc (.cells #[.int .i64 5, .complex .f32 0 0, .complex .f32 0 0, .float .f32 0, .slice none 0 0, .int .i64 0, .int .i64 0, .slice none 0 0, .slice none 0 0, .int .i64 0, .int .i64 0] 35)).trans sa).alloc (.cells #[.int .i64 5, .complex .f32 0 0, .complex .f32 0 0, .float .f32 0, .slice none 0 0, .int .i64 0, .int .i64 0, .slice none 0 0, .slice none 0 0, .int .i64 0, .int .i64 0] 35)).alloc (.cells #[.complex .f32 x y] 27)
          have G2 := LH.out.span SR (.inl (Nat.le_refl _))
          have SR := Lib.hid SR
          have MB := Lib.hid MB
          have NB := Lib.hid NB
          have G1 := Lib.hid G1
          have G2 := Lib.hid G2
          clear sa HSr cm
          go_wp2_with fail
          refine (makeSame_self [(x, y)] _ _ _ _ _ _ _ _ _ _ _ G1.out G2.out (by simp)).mono ?_
          rintro _ _ ⟨nd, rfl, rfl⟩
          have cmb := (MB.out.drewN nd).cells
          have cnb := (NB.out.drewN nd).cells
          skip
          have SR2 := Lib.hid (SR.out.drewN nd)
          clear G1 G2 MB NB SR
          generalize (((wa.alloc (.cells #[.int .i64 5, .complex .f32 0 0, .complex .f32 0 0, .float .f32 0, .slice none 0 0, .int .i64 0, .int .i64 0, .slice none 0 0, .slice none 0 0, .int .i64 0, .int .i64 0] 35)).alloc (.cells #[.complex .f32 x y] 27))).drewN nd = wz at *
          go_wp2_with fail
          skip
          go_roundw
          case rel => exact ⟨0+1, by omega, by first | rfl | go_num | simp, SR2.out⟩
          case measure => simp [intOf]

        · have cm := (HBX.out.keep hs).cells
          have HSr := Lib.hid hs
          have STP := Lib.hid (fun w => stepModule_meter 0 x y (by omega) HSM.out.1 HSM.out.2 w)
          clear hs
          go_wp2_with fail
          refine (STP.out _).mono ?_
          rintro _ wa ⟨rfl, sa⟩
          have hlv := HL.out; rw [hlv]; clear hlv
          have MB := ((((Bx.new wr #[.int .i64 7, .complex .f32 0 0, .complex .f32 0 0, .float .f32 0, .slice none 0 0, .int .i64 0, .int .i64 0, .slice none 0 0, .slice none 0 0, .int .i64 0, .int .i64 0] 35).keep sa).alloc (.cells #[.int .i64 7, .complex .f32 0 0, .complex .f32 0 0, .float .f32 L, .slice none 0 0, .int .i64 0, .int .i64 0, .slice none 0 0, .slice none 0 0, .int .i64 0, .int .i64 0] 35)).alloc (.cells #[.complex .f32 x y] 27))
          have NB := ((Bx.new wa #[.int .i64 7, .complex .f32 0 0, .complex .f32 0 0, .float .f32 L, .slice none 0 0, .int .i64 0, .int .i64 0, .slice none 0 0, .slice none 0 0, .int .i64 0, .int .i64 0] 35).alloc (.cells #[.complex .f32 x y] 27))
          have G1 := one_hasS' (wa.alloc (.cells #[.int .i64 7, .complex .f32 0 0, .complex .f32 0 0, .float .f32 L, .slice none 0 0, .int .i64 0, .int .i64 0, .slice none 0 0, .slice none 0 0, .int .i64 0, .int .i64 0] 35)) x y
          rw [show (wa.alloc (.cells #[.int .i64 7, .complex .f32 0 0, .complex .f32 0 0, .float .f32 L, .slice none 0 0, .int .i64 0, .int .i64 0, .slice none 0 0, .slice none 0 0, .int .i64 0, .int .i64 0] 35)).heap.size = wa.heap.size + 1 by simp] at G1
          have SR := (((HSr.out.alloc (.cells #[.int .i64 7, .complex .f32 0 0, .complex .f32 0 0, .float .f32 0, .slice none 0 0, .int .i64 0, .int .i64 0, .slice none 0 0, .slice none 0 0, .int .i64 0, .int .i64 0] 35)).trans sa).alloc (.cells #[.int .i64 7, .complex .f32 0 0, .complex .f32 0 0, .float .f32 L, .slice none 0 0, .int .i64 0, .int .i64 0, .slice none 0 0, .slice none 0 0, .int .i64 0, .int .i64 0] 35)).alloc (.cells #[.complex .f32 x y] 27)
          have G2 := LH.out.span SR (.inl (Nat.le_refl _))
          have SR := Lib.hid SR
          have MB := Lib.hid MB
          have NB := Lib.hid NB
          have G1 := Lib.hid G1
          have G2 := Lib.hid G2
          clear sa HSr cm
          go_wp2_with fail
          refine (makeSame_self [(x, y)] _ _ _ _ _ _ _ _ _ _ _ G1.out G2.out (by simp)).mono ?_
          rintro _ _ ⟨nd, rfl, rfl⟩
          have cmb := (MB.out.drewN nd).cells
          have cnb := (NB.out.drewN nd).cells
          have hng := HNG.out; have hmx := HMX.out; have oL := OL.out
          have SR2 := Lib.hid (SR.out.drewN nd)
          clear G1 G2 MB NB SR
          generalize (((wa.alloc (.cells #[.int .i64 7, .complex .f32 0 0, .complex .f32 0 0, .float .f32 L, .slice none 0 0, .int .i64 0, .int .i64 0, .slice none 0 0, .slice none 0 0, .int .i64 0, .int .i64 0] 35)).alloc (.cells #[.complex .f32 x y] 27))).drewN nd = wz at *
          go_wp2_with fail
          clear hng hmx oL
          go_roundw
          case rel => exact ⟨1+1, by omega, by first | rfl | go_num | simp, SR2.out⟩
          case measure => simp [intOf]

        · have cm := (HBX.out.keep hs).cells
          have HSr := Lib.hid hs
          have STP := Lib.hid (fun w => stepModule_hold1 x y 0 0 3 (by omega) (by omega) w)
          clear hs
          go_wp2_with fail
          refine (STP.out _).mono ?_
          rintro _ wa ⟨rfl, sa⟩
          skip
          have MB := ((((Bx.new wr #[.int .i64 8, .complex .f32 0 0, .complex .f32 0 0, .float .f32 0, .slice none 0 0, .int .i64 0, .int .i64 0, .slice none 0 0, .slice none 0 0, .int .i64 3, .int .i64 0] 35).keep sa).alloc (.cells #[.int .i64 8, .complex .f32 0 0, .complex .f32 x y, .float .f32 0, .slice none 0 0, .int .i64 0, .int .i64 0, .slice none 0 0, .slice none 0 0, .int .i64 3, .int .i64 2] 35)).alloc (.cells #[.complex .f32 x y] 27))
          have NB := ((Bx.new wa #[.int .i64 8, .complex .f32 0 0, .complex .f32 x y, .float .f32 0, .slice none 0 0, .int .i64 0, .int .i64 0, .slice none 0 0, .slice none 0 0, .int .i64 3, .int .i64 2] 35).alloc (.cells #[.complex .f32 x y] 27))
          have G1 := one_hasS' (wa.alloc (.cells #[.int .i64 8, .complex .f32 0 0, .complex .f32 x y, .float .f32 0, .slice none 0 0, .int .i64 0, .int .i64 0, .slice none 0 0, .slice none 0 0, .int .i64 3, .int .i64 2] 35)) x y
          rw [show (wa.alloc (.cells #[.int .i64 8, .complex .f32 0 0, .complex .f32 x y, .float .f32 0, .slice none 0 0, .int .i64 0, .int .i64 0, .slice none 0 0, .slice none 0 0, .int .i64 3, .int .i64 2] 35)).heap.size = wa.heap.size + 1 by simp] at G1
          have SR := (((HSr.out.alloc (.cells #[.int .i64 8, .complex .f32 0 0, .complex .f32 0 0, .float .f32 0, .slice none 0 0, .int .i64 0, .int .i64 0, .slice none 0 0, .slice none 0 0, .int .i64 3, .int .i64 0] 35)).trans sa).alloc (.cells #[.int .i64 8, .complex .f32 0 0, .complex .f32 x y, .float .f32 0, .slice none 0 0, .int .i64 0, .int .i64 0, .slice none 0 0, .slice none 0 0, .int .i64 3, .int .i64 2] 35)).alloc (.cells #[.complex .f32 x y] 27)
          have G2 := LH.out.span SR (.inl (Nat.le_refl _))
          have SR := Lib.hid SR
          have MB := Lib.hid MB
          have NB := Lib.hid NB
          have G1 := Lib.hid G1
          have G2 := Lib.hid G2
          clear sa HSr cm
          go_wp2_with fail
          refine (makeSame_self [(x, y)] _ _ _ _ _ _ _ _ _ _ _ G1.out G2.out (by simp)).mono ?_
          rintro _ _ ⟨nd, rfl, rfl⟩
          have cmb := (MB.out.drewN nd).cells
          have cnb := (NB.out.drewN nd).cells
          skip
          have SR2 := Lib.hid (SR.out.drewN nd)
          clear G1 G2 MB NB SR
          generalize (((wa.alloc (.cells #[.int .i64 8, .complex .f32 0 0, .complex .f32 x y, .float .f32 0, .slice none 0 0, .int .i64 0, .int .i64 0, .slice none 0 0, .slice none 0 0, .int .i64 3, .int .i64 2] 35)).alloc (.cells #[.complex .f32 x y] 27))).drewN nd = wz at *
          go_wp2_with fail
          skip
          go_roundw
          case rel => exact ⟨2+1, by omega, by first | rfl | go_num | simp, SR2.out⟩
          case measure => simp [intOf]

        · skip
          have cd := (DB.out.keep hs).cells
          have DSr := Lib.hid (DS.out.span hs (.inl (Nat.le_refl _)))
          have LHr := Lib.hid (LH.out.span hs (.inl (Nat.le_refl _)))
          have BBr := Lib.hid (hs.below BB.out (.inl (Nat.le_refl _)) BB.out.size)
          clear hs
          go_wp2_with fail
          refine (step_first x y Ad pd bd _ _ _ DSr.out).mono ?_
          rintro _ v1 ⟨A1, q1, b1, rfl, g1, t1'⟩
          have S1 := Lib.hid (t1'.alloc (.cells #[.int .i64 4, .complex .f32 0 0, .complex .f32 0 0, .float .f32 0, .slice A1 1 q1, .int .i64 0, .int .i64 1, .slice none 0 0, .slice none 0 0, .int .i64 0, .int .i64 0] 35))
          have G1 := Lib.hid (g1.alloc (.cells #[.int .i64 4, .complex .f32 0 0, .complex .f32 0 0, .float .f32 0, .slice A1 1 q1, .int .i64 0, .int .i64 1, .slice none 0 0, .slice none 0 0, .int .i64 0, .int .i64 0] 35))
          clear t1' g1 cd
          go_wp2_with fail
          refine (step_second x y 1065353216 0 A1 q1 b1 _ _ _ G1.out).mono ?_
          rintro _ v2 ⟨A2, q2, rfl, t2'⟩
          have S2 := Lib.hid ((S1.out.trans t2').alloc (.cells #[.int .i64 4, .complex .f32 0 0, .complex .f32 0 0, .float .f32 0, .slice A2 1 q2, .int .i64 0, .int .i64 1, .slice none 0 0, .slice none 0 0, .int .i64 0, .int .i64 0] 35))
          clear t2' S1 G1
          go_wp2_with fail
          refine (newMixer_is 1065353216 0 _).mono ?_
          rintro _ v3 ⟨rfl, t3'⟩
          have S3 := Lib.hid (S2.out.trans t3')
          clear t3' S2
          go_wp2_with fail
          refine (stepModule_mixer 1065353216 0 1065353216 0 1065353216 0 x y t1 t2 HMIX.out one_one _).mono ?_
          rintro _ v4 ⟨rfl, t4'⟩
          have S4 := Lib.hid ((S3.out.trans t4').alloc (.cells #[.int .i64 2, .complex .f32 1065353216 0, .complex .f32 1065353216 0, .float .f32 0, .slice none 0 0, .int .i64 0, .int .i64 0, .slice none 0 0, .slice none 0 0, .int .i64 0, .int .i64 0] 35))
          clear t4' S3
          go_wp2_with fail
          refine (newGain_is 1065353216 _).mono ?_
          rintro _ v5 ⟨rfl, t5'⟩
          have S5 := Lib.hid (S4.out.trans t5')
          clear t5' S4
          go_wp2_with fail
          refine (gain_low x y GX.out GY.out FX.out FY.out _).mono ?_
          rintro _ v6 ⟨rfl, t6'⟩
          have S6 := Lib.hid ((S5.out.trans t6').alloc (.cells #[.int .i64 3, .complex .f32 0 0, .complex .f32 0 0, .float .f32 1065353216, .slice none 0 0, .int .i64 0, .int .i64 0, .slice none 0 0, .slice none 0 0, .int .i64 0, .int .i64 0] 35))
          clear t6' S5
          go_wp2_with fail
          refine (newGain_is 1065353216 _).mono ?_
          rintro _ v7 ⟨rfl, t7'⟩
          have S7 := Lib.hid (S6.out.trans t7')
          clear t7' S6
          go_wp2_with fail
          refine (gain_norm _).mono ?_
          rintro _ v8 ⟨rfl, t8'⟩
          have S8 := Lib.hid (((S7.out.trans t8').alloc (.cells #[.int .i64 3, .complex .f32 0 0, .complex .f32 0 0, .float .f32 1065353216, .slice none 0 0, .int .i64 0, .int .i64 0, .slice none 0 0, .slice none 0 0, .int .i64 0, .int .i64 0] 35)).alloc (.cells #[.complex .f32 x y] 27))
          have G1 := one_hasS' (v8.alloc (.cells #[.int .i64 3, .complex .f32 0 0, .complex .f32 0 0, .float .f32 1065353216, .slice none 0 0, .int .i64 0, .int .i64 0, .slice none 0 0, .slice none 0 0, .int .i64 0, .int .i64 0] 35)) x y
          have G1 := Lib.hid G1
          have G2 := Lib.hid (LHr.out.span S8.out (.inl (Nat.le_refl _)))
          have oz : FloatKind.f32.format.order 0 0 = some .eq := by decide +kernel
          have oz2 : FloatKind.f32.format.order 2147483648 0 = some .eq := by decide +kernel
          have on1 : FloatKind.f32.format.order 1065353216 1065353216 = some .eq := by decide +kernel
          have on2 : FloatKind.f32.format.order 3225419776 3225419776 = some .eq := by decide +kernel
          have om1 := HO1.out
          have om2 := HO2.out
          clear t8' S7
          go_wp2_with fail
          refine (makeSame_self [(x, y)] _ _ _ _ _ _ _ _ _ _ _ (by first | exact G1.out | simpa using G1.out) G2.out (by simp)).mono ?_
          rintro _ _ ⟨nd, rfl, rfl⟩
          have BF := Lib.hid ((S8.out.drewN nd).below BBr.out (.inl (Nat.le_refl _)) BBr.out.size)
          go_wp2_with fail
          go_ret
          exact ⟨rfl, BF.out⟩
  · have i0 : decide ((1048576 : Int) < (n : Int)) = true := by rw [decide_eq_true_iff]; omega
    clear hn h
    go_enter Try.func3, Try.ntmps3
    go_wp2_with fail
    go_ret
    exact ⟨rfl, Below.refl _ _⟩
end Go.Proofs.Ytdmahikaajdkgaa
