/- The model reads a number. -/
import Derived.Test.YthcccliiokckjaaDoorT10
namespace Go.Proofs.YthcccliiokckjaaDoor
open Go.RowKit Ieee

def AtS (s : Bool) (z o n : Nat) : Prop := isU Ieee.double z s (o * 2 ^ n)
theorem AtS.half {s : Bool} {z kept n : Nat} (h : AtS s z kept (n + 1)) (hk : kept < 16777216) (hn : n ≤ 2000) : ∃ z', floatBits .quo .f64 z 4611686018427387904 = some z' ∧ AtS s z' kept n := by
  have h' : isU Ieee.double z s (2 * (kept * 2 ^ n)) := by
    have e : kept * 2 ^ (n + 1) = 2 * (kept * 2 ^ n) := by rw [Nat.pow_succ, Nat.mul_comm (2 ^ n), Nat.mul_left_comm]
    unfold AtS at h
    rw [e] at h
    exact h
  obtain ⟨z', h1, h2⟩ := quo_isU h' read_two rfl (by omega) (rep_d hk hn)
  rw [Bool.xor_false] at h2
  exact ⟨z', h1, h2⟩
theorem AtS.twice {s : Bool} {z kept n : Nat} (h : AtS s z kept n) (hk : kept < 16777216) (hn : n ≤ 1999) : ∃ z', floatBits .mul .f64 z 4611686018427387904 = some z' ∧ AtS s z' kept (n + 1) := by
  obtain ⟨z', h1, h2⟩ := mul_isU (K := 1074) d_lp h isU_two (rep_d (n := n + 1) hk (by omega)) (twice_units kept n 1074)
  rw [Bool.xor_false] at h2
  exact ⟨z', h1, h2⟩

/-- An odd number with a sign. -/
def sO (x : Nat) : Int := if negOf Ieee.single x then -(oddR (rungOf Ieee.single x) : Int) else (oddR (rungOf Ieee.single x) : Int)

theorem AtS.ofInt {x : Nat} (h0 : 0 < rungOf Ieee.single x) (h1 : rungOf Ieee.single x < 2139095040) : AtS (negOf Ieee.single x) (floatOfInt .f64 (sO x)) (oddR (rungOf Ieee.single x)) 1074 := by
  obtain ⟨o1, o2, _, _⟩ := oddR_lt h0 h1
  unfold sO
  generalize oddR (rungOf Ieee.single x) = o at *
  cases negOf Ieee.single x with
  | false => exact AtY.ofInt o1
  | true =>
    rw [if_pos rfl]
    have h : floatOfInt .f64 (-(o : Int)) = Ieee.double.nearest true o 0 := by
      unfold floatOfInt FloatKind.nearest FloatKind.encode FloatKind.format Ieee.Format.write
      simp only []
      have e1 : decide (-(o : Int) < 0) = true := by rw [decide_eq_true_iff]; omega
      rw [e1, Int.natAbs_neg, Int.natAbs_natCast]
    rw [h]
    exact isU_of_nearest true (a := 1074) (b := 0) (rep_d (n := 1074) o1 (by omega)) (times_one_pow o 1074) (by rw [d_lp]; omega)

theorem text_split {l : List UInt8} {x : Nat} (h : Parsed l x) (h1 : l ≠ [48]) (h2 : l ≠ [45, 48]) : 0 < rungOf Ieee.single x ∧ splitL l = [Lib.itoa (sO x), Lib.itoa (powR (rungOf Ieee.single x))] := by
  obtain ⟨x1, x2, x3⟩ := h
  have h0 : rungOf Ieee.single x ≠ 0 := by
    intro h
    have := fmtL_zero h
    rw [x3] at this
    cases hn : negOf Ieee.single x with
    | false => rw [hn] at this; exact h1 this
    | true => rw [hn] at this; exact h2 this
  refine ⟨by omega, ?_⟩
  have hp : 0 < oddR (rungOf Ieee.single x) := by have := (oddR_lt (by omega) x2).2.1; omega
  rw [fmtL_num (by omega) x2] at x3
  unfold bareL at x3
  have e : l = Lib.itoa (sO x) ++ 112 :: Lib.itoa (powR (rungOf Ieee.single x)) := by
    rw [← x3]
    unfold sO
    cases negOf Ieee.single x with
    | false => rfl
    | true =>
      rw [if_pos rfl, if_pos rfl, Lib.itoa_neg _ hp, Lib.itoa_nonneg]; rfl
  rw [e]
  exact splitL_text _ _ itoa_no_p itoa_no_p

theorem sO_bound {x : Nat} (h0 : 0 < rungOf Ieee.single x) (h1 : rungOf Ieee.single x < 2139095040) : -16777216 ≤ sO x ∧ sO x ≤ 16777216 := by
  have := (oddR_lt h0 h1).1
  unfold sO; split <;> omega

/-- How a number that is read stands, e doublings ahead of the end. -/
def Under (l : List UInt8) (z : Nat) (e : Int) : Prop := ∀ x, Parsed l x → 0 < rungOf Ieee.single x ∧ AtS (negOf Ieee.single x) z (oddR (rungOf Ieee.single x)) (1074 + powR (rungOf Ieee.single x) - e).toNat ∧ e.natAbs ≤ 200

theorem Under.twice {l : List UInt8} {z : Nat} {e : Int} (h : Under l z e) (h0 : 0 < e) (w : World) : Under l (fAr .mul .f64 z 4611686018427387904 w) (e - 1) := by
  intro x hx
  obtain ⟨a, b, c⟩ := h x hx
  obtain ⟨p1, p2⟩ := powR_bound a hx.2.1
  obtain ⟨z', h1, h2⟩ := b.twice (oddR_lt a hx.2.1).1 (by omega)
  refine ⟨a, ?_, by omega⟩
  have e1 : fAr .mul .f64 z 4611686018427387904 w = z' := by simp [fAr, h1]
  rw [e1, show (1074 + powR (rungOf Ieee.single x) - (e - 1)).toNat = (1074 + powR (rungOf Ieee.single x) - e).toNat + 1 by omega]
  exact h2
theorem Under.half {l : List UInt8} {z : Nat} {e : Int} (h : Under l z e) (h0 : e < 0) (w : World) : Under l (fAr .quo .f64 z 4611686018427387904 w) (e + 1) := by
  intro x hx
  obtain ⟨a, b, c⟩ := h x hx
  obtain ⟨p1, p2⟩ := powR_bound a hx.2.1
  rw [show (1074 + powR (rungOf Ieee.single x) - e).toNat = (1074 + powR (rungOf Ieee.single x) - (e + 1)).toNat + 1 by omega] at b
  obtain ⟨z', h1, h2⟩ := b.half (oddR_lt a hx.2.1).1 (by omega)
  refine ⟨a, ?_, by omega⟩
  have e1 : fAr .quo .f64 z 4611686018427387904 w = z' := by simp [fAr, h1]
  rw [e1]
  exact h2
theorem Under.read {l : List UInt8} {z : Nat} (h : Under l z 0) {x : Nat} (hx : Parsed l x) : floatToFloatBits .f64 z .f32 = some x := by
  obtain ⟨a, b, _⟩ := h x hx
  obtain ⟨p1, p2⟩ := powR_bound a hx.2.1
  obtain ⟨_, _, _, o4⟩ := oddR_lt a hx.2.1
  rw [show (1074 + powR (rungOf Ieee.single x) - 0).toNat = twos (units Ieee.single (rungOf Ieee.single x)) + 925 by unfold powR at *; omega] at b
  have := narrow b o4 (by rw [s_inf]; exact hx.2.1)
  rw [this, ← word_of hx.1]

theorem parsed_zero : Parsed [48] 0 := ⟨by omega, by rw [rung_zero]; omega, by rw [fmtL_zero rung_zero, neg_zero_]; rfl⟩
theorem parsed_nzero : Parsed [45, 48] 2147483648 := by
  have h1 : rungOf Ieee.single 2147483648 = 0 := by decide +kernel
  have h2 : negOf Ieee.single 2147483648 = true := by decide +kernel
  exact ⟨by omega, by rw [h1]; omega, by rw [fmtL_zero h1, h2]; rfl⟩
theorem parsed_fin {l : List UInt8} {y : Nat} (hy : y < 4294967296) (h : fmtL y = l) (hl : l ≠ []) : Parsed l y := by
  refine ⟨hy, ?_, h⟩
  by_cases hf : rungOf Ieee.single y < 2139095040
  · exact hf
  · exfalso
    unfold fmtL at h
    rw [if_neg hf] at h
    exact hl h.symm

set_option maxRecDepth 100000 in
theorem spec_parse_zero (w : World) : Calls Tryd.prog 16 #[.string ⟨#[48]⟩] w (GivesParse [48] w) := by
  go_enter Tryd.func16, Tryd.ntmps16
  go_wp2_with fail
  go_ret2
  exact ⟨.inl ⟨0, parsed_zero, rfl⟩, Span.refl _ _ _⟩
set_option maxRecDepth 100000 in
theorem spec_parse_nzero (w : World) : Calls Tryd.prog 16 #[.string ⟨#[45, 48]⟩] w (GivesParse [45, 48] w) := by
  go_enter Tryd.func16, Tryd.ntmps16
  go_wp2_with fail
  go_ret2
  exact ⟨.inl ⟨2147483648, parsed_nzero, rfl⟩, Span.refl _ _ _⟩

theorem piece_len {l : List UInt8} : ∀ p ∈ splitL l, p.length ≤ l.length := by
  have key : ∀ (l : List UInt8) (o : List (List UInt8)) (c : List UInt8) (N : Nat), (∀ p ∈ o, p.length ≤ N) → c.length ≤ N →
      (∀ p ∈ (l.foldl (fun (s : List (List UInt8) × List UInt8) c => if c = 112 then (s.1 ++ [s.2], []) else (s.1, s.2 ++ [c])) (o, c)).1, p.length ≤ N + l.length) ∧ (l.foldl (fun (s : List (List UInt8) × List UInt8) c => if c = 112 then (s.1 ++ [s.2], []) else (s.1, s.2 ++ [c])) (o, c)).2.length ≤ N + l.length := by
    intro l
    induction l with
    | nil => intro o c N h1 h2; exact ⟨h1, h2⟩
    | cons x r ih =>
      intro o c N h1 h2
      rw [List.foldl_cons, List.length_cons, show N + (r.length + 1) = (N + 1) + r.length by omega]
      by_cases hx : x = 112
      · rw [if_pos hx]
        refine ih _ _ (N + 1) (fun p hp => ?_) (by simp)
        rcases List.mem_append.1 hp with h | h
        · have := h1 p h; omega
        · rw [List.mem_singleton.1 h]; show c.length ≤ _; omega
      · rw [if_neg hx]
        exact ih _ _ (N + 1) (fun p hp => by have := h1 p hp; omega) (by simp; omega)
  intro p hp
  obtain ⟨h1, h2⟩ := key l [] [] 0 (fun p hp => by simp at hp) (by simp)
  unfold splitL splitSt at hp
  rcases List.mem_append.1 hp with h | h
  · have := h1 p h; omega
  · rw [List.mem_singleton.1 h]
    simpa using h2

set_option maxRecDepth 100000 in
set_option maxHeartbeats 2000000 in
theorem spec_parse_num (l : List UInt8) (hl : l.length ≤ 4194304) (h1 : l ≠ [48]) (h2 : l ≠ [45, 48]) (w : World) : Calls Tryd.prog 16 #[.string ⟨l.toArray⟩] w (GivesParse l w) := by
  have b1 : (l == [48]) = false := by rw [beq_eq_false_iff_ne]; exact h1
  have b2 : (l == [45, 48]) = false := by rw [beq_eq_false_iff_ne]; exact h2
  have HS0 := Lib.hid (fun x (h : Parsed l x) => text_split h h1 h2)
  clear h1 h2
  go_enter Tryd.func16, Tryd.ntmps16
  go_wp2_with fail
  refine (l1Split_any ⟨l.toArray⟩ (by rw [size_list]; exact hl) _).mono ?_
  rintro _ w1 ⟨v, b, rfl, hv, s1⟩
  rw [show (⟨l.toArray⟩ : ByteArray).data.toList = l from rfl] at hv
  obtain ⟨ps, hps⟩ : ∃ ps, ps = splitL l := ⟨_, rfl⟩
  have HPS := Lib.hid hps
  have S1 := Lib.hid s1
  rw [← hps] at hv
  clear hps s1
  by_cases hlen : ps.length = 2
  · match ps, hlen with
    | [p, q], _ =>
      obtain ⟨A, cap, rfl, hcap, hc⟩ := hv
      obtain ⟨off, rfl, _, _, hb, hcell, _⟩ := hc (by simp)
      have c0 : w1.cell? ⟨b, off, none⟩ = some (.string ⟨p.toArray⟩) := hcell 0 p rfl
      have c1 : w1.cell? ⟨b, off + 1, none⟩ = some (.string ⟨q.toArray⟩) := hcell 1 q rfl
      have hpl : p.length ≤ l.length := piece_len p (by rw [← HPS.out]; simp)
      have hql : q.length ≤ l.length := piece_len q (by rw [← HPS.out]; simp)
      have hne : Hid (l ≠ []) := by
        intro h0
        have h := HPS.out
        rw [h0] at h
        exact absurd h (by simp [splitL, splitSt])
      clear hcell hc
      go_wp2_with fail
      refine (l1Read_any p (by omega) _).mono ?_
      rintro _ _ ⟨m, one, rfl, m1, m2, hm, rfl⟩
      have HM := Lib.hid hm
      clear hm
      go_wp2_with fail
      refine (l1Read_any q (by omega) _).mono ?_
      rintro _ _ ⟨k, two, rfl, k1, k2, hk, rfl⟩
      have HX : Hid (∀ x, Parsed l x → one = true ∧ two = true ∧ m = sO x ∧ k = powR (rungOf Ieee.single x) ∧ 0 < rungOf Ieee.single x) := by
        intro x hx
        obtain ⟨h0, hsp⟩ := HS0.out x hx
        rw [← HPS.out] at hsp
        injection hsp with e1 e2
        injection e2 with e2 _
        obtain ⟨s1, s2⟩ := sO_bound h0 hx.2.1
        obtain ⟨p1, p2⟩ := powR_bound h0 hx.2.1
        obtain ⟨u1, u2⟩ := HM.out (sO x) (by omega) (by omega) e1
        obtain ⟨v1, v2⟩ := hk (powR (rungOf Ieee.single x)) (by omega) (by omega) e2
        exact ⟨u1, v1, u2, v2, h0⟩
      clear hk HM HPS HS0 c0 c1 hpl hql m1 m2 k1 k2
      cases one with
      | false =>
        have HNP : Hid (∀ x, ¬ Parsed l x) := fun x h => by have := (HX.out x h).1; cases this
        go_wp2_with fail
        go_ret2
        exact ⟨.inr ⟨HNP.out, rfl⟩, S1.out⟩
      | true =>
        cases two with
        | false =>
          have HNP : Hid (∀ x, ¬ Parsed l x) := fun x h => by have := (HX.out x h).2.1; cases this
          go_wp2_with fail
          go_ret2
          exact ⟨.inr ⟨HNP.out, rfl⟩, S1.out⟩
        | true =>
          go_wp2_with fail
          refine (l1In_any k (-200) 200 _).mono ?_
          rintro _ _ ⟨rfl, rfl⟩
          by_cases hk : -200 ≤ k ∧ k ≤ 200
          · rw [show decide (-200 ≤ k ∧ k ≤ 200) = true by rw [decide_eq_true_iff]; exact hk]
            go_wp2_with fail
            refine (l1In_any m (-16777216) 16777216 _).mono ?_
            rintro _ _ ⟨rfl, rfl⟩
            by_cases hm : -16777216 ≤ m ∧ m ≤ 16777216
            · rw [show decide (-16777216 ≤ m ∧ m ≤ 16777216) = true by rw [decide_eq_true_iff]; exact hm]
              obtain ⟨k1, k2⟩ := hk
              obtain ⟨m1, m2⟩ := hm
              have HU : Hid (Under l (floatOfInt .f64 m) k) := by
                intro x hx
                obtain ⟨_, _, h3, h4, h5⟩ := HX.out x hx
                refine ⟨h5, ?_, by omega⟩
                rw [h3, h4, show (1074 + powR (rungOf Ieee.single x) - powR (rungOf Ieee.single x)).toNat = 1074 by omega]
                exact AtS.ofInt h5 hx.2.1
              clear HX
              go_wp2_with fail
              go_loopw [8, 10] (fun ev yv wr => ∃ (e : Int) (z d : Nat), ev = .int .i64 e ∧ yv = .float .f64 z ∧ -200 ≤ e ∧ e ≤ 200 ∧ Under l z e ∧ wr = w1.drewN d) (fun ev _ _ => (intOf ev).toNat)
              case atStart => exact ⟨k, _, 0, rfl, rfl, k1, k2, HU.out, rfl⟩
              case round =>
                clear HU k1 k2
                obtain ⟨e, z, d, rfl, rfl, e1, e2, hu, rfl⟩ := hrel
                by_cases h0 : 0 < e
                · have HU := Lib.hid (fun w => hu.twice h0 w)
                  clear hu
                  go_wp2_with fail
                  go_roundw
                  case rel => exact ⟨e - 1, _, _, rfl, rfl, by omega, by omega, HU.out _, rfl⟩
                  case measure => simp [intOf]; omega
                · have HU := Lib.hid hu
                  have e0 : e ≤ 0 := by omega
                  clear hu h0 e2
                  go_wp2_with fail
                  obtain ⟨d0, hd0⟩ : ∃ d0, d0 = d := ⟨_, rfl⟩
                  go_loopw [8, 10] (fun ev yv wr => ∃ (e : Int) (z d : Nat), ev = .int .i64 e ∧ yv = .float .f64 z ∧ -200 ≤ e ∧ e ≤ 0 ∧ Under l z e ∧ wr = w1.drewN d) (fun ev _ _ => (-(intOf ev)).toNat)
                  case atStart => exact ⟨e, z, d, rfl, rfl, e1, e0, HU.out, rfl⟩
                  case round =>
                    clear HU e1 e0 hd0
                    obtain ⟨e, z, d, rfl, rfl, e1, e2, hu, rfl⟩ := hrel
                    by_cases h0 : e < 0
                    · have HU := Lib.hid (fun w => hu.half h0 w)
                      clear hu
                      go_wp2_with fail
                      go_roundw
                      case rel => exact ⟨e + 1, _, _, rfl, rfl, by omega, by omega, HU.out _, rfl⟩
                      case measure => simp [intOf]; omega
                    · have he0 : e = 0 := by omega
                      subst he0
                      have HU := Lib.hid hu
                      clear hu h0 e1 e2
                      go_wp2_with fail
                      generalize hy : fCv .f64 .f32 z (w1.drewN d) = y
                      have hyl : y < 4294967296 := by rw [← hy]; exact fCv32_lt _ _
                      have HY := Lib.hid hy
                      clear hy
                      refine (spec_formatSingle y hyl _).mono ?_
                      rintro _ w2 ⟨rfl, s2⟩
                      have S2 := Lib.hid (s2.after (S1.out.drewN (d + fCd .f64 .f32 z)))
                      clear s2
                      by_cases hfe : fmtL y = l
                      · have hpy := parsed_fin hyl hfe hne.out
                        have hfl := HU.out.read hpy
                        have hc1 : ∀ w, fCv .f64 .f32 z w = y := fun w => by simp [fCv, hfl]
                        have hc2 : fCd .f64 .f32 z = 0 := by simp [fCd, hfl]
                        have HPY := Lib.hid hpy
                        have b3 : (fmtL y == l) = true := by rw [beq_iff_eq]; exact hfe
                        have b4 : (fmtL y != l) = false := by rw [bne, b3]; rfl
                        clear hfe hpy hfl
                        go_wp2_with fail
                        go_ret2
                        exact ⟨.inl ⟨y, HPY.out, rfl⟩, S2.out⟩
                      · have HNP : Hid (∀ x, ¬ Parsed l x) := fun x hx => by
                          have h := HU.out.read hx
                          have e := HY.out
                          have e2 : fCv .f64 .f32 z (w1.drewN d) = x := by simp [fCv, h]
                          rw [e2] at e
                          rw [← e] at hfe
                          exact hfe hx.2.2
                        have b3 : (fmtL y == l) = false := by rw [beq_eq_false_iff_ne]; exact hfe
                        have b4 : (fmtL y != l) = true := by rw [bne, b3]; rfl
                        clear hfe
                        go_wp2_with fail
                        go_ret2
                        exact ⟨.inr ⟨HNP.out, rfl⟩, S2.out⟩
            · rw [show decide (-16777216 ≤ m ∧ m ≤ 16777216) = false by rw [decide_eq_false_iff_not]; exact hm]
              have HNP : Hid (∀ x, ¬ Parsed l x) := fun x h => by
                obtain ⟨_, _, h3, _, h5⟩ := HX.out x h
                have := sO_bound h5 h.2.1
                omega
              clear hm
              go_wp2_with fail
              go_ret2
              exact ⟨.inr ⟨HNP.out, rfl⟩, S1.out⟩
          · rw [show decide (-200 ≤ k ∧ k ≤ 200) = false by rw [decide_eq_false_iff_not]; exact hk]
            have HNP : Hid (∀ x, ¬ Parsed l x) := fun x h => by
              obtain ⟨_, _, _, h4, h5⟩ := HX.out x h
              have := powR_bound h5 h.2.1
              omega
            clear hk
            go_wp2_with fail
            go_ret2
            exact ⟨.inr ⟨HNP.out, rfl⟩, S1.out⟩
  · have HNP : Hid (∀ x, ¬ Parsed l x) := fun x h => by
      have := (HS0.out x h).2
      rw [← HPS.out] at this
      rw [this] at hlen
      exact hlen rfl
    obtain ⟨A, cap, rfl, hcap, hc⟩ := hv
    have b3 : ((ps.length : Int) != 2) = true := by rw [bne_iff_ne]; omega
    clear hc hlen
    go_wp2_with fail
    go_ret2
    exact ⟨.inr ⟨HNP.out, rfl⟩, S1.out⟩


theorem spec_parseSingle (l : List UInt8) (hl : l.length ≤ 4194304) (w : World) : Calls Tryd.prog 16 #[.string ⟨l.toArray⟩] w (GivesParse l w) := by
  by_cases h1 : l = [48]
  · subst h1; exact spec_parse_zero w
  · by_cases h2 : l = [45, 48]
    · subst h2; exact spec_parse_nzero w
    · exact spec_parse_num l hl h1 h2 w

/-- What is read of a text is settled. -/
theorem parse_det (l : List UInt8) : ∃ (y : Nat) (ok : Bool), nanB .f32 y = false ∧ (ok = true → Parsed l y) ∧ (ok = false → ∀ x, ¬ Parsed l x) ∧ ∀ w e w', GivesParse l w e w' → e = .returned (.tuple #[.float .f32 y, .bool ok]) ∧ Span 0 0 w w' := by
  by_cases h : ∃ x, Parsed l x
  · obtain ⟨x, hx⟩ := h
    refine ⟨x, true, not_nan_of_fin (by rw [s_inf]; exact hx.2.1), fun _ => hx, (fun h => by cases h), fun w e w' hg => ?_⟩
    obtain ⟨⟨y, hy, rfl⟩ | ⟨hn, _⟩, hs⟩ := hg
    · rw [parsed_uniq hx hy]; exact ⟨rfl, hs⟩
    · exact absurd hx (hn x)
  · refine ⟨0, false, by decide +kernel, (fun h => by cases h), fun _ x hx => h ⟨x, hx⟩, fun w e w' hg => ?_⟩
    obtain ⟨⟨y, hy, rfl⟩ | ⟨_, rfl⟩, hs⟩ := hg
    · exact absurd ⟨y, hy⟩ h
    · exact ⟨rfl, hs⟩

set_option maxRecDepth 100000 in
theorem law_parseSingle (s : ByteArray) (w : World) (hE : Env w) : Calls Tryd.prog 5 #[.string s] w (Says w) := by
  have HE := Lib.hid hE
  clear hE
  by_cases hz : s.size ≤ 1048576
  · have i0 : (s.size : Int) ≤ 1048576 := by omega
    obtain ⟨l, hl⟩ : ∃ l : List UInt8, s = ⟨l.toArray⟩ := ⟨s.data.toList, by simp⟩
    subst hl
    have hlen : l.length ≤ 1048576 := by rw [size_list] at hz; exact hz
    clear hz
    go_enter Tryd.func5, Tryd.ntmps5
    obtain ⟨y, ok, hn, _, _, H⟩ := parse_det l
    have HD := Lib.hid H
    have hfe := FE.refl .f32 y
    have HFE := Lib.hid (fun w w' => FE.widen w w' hfe)
    have HN := Lib.hid hn
    clear H hfe hn
    go_wp2_with fail
    refine ((spec_parseSingle l (by omega) _).mono (HD.out _)).mono ?_
    rintro _ w1 ⟨rfl, s1⟩
    have S1 := Lib.hid s1
    clear s1
    go_wp2_with fail
    refine ((impl_parseSingle l (by omega) _ (HE.out.span S1.out)).mono (HD.out _)).mono ?_
    rintro _ w2 ⟨rfl, s2⟩
    have S2 := Lib.hid (s2.after S1.out)
    clear s2
    go_wp2_with fail
    refine (sameFloat_true _ _ _ (HFE.out _ _)).mono ?_
    rintro _ _ ⟨n, rfl, rfl⟩
    go_wp2_with fail
    go_ret
    exact ⟨rfl, by have := S2.out.to_below (.inl (Nat.le_refl _)); exact ⟨this.os, this.tape, this.output, this.size, this.block⟩⟩
  · have i0 : (1048576 : Int) < (s.size : Int) := by omega
    clear hz
    go_enter Tryd.func5, Tryd.ntmps5
    go_wp2_with fail
    go_ret
    exact ⟨rfl, Below.refl _ _⟩
end Go.Proofs.YthcccliiokckjaaDoor
