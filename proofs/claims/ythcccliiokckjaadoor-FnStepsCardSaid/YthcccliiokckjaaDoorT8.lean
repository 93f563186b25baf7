/- The program reads a number. -/
import Derived.Test.YthcccliiokckjaaDoorT7
namespace Go.Proofs.YthcccliiokckjaaDoor
open Go.RowKit

theorem readSize_all (l : List UInt8) (hl : l.length ≤ 4194304) (w : World) (hE : Env w) : Calls Tryd.prog 22 #[.string ⟨l.toArray⟩] w (GivesSize l w) := by
  by_cases h : l = [48]
  · subst h; exact readSize_zero w
  · exact readSize_any l hl h w hE

/-- A number that is read, or none. -/
def GivesParse (l : List UInt8) (w : World) (e : Ending) (w' : World) : Prop :=
  ((∃ x, Parsed l x ∧ e = .returned (.tuple #[.float .f32 x, .bool true])) ∨ ((∀ x, ¬ Parsed l x) ∧ e = .returned (.tuple #[.float .f32 0, .bool false]))) ∧ Span 0 0 w w'

theorem pre_dash (l : List UInt8) : (Lib.hasPrefix l [45] = true ∧ l = 45 :: Lib.trimPrefix l [45]) ∨ (Lib.hasPrefix l [45] = false ∧ Lib.trimPrefix l [45] = l ∧ ∀ r, l ≠ 45 :: r) := by
  cases l with
  | nil => right; exact ⟨by decide +kernel, by decide +kernel, fun r h => by cases h⟩
  | cons c r =>
    by_cases h : c = 45
    · subst h
      left
      have e : Lib.hasPrefix (45 :: r) [45] = true := by simp [Lib.hasPrefix, List.isPrefixOf]
      refine ⟨e, ?_⟩
      unfold Lib.trimPrefix
      rw [e]; simp
    · right
      have e : Lib.hasPrefix (c :: r) [45] = false := by simp [Lib.hasPrefix, List.isPrefixOf]; exact fun e => h e.symm
      refine ⟨e, ?_, fun s hs => h (by injection hs)⟩
      unfold Lib.trimPrefix
      rw [e]; simp

theorem negF_word {r : Nat} (h : r < 2147483648) : Op.negFloat .f32 r = Ieee.single.word true r := by
  have e : Ieee.single.word true r = Ieee.single.signWeight + r := rfl
  rw [e, s_sw]
  show r ^^^ 2 ^ 31 = _
  have h1 : r < 2 ^ 31 := h
  have h2 := Nat.two_pow_add_eq_or_of_lt h1 1
  have h3 : (r ^^^ 2 ^ 31) = 2 ^ 31 * 1 ||| r := by
    apply Nat.eq_of_testBit_eq
    intro i
    rw [Nat.testBit_xor, Nat.testBit_or, Nat.mul_one, Nat.testBit_two_pow]
    by_cases hi : 31 = i
    · subst hi
      rw [Nat.testBit_lt_two_pow h1]
      simp
    · have : decide (31 = i) = false := by simpa using hi
      rw [this]
      simp
  rw [h3, ← h2]

/-- What a text's parts are. -/
theorem parsed_parts {l t : List UInt8} {neg : Bool} {x : Nat} (h : Parsed l x) (hp : (neg = true ∧ l = 45 :: t) ∨ (neg = false ∧ t = l ∧ ∀ r, l ≠ 45 :: r)) :
    negOf Ieee.single x = neg ∧ (t = if rungOf Ieee.single x = 0 then [48] else bareL (rungOf Ieee.single x)) := by
  obtain ⟨x1, x2, x3⟩ := h
  obtain ⟨c, a, hc, ha, ha2⟩ := fmtL_parts x2
  rw [x3] at ha
  rcases hp with ⟨rfl, h1⟩ | ⟨rfl, rfl, h2⟩
  · cases hn : negOf Ieee.single x with
    | true =>
      rw [hn, h1] at ha
      refine ⟨rfl, ?_⟩
      simp at ha
      rw [ha, ha2]
    | false =>
      rw [hn, h1] at ha
      simp at ha
      rw [← ha.1] at hc
      exact absurd hc.1 (by decide)
  · cases hn : negOf Ieee.single x with
    | true => rw [hn] at ha; exact absurd ha (by simpa using h2 _)
    | false =>
      rw [hn] at ha
      refine ⟨rfl, ?_⟩
      simp at ha
      rw [ha, ha2]

/-- What was read is the number. -/
theorem read_back {l t : List UInt8} {neg ok : Bool} {x y : Nat} (h : Parsed l x) (hp : (neg = true ∧ l = 45 :: t) ∨ (neg = false ∧ t = l ∧ ∀ r, l ≠ 45 :: r))
    (h0 : t = [48] → ok = true ∧ y = 0) (h1 : ∀ r, 0 < r → r < 2139095040 → t = bareL r → ok = true ∧ y = r) : ok = true ∧ (if neg then Op.negFloat .f32 y else y) = x := by
  obtain ⟨p1, p2⟩ := parsed_parts h hp
  obtain ⟨x1, x2, _⟩ := h
  have key : ok = true ∧ y = rungOf Ieee.single x := by
    by_cases hz : rungOf Ieee.single x = 0
    · rw [if_pos hz] at p2; rw [hz]; exact h0 p2
    · rw [if_neg hz] at p2; exact h1 _ (by omega) x2 p2
  refine ⟨key.1, ?_⟩
  rw [key.2]
  have hw := word_of x1
  rw [p1] at hw
  cases neg with
  | true => rw [if_pos rfl, negF_word (by omega)]; exact hw.symm
  | false => rw [if_neg (by simp)]; exact hw.symm

set_option maxRecDepth 100000 in
set_option maxHeartbeats 1000000 in
theorem impl_parseSingle (l : List UInt8) (hl : l.length ≤ 4194304) (w : World) (hE : Env w) : Calls Tryd.prog 9 #[.string ⟨l.toArray⟩] w (GivesParse l w) := by
  have HE := Lib.hid hE
  obtain ⟨t, ht⟩ : ∃ t, t = Lib.trimPrefix l [45] := ⟨_, rfl⟩
  obtain ⟨neg, hn⟩ : ∃ b, b = Lib.hasPrefix l [45] := ⟨_, rfl⟩
  have hp := pre_dash l
  rw [← ht, ← hn] at hp
  have htl : t.length ≤ l.length := by
    rcases hp with ⟨_, h⟩ | ⟨_, h, _⟩
    · rw [h]; simp
    · rw [h]; exact Nat.le_refl _
  have htne : t ≠ [] → l ≠ [] := by
    rcases hp with ⟨_, h⟩ | ⟨_, h, _⟩
    · rw [h]; simp
    · rw [h]; exact id
  have HP := Lib.hid hp
  have HN := Lib.hid hn
  have HT := Lib.hid ht
  have HNE := Lib.hid htne
  clear hE hp hn ht htne
  go_enter Tryd.func9, Tryd.ntmps9
  go_wp2_with fail
  refine (Tryd.strings_CutPrefix ⟨l.toArray⟩ ⟨#[45]⟩ _).mono ?_
  rintro _ _ ⟨rfl, rfl⟩
  rw [show Lib.trimPrefix (⟨l.toArray⟩ : ByteArray).data.toList (⟨#[45]⟩ : ByteArray).data.toList = t from HT.out.symm, show Lib.hasPrefix (⟨l.toArray⟩ : ByteArray).data.toList (⟨#[45]⟩ : ByteArray).data.toList = neg from HN.out.symm]
  go_wp2_with fail
  refine (readSize_all t (by omega) _ HE.out).mono ?_
  rintro _ w1 ⟨y, ok, rfl, hy, hok, h0, h1, s1⟩
  have HOK := Lib.hid hok
  have HB := Lib.hid (fun x (h : Parsed l x) => read_back h HP.out h0 h1)
  have S1 := Lib.hid s1
  clear hok h0 h1 s1
  cases ok with
  | false =>
    have key : ∀ x, ¬ Parsed l x := fun x h => by have := (HB.out x h).1; cases this
    have KEY := Lib.hid key
    clear key HB HOK
    cases neg
    all_goals
      go_wp2_with fail
      go_ret2
      exact ⟨.inr ⟨KEY.out, rfl⟩, S1.out⟩
  | true =>
    have hln : l ≠ [] := HNE.out (HOK.out rfl)
    have HLN := Lib.hid hln
    clear hln HOK
    cases neg with
    | false =>
      simp only [if_true, if_false, Bool.false_eq_true] at HB
      go_wp2_with fail
      refine (impl_formatSingle _ hy _ (HE.out.1.span S1.out)).mono ?_
      rintro _ w2 ⟨rfl, s2⟩
      have S2 := Lib.hid (s2.after S1.out)
      clear s2
      generalize hxx : y = x at HB ⊢
      have hx : x < 4294967296 := by rw [← hxx]; exact hy
      clear hxx hy
      by_cases hfe : fmtL x = l
      · have HF := Lib.hid hfe
        have b1 : (fmtL x == l) = true := by rw [beq_iff_eq]; exact hfe
        have b2 : (fmtL x != l) = false := by rw [bne, b1]; rfl
        clear hfe HB
        go_wp2_with fail
        go_ret2
        refine ⟨.inl ⟨x, ⟨hx, ?_, HF.out⟩, rfl⟩, S2.out⟩
        by_cases hf : rungOf Ieee.single x < 2139095040
        · exact hf
        · exfalso
          have h := HF.out
          unfold fmtL at h
          rw [if_neg hf] at h
          exact HLN.out h.symm
      · have HK : Hid (∀ x, ¬ Parsed l x) := fun x' h => by
          have e := (HB.out x' h).2
          rw [e] at hfe
          exact hfe h.2.2
        have b1 : (fmtL x == l) = false := by rw [beq_eq_false_iff_ne]; exact hfe
        have b2 : (fmtL x != l) = true := by rw [bne, b1]; rfl
        clear hfe HB
        go_wp2_with fail
        go_ret2
        exact ⟨.inr ⟨HK.out, rfl⟩, S2.out⟩

    | true =>
      simp only [if_true, if_false, Bool.false_eq_true] at HB
      go_wp2_with fail
      refine (impl_formatSingle _ (negF_lt hy) _ (HE.out.1.span S1.out)).mono ?_
      rintro _ w2 ⟨rfl, s2⟩
      have S2 := Lib.hid (s2.after S1.out)
      clear s2
      generalize hxx : Op.negFloat .f32 y = x at HB ⊢
      have hx : x < 4294967296 := by rw [← hxx]; exact negF_lt hy
      clear hxx hy
      by_cases hfe : fmtL x = l
      · have HF := Lib.hid hfe
        have b1 : (fmtL x == l) = true := by rw [beq_iff_eq]; exact hfe
        have b2 : (fmtL x != l) = false := by rw [bne, b1]; rfl
        clear hfe HB
        go_wp2_with fail
        go_ret2
        refine ⟨.inl ⟨x, ⟨hx, ?_, HF.out⟩, rfl⟩, S2.out⟩
        by_cases hf : rungOf Ieee.single x < 2139095040
        · exact hf
        · exfalso
          have h := HF.out
          unfold fmtL at h
          rw [if_neg hf] at h
          exact HLN.out h.symm
      · have HK : Hid (∀ x, ¬ Parsed l x) := fun x' h => by
          have e := (HB.out x' h).2
          rw [e] at hfe
          exact hfe h.2.2
        have b1 : (fmtL x == l) = false := by rw [beq_eq_false_iff_ne]; exact hfe
        have b2 : (fmtL x != l) = true := by rw [bne, b1]; rfl
        clear hfe HB
        go_wp2_with fail
        go_ret2
        exact ⟨.inr ⟨HK.out, rfl⟩, S2.out⟩


end Go.Proofs.YthcccliiokckjaaDoor
