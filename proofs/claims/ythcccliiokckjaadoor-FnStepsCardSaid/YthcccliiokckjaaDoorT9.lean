/- The model reads an integer. -/
import Derived.Test.YthcccliiokckjaaDoorT8
namespace Go.Proofs.YthcccliiokckjaaDoor
open Go.RowKit

def valD (l : List UInt8) : Nat := l.foldl (fun a c => 10 * a + (c.toNat - 48)) 0
theorem valD_snoc (l : List UInt8) (c : UInt8) : valD (l ++ [c]) = 10 * valD l + (c.toNat - 48) := by simp [valD]
theorem valD_dec : ∀ (k n : Nat), n ≤ k → valD (Lib.decDigits n) = n := by
  intro k
  induction k with
  | zero => intro n hn; obtain rfl : n = 0 := by omega
            decide +kernel
  | succ k ih =>
    intro n hn
    rw [Lib.decDigits]
    split
    · simp only [valD, List.foldl_cons, List.foldl_nil]
      rw [UInt8.toNat_ofNat', Nat.mod_eq_of_lt (by omega)]; omega
    · rw [valD_snoc, ih (n / 10) (by omega), dgt_nat]; omega
theorem valD_lt {l : List UInt8} (h : ∀ c ∈ l, isDig c) : valD l < 10 ^ l.length := by
  have key : ∀ (l : List UInt8) (a : Nat), (∀ c ∈ l, isDig c) → l.foldl (fun a c => 10 * a + (c.toNat - 48)) a < (a + 1) * 10 ^ l.length := by
    intro l
    induction l with
    | nil => intro a _; simp
    | cons c r ih =>
      intro a h
      have hc := h c (by simp)
      unfold isDig at hc
      have := ih (10 * a + (c.toNat - 48)) (fun x hx => h x (by simp [hx]))
      rw [List.foldl_cons, List.length_cons, Nat.pow_succ]
      refine Nat.lt_of_lt_of_le this ?_
      rw [Nat.mul_comm (10 ^ r.length), ← Nat.mul_assoc]
      exact Nat.mul_le_mul_right _ (by omega)
  have := key l 0 h
  simpa [valD] using this

theorem dec_len17 {n : Nat} (h : n < 100000000000000000) : (Lib.decDigits n).length ≤ 17 := by
  rw [Lib.decDigits_length]
  have key : ∀ (k n : Nat), n < 10 ^ (k + 1) → Lib.nDigits n ≤ k + 1 := by
    intro k
    induction k with
    | zero => intro n hn; rw [Lib.nDigits, dif_pos (by omega)]; omega
    | succ k ih =>
      intro n hn
      rw [Lib.nDigits]
      split
      · omega
      · have := ih (n / 10) (by rw [Nat.pow_succ] at hn; omega)
        omega
  exact key 16 n (by omega)
theorem dec_lead : ∀ (k n : Nat), n ≤ k → ∀ c r, Lib.decDigits n = c :: r → c.toNat = 48 → r = [] := by
  intro k
  induction k with
  | zero =>
    intro n hn c r h _
    rw [Lib.decDigits, dif_pos (by omega)] at h
    injection h with _ h; exact h.symm
  | succ k ih =>
    intro n hn c r h hc
    rw [Lib.decDigits] at h
    split at h
    · injection h with _ h; exact h.symm
    · rename_i h10
      exfalso
      obtain ⟨d, t, hd, _⟩ := dec_head (n / 10)
      rw [hd] at h
      injection h with e1 e2
      subst e1
      have := ih (n / 10) (by omega) d t hd hc
      subst this
      by_cases h1 : n / 10 < 10
      · rw [Lib.decDigits_one h1] at hd
        injection hd with hd _
        rw [← hd, UInt8.toNat_ofNat', Nat.mod_eq_of_lt (by omega)] at hc
        omega
      · have hl := congrArg List.length hd
        rw [Lib.decDigits, dif_neg h1] at hl
        have := (dec_ne (n / 10 / 10))
        have h2 : (Lib.decDigits (n / 10 / 10)).length ≠ 0 := fun e => this (List.length_eq_zero_iff.1 e)
        simp at hl
        exact this hl

/-- A natural number is read, or none. -/
def GivesNat (l : List UInt8) (w : World) (e : Ending) (w' : World) : Prop :=
  ∃ (n : Nat) (ok : Bool), e = .returned (.tuple #[.int .i64 (n : Int), .bool ok]) ∧ n < 100000000000000000 ∧ (∀ v, v < 100000000000000000 → l = Lib.decDigits v → ok = true ∧ n = v) ∧ w = w'

theorem no_dec {l : List UInt8} (h : ∀ v, v < 100000000000000000 → l ≠ Lib.decDigits v) (w : World) : GivesNat l w (.returned (.tuple #[.int .i64 0, .bool false])) w :=
  ⟨0, false, rfl, by omega, fun v hv hl => absurd hl (h v hv), rfl⟩

theorem at_list {s : ByteArray} {k : Nat} (h : k < s.size) : s.data.toList[k]? = some s[k] := by
  rw [List.getElem?_eq_getElem (by simpa using h)]; rfl

set_option maxRecDepth 100000 in
set_option maxHeartbeats 1000000 in
theorem l1Read_loop (s : ByteArray) (hs : s.size ≤ 4194304) (hp : 0 < s.size) (h17 : s.size ≤ 17) (l : List UInt8) (HL : Hid (l = s.data.toList)) (HLEN : Hid (l.length = s.size)) (hnd2 : ((s[0].toNat : Int) == 45) = false) (i0 : (0 : Int) < (s.size : Int)) (i1 : (s.size : Int) ≤ 17)
    (hc : (((s[0].toNat : Int) == 48) = true ∧ (s.size : Int) ≤ 1) ∨ (((s[0].toNat : Int) == 48) = false ∧ (1 : Int) < (s.size : Int)) ∨ (((s[0].toNat : Int) == 48) = false ∧ (s.size : Int) ≤ 1)) (w : World) : Calls Tryd.prog 32 #[.string s] w (GivesNat l w) := by
  rcases hc with ⟨hc1, hc2⟩ | ⟨hc1, hc2⟩ | ⟨hc1, hc2⟩
  all_goals
    go_enter Tryd.func32, Tryd.ntmps32
    go_wp2_with fail
    clear hnd2 hc1
    go_loop [6, 7] (fun n i => ∃ k : Nat, k ≤ s.size ∧ i = .int .i64 k ∧ n = .int .i64 (valD (l.take k) : Nat) ∧ (∀ c ∈ l.take k, isDig c)) (fun _ i => s.size - (intOf i).toNat)
    case atStart => exact ⟨0, Nat.zero_le _, rfl, rfl, fun c hc => by simp at hc⟩
    case round =>
      obtain ⟨k, hk, rfl, rfl, hd⟩ := hrel
      have hb : valD (l.take k) < 10 ^ k := by
        have := valD_lt hd
        rwa [List.length_take, HLEN.out, Nat.min_eq_left hk] at this
      by_cases hlt : k < s.size
      · have hb2 : valD (l.take k) < 10000000000000000 := Nat.lt_of_lt_of_le hb (by
          have : 10 ^ k ≤ 10 ^ 16 := Nat.pow_le_pow_right (by omega) (by omega)
          omega)
        have HD := Lib.hid hd
        have j0 : (0 : Int) ≤ (valD (l.take k) : Int) := by omega
        have j1 : (valD (l.take k) : Int) ≤ 288230376151711744 := by omega
        obtain ⟨V, hV⟩ : ∃ V, V = valD (l.take k) := ⟨_, rfl⟩
        rw [← hV] at j0 j1 ⊢
        have HVV := Lib.hid hV
        clear hd hb hV hb2
        go_wp2_with fail
        all_goals first
          | (have g : (48 : Int) ≤ (s[k].toNat : Int) ∧ (s[k].toNat : Int) ≤ 57 := by assumption
             obtain ⟨g1, g2⟩ := g
             have hdg : isDig s[k] := ⟨by omega, by omega⟩
             have hsn : Hid (l.take (k + 1) = l.take k ++ [s[k]]) := by
               unfold Hid
               have ha := at_list (s := s) (k := k) hlt
               rw [← HL.out] at ha
               rw [List.take_add_one, ha]; rfl
             go_round
             case rel =>
               refine ⟨k + 1, by omega, by go_num, ?_, ?_⟩
               · rw [hsn.out, valD_snoc, ← HVV.out]
                 exact congrArg (Value.int .i64) (by omega)
               · rw [hsn.out]
                 intro c hc
                 rcases List.mem_append.1 hc with h | h
                 · exact HD.out c h
                 · rw [List.mem_singleton.1 h]; exact hdg
             case measure => simp [intOf]; omega)
          | (go_ret2
             refine no_dec (fun v hv hdv => ?_) w
             have hm : s[k] ∈ Lib.decDigits v := by
               rw [← hdv]
               have ha := at_list (s := s) (k := k) hlt
               rw [← HL.out] at ha
               exact List.mem_of_getElem? ha
             have := dec_dig hm
             unfold isDig at this
             omega)
      · have hke : k = s.size := by omega
        have HK := Lib.hid hke
        have HD := Lib.hid hd
        have hb2 : valD (l.take k) < 100000000000000000 := Nat.lt_of_lt_of_le hb (by
          have : 10 ^ k ≤ 10 ^ 17 := Nat.pow_le_pow_right (by omega) (by omega)
          omega)
        have HB := Lib.hid hb2
        clear hke hd hb hb2
        go_wp2_with fail
        go_ret2
        refine ⟨_, true, rfl, HB.out, fun v hv hdv => ⟨rfl, ?_⟩, rfl⟩
        rw [List.take_of_length_le (by rw [HLEN.out, HK.out]; exact Nat.le_refl _), hdv]
        exact valD_dec v v (Nat.le_refl _)

set_option maxRecDepth 100000 in
set_option maxHeartbeats 1000000 in
theorem l1Read_nat (s : ByteArray) (hs : s.size ≤ 4194304) (hp : 0 < s.size) (hnd : (s[0].toNat == 45) = false) (w : World) : Calls Tryd.prog 32 #[.string s] w (GivesNat s.data.toList w) := by
  have hnd2 : ((s[0].toNat : Int) == 45) = false := by
    rw [beq_eq_false_iff_ne] at hnd ⊢; omega
  have i0 : (0 : Int) < (s.size : Int) := by omega
  obtain ⟨l, hl⟩ : ∃ l, l = s.data.toList := ⟨_, rfl⟩
  have hlen : l.length = s.size := by rw [hl]; simp
  rw [← hl]
  have HL := Lib.hid hl
  have HLEN := Lib.hid hlen
  clear hl hlen
  by_cases h17 : s.size ≤ 17
  · have i1 : (s.size : Int) ≤ 17 := by omega
    by_cases h48 : s[0].toNat = 48
    · have b48 : ((s[0].toNat : Int) == 48) = true := by rw [beq_iff_eq]; omega
      by_cases h1 : 1 < s.size
      · have i2 : (1 : Int) < (s.size : Int) := by omega
        go_enter Tryd.func32, Tryd.ntmps32
        go_wp2_with fail
        go_ret2
        refine no_dec (fun v hv hd => ?_) w
        have h17 := dec_len17 hv
        rw [← hd, HLEN.out] at h17
        obtain ⟨c, r, hcr, _⟩ := dec_head v
        have ha := at_list (s := s) (k := 0) hp
        rw [← HL.out, hd, hcr] at ha
        injection ha with ha
        have hlead := dec_lead v v (Nat.le_refl _) c r hcr
        have hlr := HLEN.out
        rw [hd, hcr] at hlr
        simp at hlr
        first | omega | (have := hlead (by rw [ha]; omega); rw [this] at hlr; simp at hlr; omega)
      · have i2 : (s.size : Int) ≤ 1 := by omega
        exact l1Read_loop s hs hp h17 l HL HLEN hnd2 i0 i1 (.inl ⟨b48, i2⟩) w
    · have b48 : ((s[0].toNat : Int) == 48) = false := by rw [beq_eq_false_iff_ne]; omega
      by_cases h1 : 1 < s.size
      · exact l1Read_loop s hs hp h17 l HL HLEN hnd2 i0 i1 (.inr (.inl ⟨b48, by omega⟩)) w
      · exact l1Read_loop s hs hp h17 l HL HLEN hnd2 i0 i1 (.inr (.inr ⟨b48, by omega⟩)) w
  · have i1 : (17 : Int) < (s.size : Int) := by omega
    go_enter Tryd.func32, Tryd.ntmps32
    go_wp2_with fail
    go_ret2
    refine no_dec (fun v hv hd => ?_) w
    have h17 := dec_len17 hv
    rw [← hd, HLEN.out] at h17
    obtain ⟨c, r, hcr, _⟩ := dec_head v
    have ha := at_list (s := s) (k := 0) hp
    rw [← HL.out, hd, hcr] at ha
    injection ha with ha
    have hlead := dec_lead v v (Nat.le_refl _) c r hcr
    have hlr := HLEN.out
    rw [hd, hcr] at hlr
    simp at hlr
    first | omega | (have := hlead (by rw [ha]; omega); rw [this] at hlr; simp at hlr; omega)


/-- An integer is read, or none. -/
def GivesInt (l : List UInt8) (w : World) (e : Ending) (w' : World) : Prop :=
  ∃ (n : Int) (ok : Bool), e = .returned (.tuple #[.int .i64 n, .bool ok]) ∧ -100000000000000000 < n ∧ n < 100000000000000000 ∧ (∀ v : Int, -100000000000000000 < v → v < 100000000000000000 → l = Lib.itoa v → ok = true ∧ n = v) ∧ w = w'

theorem itoa_pos {l : List UInt8} {v : Int} (h : l = Lib.itoa v) (hd : ∀ r, l ≠ 45 :: r) : ∃ u : Nat, v = (u : Int) ∧ l = Lib.decDigits u := by
  by_cases hv : v < 0
  · exfalso
    unfold Lib.itoa at h
    rw [if_pos hv] at h
    exact hd _ h
  · refine ⟨v.toNat, by omega, ?_⟩
    unfold Lib.itoa at h
    rw [if_neg hv] at h
    exact h

theorem nat_int {l : List UInt8} {w : World} {e : Ending} {w' : World} (h : GivesNat l w e w') (hd : ∀ r, l ≠ 45 :: r) : GivesInt l w e w' := by
  obtain ⟨n, ok, rfl, hn, hv, rfl⟩ := h
  refine ⟨n, ok, rfl, by omega, by omega, fun v v1 v2 hl => ?_, rfl⟩
  obtain ⟨u, rfl, hu⟩ := itoa_pos hl hd
  obtain ⟨h1, h2⟩ := hv u (by omega) hu
  exact ⟨h1, by omega⟩

set_option maxRecDepth 100000 in
theorem l1Read_none (w : World) : Calls Tryd.prog 32 #[.string ⟨#[]⟩] w (GivesInt [] w) := by
  go_enter Tryd.func32, Tryd.ntmps32
  go_wp2_with fail
  go_ret2
  refine ⟨0, false, rfl, by omega, by omega, fun v _ _ h => ?_, rfl⟩
  obtain ⟨u, _, hu⟩ := itoa_pos h (fun r hr => by cases hr)
  exact absurd hu.symm (dec_ne u)

set_option maxRecDepth 100000 in
theorem l1Read_one (w : World) : Calls Tryd.prog 32 #[.string ⟨#[45]⟩] w (GivesInt [45] w) := by
  go_enter Tryd.func32, Tryd.ntmps32
  go_wp2_with fail
  go_loop [6, 7] (fun n i => i = .int .i64 0 ∧ n = .int .i64 0) (fun _ i => 0)
  case atStart => exact ⟨rfl, rfl⟩
  case round =>
    obtain ⟨rfl, rfl⟩ := hrel
    go_wp2_with fail
    go_ret2
    refine ⟨0, false, rfl, by omega, by omega, fun v _ _ h => ?_, rfl⟩
    exfalso
    unfold Lib.itoa at h
    split at h
    · injection h with _ h; exact dec_ne _ h.symm
    · obtain ⟨c, r, hc, hd⟩ := dec_head v.toNat
      rw [hc] at h; injection h with h _
      rw [← h] at hd; exact absurd hd.1 (by decide)

theorem no_dash2 {v : Int} {r : List UInt8} (h : 45 :: 45 :: r = Lib.itoa v) : False := by
  unfold Lib.itoa at h
  have key : ∀ n c t, Lib.decDigits n = c :: t → c ≠ 45 := by
    intro n c t hn hc
    have := dec_dig (n := n) (c := c) (by rw [hn]; simp)
    rw [hc] at this; exact absurd this.1 (by decide)
  split at h
  · injection h with _ h; exact key _ _ _ h.symm rfl
  · exact key _ _ _ h.symm rfl

set_option maxRecDepth 100000 in
theorem l1Read_bad (s : ByteArray) (hs : s.size ≤ 4194304) (hp : 1 < s.size) (b1 : ((s[0].toNat : Int) == 45) = true) (b2 : ((s[1].toNat : Int) != 45) = false) (b3 : ((s[0].toNat : Int) == 48) = false) (b4 : (s[0].toNat : Int) < 48) (w : World) :
    Calls Tryd.prog 32 #[.string s] w fun e w' => e = .returned (.tuple #[.int .i64 0, .bool false]) ∧ w = w' := by
  have i0 : (1 : Int) < (s.size : Int) := by omega
  by_cases h17 : s.size ≤ 17
  · have i1 : (s.size : Int) ≤ 17 := by omega
    go_enter Tryd.func32, Tryd.ntmps32
    go_wp2_with fail
    go_loop [6, 7] (fun n i => i = .int .i64 0 ∧ n = .int .i64 0) (fun _ i => 0)
    case atStart => exact ⟨rfl, rfl⟩
    case round =>
      obtain ⟨rfl, rfl⟩ := hrel
      go_wp2_with fail
      go_ret2
      exact ⟨rfl, rfl⟩
  · have i1 : (17 : Int) < (s.size : Int) := by omega
    go_enter Tryd.func32, Tryd.ntmps32
    go_wp2_with fail
    go_ret2
    exact ⟨rfl, rfl⟩

theorem neg_back {n : Nat} {ok : Bool} {t : List UInt8} (hv : ∀ v, v < 100000000000000000 → t = Lib.decDigits v → ok = true ∧ n = v) (v : Int) (h1 : -100000000000000000 < v) (h : 45 :: t = Lib.itoa v) : ok = true ∧ ((-(n : Int) != 0) = true) ∧ -(n : Int) = v := by
  unfold Lib.itoa at h
  split at h
  · injection h with _ h
    obtain ⟨e1, e2⟩ := hv v.natAbs (by omega) h
    refine ⟨e1, by rw [bne_iff_ne]; omega, by omega⟩
  · exfalso
    obtain ⟨c, r, hc, hd⟩ := dec_head v.toNat
    rw [hc] at h; injection h with h _
    rw [← h] at hd; exact absurd hd.1 (by decide)

set_option maxRecDepth 100000 in
theorem l1Read_neg (s : ByteArray) (hs : s.size ≤ 4194304) (hp : 1 < s.size) (t : List UInt8) (ht : s.data.toList = 45 :: t) (b1 : ((s[0].toNat : Int) == 45) = true) (b2 : ((s[1].toNat : Int) != 45) = true) (w : World) :
    Calls Tryd.prog 32 #[.string s] w (GivesInt (45 :: t) w) := by
  have i0 : (1 : Int) < (s.size : Int) := by omega
  have HT := Lib.hid ht
  clear ht
  go_enter Tryd.func32, Tryd.ntmps32
  go_wp2_with fail
  have hz : (s.extract 1 s.size).size = s.size - 1 := by rw [ByteArray.size_extract]; omega
  have hg : (s.extract 1 s.size)[0]'(by omega) = s[1] := by
    rw [ByteArray.getElem_extract]
  have hdt : (s.extract 1 s.size).data.toList = t := by
    rw [Lib.extract_to_end, HT.out]; rfl
  refine (l1Read_nat (s.extract 1 s.size) (by omega) (by omega) (by
    rw [hg, beq_eq_false_iff_ne]
    rw [bne_iff_ne] at b2
    omega) _).mono ?_
  rw [hdt]
  rintro _ _ ⟨n, ok, rfl, hn, hv, rfl⟩
  have HV := Lib.hid (fun v h1 h => neg_back hv v h1 h)
  have n0 : (0 : Int) ≤ (n : Int) := by omega
  have n1 : (n : Int) ≤ 288230376151711744 := by omega
  have HN := Lib.hid hn
  clear hz hg hdt hv hn b1 b2
  cases ok with
  | false =>
    go_wp2_with fail
    all_goals
      go_ret2
      have := HN.out
      exact ⟨_, false, rfl, by omega, by omega, (fun v v1 _ h => by have := (HV.out v v1 h).1; cases this), rfl⟩
  | true =>
    by_cases h0 : n = 0
    · subst h0
      go_wp2_with fail
      go_ret2
      exact ⟨_, false, rfl, by omega, by omega, (fun v v1 _ h => by have := (HV.out v v1 h).2.1; cases this), rfl⟩
    · have b0 : ((-(n : Int)) != 0) = true := by rw [bne_iff_ne]; omega
      have b1 : ((n : Int) != 0) = true := by rw [bne_iff_ne]; omega
      go_wp2_with fail
      go_ret2
      have := HN.out
      exact ⟨_, true, rfl, by omega, by omega, (fun v v1 _ h => ⟨rfl, (HV.out v v1 h).2.2⟩), rfl⟩

theorem l1Read_any (l : List UInt8) (hl : l.length ≤ 4194304) (w : World) : Calls Tryd.prog 32 #[.string ⟨l.toArray⟩] w (GivesInt l w) := by
  cases l with
  | nil => exact l1Read_none w
  | cons c r =>
    have hz := size_list (c :: r)
    have e0 : (⟨(c :: r).toArray⟩ : ByteArray)[0]'(by rw [hz]; simp) = c := rfl
    by_cases hc : c = 45
    · subst hc
      cases r with
      | nil => exact l1Read_one w
      | cons d r =>
        have e1 : (⟨(45 :: d :: r).toArray⟩ : ByteArray)[1]'(by rw [hz]; simp) = d := rfl
        by_cases hd : d = 45
        · subst hd
          refine (l1Read_bad ⟨(45 :: 45 :: r).toArray⟩ (by rw [hz]; exact hl) (by rw [hz]; simp) (by rw [e0]; decide) (by rw [e1]; decide) (by rw [e0]; decide) (by rw [e0]; decide) w).mono ?_
          rintro _ _ ⟨rfl, rfl⟩
          exact ⟨0, false, rfl, by omega, by omega, (fun v _ _ h => (no_dash2 h).elim), rfl⟩
        · refine l1Read_neg ⟨(45 :: d :: r).toArray⟩ (by rw [hz]; exact hl) (by rw [hz]; simp) (d :: r) rfl (by rw [e0]; decide) ?_ w
          rw [e1, bne_iff_ne]
          intro h
          exact hd (UInt8.toNat_inj.1 (by have : ((45 : UInt8).toNat : Int) = 45 := rfl; omega))
    · refine (l1Read_nat ⟨(c :: r).toArray⟩ (by rw [hz]; exact hl) (by rw [hz]; simp) ?_ w).mono fun e w' h => nat_int h (fun t ht => hc (by injection ht))
      rw [e0, beq_eq_false_iff_ne]
      intro h
      exact hc (UInt8.toNat_inj.1 (by rw [h]; rfl))
end Go.Proofs.YthcccliiokckjaaDoor
