/- Slices of numbers compared, marked, and looked at again. -/
import Derived.Test.YtocmppilihiehaaM1
import Derived.Test.YtocmppilihiehaaCx
import Derived.Test.YtocmppilihiehaaE1
import Derived.Deep.RegionWith
namespace Go.Proofs.Ytocmppilihiehaa
open Go.RowKit

/-- The same samples, but for the bits of NaN. -/
def SameL (xs ys : List Cx) : Prop := xs.length = ys.length ∧ ∀ (j : Nat) (x y : Cx), xs[j]? = some x → ys[j]? = some y → FE .f32 x.1 y.1 ∧ FE .f32 x.2 y.2

theorem SameL.refl (xs : List Cx) : SameL xs xs := ⟨rfl, fun j x y h1 h2 => by rw [h1] at h2; cases h2; exact ⟨FE.refl _ _, FE.refl _ _⟩⟩

set_option maxHeartbeats 1000000 in
theorem eqComplex64S_true (xs ys : List Cx) (o o' : Bool) (b b' lo lo' hi hi' : Nat) (v v' : Value) (w : World) (hx : HasS cxV o b lo hi w v xs) (hx' : HasS cxV o' b' lo' hi' w v' ys) (hs : SameL xs ys) (hlen : xs.length ≤ 4194304) :
    Calls Try.prog 65 #[v, v'] w (SaysTrue w) := by
  obtain ⟨A, cap, rfl, hcap, hc⟩ := hx
  obtain ⟨A', cap', rfl, hcap', hc'⟩ := hx'
  obtain ⟨hl2, hs2⟩ := hs
  obtain ⟨len, hl⟩ : ∃ len, len = xs.length := ⟨_, rfl⟩
  have HL := Lib.hid hl
  have HS := Lib.hid hs2
  rw [← hl2] at hcap' hc' ⊢
  have HL2 := Lib.hid hl2
  rw [← hl] at hlen hcap hcap' ⊢
  clear hl hl2 hs2
  have HC := Lib.hid hc; clear hc
  have HC' := Lib.hid hc'; clear hc'
  go_enter Try.func65, Try.ntmps65
  go_wp2
  go_loopw [5] (fun i wr => ∃ (k m : Nat), k ≤ len ∧ i = .int .i64 k ∧ wr = w.drewN m) (fun i _ => len - (intOf i).toNat)
  case atStart => exact ⟨0, 0, Nat.zero_le _, rfl, rfl⟩
  case round =>
    obtain ⟨k, m, hk, rfl, rfl⟩ := hrel
    by_cases hlt : k < len
    · have hkx : k < xs.length := by rw [← HL.out]; exact hlt
      have hky : k < ys.length := by rw [← HL2.out]; exact hkx
      obtain ⟨off, rfl, _, _, _, hcell, _⟩ := HC.out (by omega)
      obtain ⟨off', rfl, _, _, _, hcell', _⟩ := HC'.out (by omega)
      obtain ⟨⟨x1, x2⟩, hx⟩ := getElem?_some hkx
      obtain ⟨⟨y1, y2⟩, hy⟩ := getElem?_some hky
      have hck : w.cell? ⟨b, off + k, none⟩ = some (.complex .f32 x1 x2) := hcell k _ hx
      have hck' : w.cell? ⟨b', off' + k, none⟩ = some (.complex .f32 y1 y2) := hcell' k _ hy
      obtain ⟨f1, f2⟩ := HS.out k _ _ hx hy
      clear hcell hcell' hkx hky hx hy
      go_wp2_with fail
      go_region_with (go_at_call 68; refine (sameComplex_wide x1 x2 y1 y2 _ _ _ _ _ f1 f2).mono ?_; rintro _ _ ⟨n2, rfl, rfl⟩)
      all_goals
        go_wp2
        go_roundw
        case rel => exact ⟨k + 1, _, by omega, by go_num, rfl⟩
        case measure => simp [intOf]; omega
    · have hke : k = len := by omega
      have Hk := Lib.hid hke; clear hke
      go_wp2
      go_ret
      exact ⟨_, rfl, rfl⟩

set_option maxHeartbeats 1000000 in
theorem eqIntS_true (xs : List Int) (o o' : Bool) (b b' lo lo' hi hi' : Nat) (v v' : Value) (w : World) (hx : HasS intV o b lo hi w v xs) (hx' : HasS intV o' b' lo' hi' w v' xs) (hlen : xs.length ≤ 4194304) :
    Calls Try.prog 88 #[v, v'] w (SaysTrue w) := by
  obtain ⟨A, cap, rfl, hcap, hc⟩ := hx
  obtain ⟨A', cap', rfl, hcap', hc'⟩ := hx'
  obtain ⟨len, hl⟩ : ∃ len, len = xs.length := ⟨_, rfl⟩
  have HL := Lib.hid hl
  rw [← hl] at hlen hcap hcap' ⊢
  clear hl
  have HC := Lib.hid hc; clear hc
  have HC' := Lib.hid hc'; clear hc'
  go_enter Try.func88, Try.ntmps88
  go_wp2
  go_loopw [5] (fun i wr => ∃ (k m : Nat), k ≤ len ∧ i = .int .i64 k ∧ wr = w.drewN m) (fun i _ => len - (intOf i).toNat)
  case atStart => exact ⟨0, 0, Nat.zero_le _, rfl, rfl⟩
  case round =>
    obtain ⟨k, m, hk, rfl, rfl⟩ := hrel
    by_cases hlt : k < len
    · have hkx : k < xs.length := by rw [← HL.out]; exact hlt
      obtain ⟨off, rfl, _, _, _, hcell, _⟩ := HC.out (by omega)
      obtain ⟨off', rfl, _, _, _, hcell', _⟩ := HC'.out (by omega)
      obtain ⟨x, hx⟩ := getElem?_some hkx
      have hck : w.cell? ⟨b, off + k, none⟩ = some (.int .i64 x) := hcell k _ hx
      have hck' : w.cell? ⟨b', off' + k, none⟩ = some (.int .i64 x) := hcell' k _ hx
      clear hcell hcell' hkx hx
      have i0 : (0 : Int) ≤ (k : Int) := by omega
      have i1 : (k : Int) < (len : Int) := by omega
      go_wp2_with fail
      go_region
      all_goals
        go_wp2
        go_roundw
        case rel => exact ⟨k + 1, _, by omega, by go_num, rfl⟩
        case measure => simp [intOf]; omega
    · have hke : k = len := by omega
      have Hk := Lib.hid hke; clear hke
      go_wp2
      go_ret
      exact ⟨_, rfl, rfl⟩

/-- The mark k as a float. -/
def mkC (k : Nat) : Nat := (floatToFloatBits .f64 (floatOfInt .f64 (k : Int)) .f32).getD 0

theorem mkC_spec {k : Nat} (hk : k < 16777216) : floatToFloatBits .f64 (floatOfInt .f64 (k : Int)) .f32 = some (mkC k) ∧ nanB .f32 (mkC k) = false := by
  obtain ⟨r, hr, hu⟩ := rep_s (q := k) (e := 149) hk (by omega)
  have key : ∀ z n, n = 149 + 925 → AtY z k n → isU Ieee.double z false (k * 2 ^ (149 + 925)) := by intro z n hn h; subst hn; exact h
  have h := narrow (key _ _ (by rfl) (AtY.ofInt hk)) hu hr
  have e : mkC k = Ieee.single.word false r := by unfold mkC; rw [h]; rfl
  rw [e]
  refine ⟨h, ?_⟩
  have hi : isU Ieee.single (Ieee.single.word false r) false (units Ieee.single r) := ⟨r, rfl, hr, rfl⟩
  obtain ⟨m, g, h1, _⟩ := read_isU hi
  show (Ieee.single.read _).isNaN = false
  rw [h1]; rfl

theorem mk_conv {k : Nat} (hk : k < 16777216) (w : World) : fCv .f64 .f32 (floatOfInt .f64 (k : Int)) w = mkC k ∧ fCd .f64 .f32 (floatOfInt .f64 (k : Int)) = 0 := by
  obtain ⟨h, _⟩ := mkC_spec hk
  simp [fCv, fCd, h]

theorem one_conv (w : World) : fCv .f64 .f32 4607182418800017408 w = 1065353216 ∧ fCd .f64 .f32 4607182418800017408 = 0 := by
  have h : floatToFloatBits .f64 4607182418800017408 .f32 = some 1065353216 := by decide +kernel
  simp [fCv, fCd, h]

def marksC (n k : Nat) : List Cx := (List.range n).map fun j => (mkC (k + j), 1065353216)
def marksI (n k : Nat) : List Int := (List.range n).map fun j => ((k + j : Nat) : Int)
theorem marksC_length (n k : Nat) : (marksC n k).length = n := by simp [marksC]
theorem marksI_length (n k : Nat) : (marksI n k).length = n := by simp [marksI]
theorem marksC_get {n k j : Nat} {x : Cx} (h : (marksC n k)[j]? = some x) : j < n ∧ x = (mkC (k + j), 1065353216) := by
  simp only [marksC, List.getElem?_map, Option.map_eq_some_iff] at h
  obtain ⟨a, h1, rfl⟩ := h
  obtain ⟨h2, h3⟩ := List.getElem?_eq_some_iff.1 h1
  simp at h2 h3
  subst h3
  exact ⟨h2, rfl⟩
theorem marksI_get {n k j : Nat} {x : Int} (h : (marksI n k)[j]? = some x) : j < n ∧ x = ((k + j : Nat) : Int) := by
  simp only [marksI, List.getElem?_map, Option.map_eq_some_iff] at h
  obtain ⟨a, h1, rfl⟩ := h
  obtain ⟨h2, h3⟩ := List.getElem?_eq_some_iff.1 h1
  simp at h2 h3
  subst h3
  exact ⟨h2, rfl⟩

/-- A slice of marks, in the course of being marked: the first i are new. -/
def Marking (f : Nat → Value) (b off n i : Nat) (w0 w : World) : Prop :=
  Span b (b + 1) w0 w ∧ b < w.heap.size ∧ (∀ j, j < n → ∃ u, w.cell? ⟨b, off + j, none⟩ = some u) ∧ (∀ j, j < i → w.cell? ⟨b, off + j, none⟩ = some (f j)) ∧ (∀ j, j < n → w.frozen? ⟨b, off + j, none⟩ = false)

theorem Marking.step {f : Nat → Value} {b off n i : Nat} {w0 w : World} (h : Marking f b off n i w0 w) (hi : i < n) : Marking f b off n (i + 1) w0 (w.setCell ⟨b, off + i, none⟩ (f i)) := by
  obtain ⟨h1, h2, h3, h4, h5⟩ := h
  obtain ⟨u, hu⟩ := h3 i hi
  refine ⟨h1.setCell (.inl ⟨Nat.le_refl _, Nat.lt_succ_self _⟩) _, by simpa [World.setCell] using h2, fun j hj => ?_, fun j hj => ?_, fun j hj => by rw [World.frozen?_setCell]; exact h5 j hj⟩
  · by_cases hji : j = i
    · subst hji; exact ⟨_, World.cell?_setCell_same w ⟨b, off + j, none⟩ _ hu⟩
    · obtain ⟨u', hu'⟩ := h3 j hj
      exact ⟨u', (World.cell?_setCell_other w ⟨b, off + i, none⟩ ⟨b, off + j, none⟩ _ (by intro e; injection e; omega)).trans hu'⟩
  · by_cases hji : j = i
    · subst hji; exact World.cell?_setCell_same w ⟨b, off + j, none⟩ _ hu
    · exact (World.cell?_setCell_other w ⟨b, off + i, none⟩ ⟨b, off + j, none⟩ _ (by intro e; injection e; omega)).trans (h4 j (by omega))

/-- What marking gives. -/
def Marks {α : Type} (val : α → Value) (b lo hi : Nat) (v : Value) (xs : List α) (n k : Nat) (w : World) (e : Ending) (w' : World) : Prop :=
  e = .returned (.int .i64 ((k + n : Nat) : Int)) ∧ HasS val true b lo hi w' v xs ∧ Span b (b + 1) w w' ∧ Span lo hi w w' ∧ w'.heap.size = w.heap.size

set_option maxHeartbeats 1000000 in
theorem markIntS_any (xs : List Int) (b lo hi k : Nat) (v : Value) (w : World) (hx : HasS intV true b lo hi w v xs) (hlen : xs.length ≤ 4194304) (hk : k ≤ 4194304) :
    Calls Try.prog 89 #[v, .int .i64 (k : Int)] w (Marks intV b lo hi v (marksI xs.length k) xs.length k w) := by
  obtain ⟨A, cap, rfl, hcap, hc⟩ := hx
  obtain ⟨len, hl⟩ : ∃ len, len = xs.length := ⟨_, rfl⟩
  rw [← hl] at hlen hcap ⊢
  by_cases h0 : 0 < len
  · obtain ⟨off, rfl, h1, h2, h3, hcell, hfr⟩ := hc (by omega)
    have HM : Hid (Marking (fun j => .int .i64 ((k + j : Nat) : Int)) b off len 0 w w) :=
      ⟨Span.refl _ _ _, h3, fun j hj => (getElem?_some (xs := xs) (by omega)).elim fun x hx => ⟨_, hcell j x hx⟩, fun j hj => absurd hj (by omega), fun j hj => hfr rfl j (by omega)⟩
    have HL := Lib.hid hl
    clear hc hcell hfr hl
    go_enter Try.func89, Try.ntmps89
    go_wp2
    go_loopw [1, 5] (fun q i wr => ∃ j : Nat, j ≤ len ∧ i = .int .i64 j ∧ q = .int .i64 ((k + j : Nat) : Int) ∧ Marking (fun j => .int .i64 ((k + j : Nat) : Int)) b off len j w wr ∧ wr.heap.size = w.heap.size) (fun _ i _ => len - (intOf i).toNat)
    case atStart => exact ⟨0, Nat.zero_le _, rfl, by simp, HM.out, rfl⟩
    case round =>
      obtain ⟨j, hj, rfl, rfl, hm, hsz⟩ := hrel
      by_cases hlt : j < len
      · obtain ⟨u, hu⟩ := hm.2.2.1 j hlt
        have hf := hm.2.2.2.2 j hlt
        have Hm2 := Lib.hid (hm.step hlt)
        have Hsz := Lib.hid hsz
        clear hm hsz
        go_wp2
        go_roundw
        case rel => exact ⟨j + 1, by omega, by go_num, by rw [show (k + (j + 1) : Nat) = (k + j) + 1 from rfl]; go_num, Hm2.out, by simpa [World.setCell] using Hsz.out⟩
        case measure => simp [intOf]; omega
      · have hje : j = len := by omega
        have HJ := Lib.hid hje
        have Hm2 := Lib.hid hm
        have Hsz := Lib.hid hsz
        clear hje hm hsz
        go_wp2
        go_ret
        obtain ⟨m1, m2, m3, m4, m5⟩ := Hm2.out
        refine ⟨by rw [← HJ.out]; rfl, ⟨_, cap, by rw [marksI_length], by rw [marksI_length]; exact hcap, fun _ => ⟨off, rfl, h1, h2, m2, fun i x hi => ?_, fun _ i hi => m5 i (by rw [marksI_length] at hi; exact hi)⟩⟩, m1, m1.wide (fun _ _ hk => by omega), Hsz.out⟩
        obtain ⟨hi1, rfl⟩ := marksI_get hi
        rw [m4 i (by have := HJ.out; omega)]
        rfl
  · have h00 : len = 0 := by omega
    subst h00
    clear hc hl
    go_enter Try.func89, Try.ntmps89
    go_wp2
    go_loopw [1, 5] (fun q i wr => i = .int .i64 0 ∧ q = .int .i64 (k : Int) ∧ w = wr) (fun _ i _ => 0)
    case atStart => exact ⟨rfl, rfl, rfl⟩
    case round =>
      obtain ⟨rfl, rfl, rfl⟩ := hrel
      go_wp2
      go_ret
      exact ⟨rfl, HasS.empty _ _ _ _ _ _ _ _, Span.refl _ _ _, Span.refl _ _ _, rfl⟩

set_option maxHeartbeats 1000000 in
theorem markComplex64S_any (xs : List Cx) (b lo hi k : Nat) (v : Value) (w : World) (hx : HasS cxV true b lo hi w v xs) (hlen : xs.length ≤ 4194304) (hk : k ≤ 4194304) :
    Calls Try.prog 66 #[v, .int .i64 (k : Int)] w (Marks cxV b lo hi v (marksC xs.length k) xs.length k w) := by
  obtain ⟨A, cap, rfl, hcap, hc⟩ := hx
  obtain ⟨len, hl⟩ : ∃ len, len = xs.length := ⟨_, rfl⟩
  rw [← hl] at hlen hcap ⊢
  by_cases h0 : 0 < len
  · obtain ⟨off, rfl, h1, h2, h3, hcell, hfr⟩ := hc (by omega)
    have HM : Hid (Marking (fun j => .complex .f32 (mkC (k + j)) 1065353216) b off len 0 w w) :=
      ⟨Span.refl _ _ _, h3, fun j hj => (getElem?_some (xs := xs) (by omega)).elim fun x hx => ⟨_, hcell j x hx⟩, fun j hj => absurd hj (by omega), fun j hj => hfr rfl j (by omega)⟩
    have HL := Lib.hid hl
    have c1 := fun w => (one_conv w).1
    have c2 := (one_conv w).2
    clear hc hcell hfr hl
    go_enter Try.func66, Try.ntmps66
    go_wp2
    go_loopw [1, 5] (fun q i wr => ∃ j : Nat, j ≤ len ∧ i = .int .i64 j ∧ q = .int .i64 ((k + j : Nat) : Int) ∧ Marking (fun j => .complex .f32 (mkC (k + j)) 1065353216) b off len j w wr ∧ wr.heap.size = w.heap.size) (fun _ i _ => len - (intOf i).toNat)
    case atStart => exact ⟨0, Nat.zero_le _, rfl, by simp, HM.out, rfl⟩
    case round =>
      obtain ⟨j, hj, rfl, rfl, hm, hsz⟩ := hrel
      by_cases hlt : j < len
      · obtain ⟨u, hu⟩ := hm.2.2.1 j hlt
        have hf := hm.2.2.2.2 j hlt
        have Hm2 := Lib.hid (hm.step hlt)
        have Hsz := Lib.hid hsz
        have c3 : ∀ w, fCv .f64 .f32 (floatOfInt .f64 ((k : Int) + (j : Int))) w = mkC (k + j) := fun w => by rw [show (k : Int) + (j : Int) = ((k + j : Nat) : Int) by omega]; exact (mk_conv (by omega) w).1
        have c4 : fCd .f64 .f32 (floatOfInt .f64 ((k : Int) + (j : Int))) = 0 := by rw [show (k : Int) + (j : Int) = ((k + j : Nat) : Int) by omega]; exact (mk_conv (by omega) w).2
        clear hm hsz
        go_wp2
        go_roundw
        case rel => exact ⟨j + 1, by omega, by go_num, by rw [show (k + (j + 1) : Nat) = (k + j) + 1 from rfl]; go_num, Hm2.out, by simpa [World.setCell] using Hsz.out⟩
        case measure => simp [intOf]; omega
      · have hje : j = len := by omega
        have HJ := Lib.hid hje
        have Hm2 := Lib.hid hm
        have Hsz := Lib.hid hsz
        clear hje hm hsz
        go_wp2
        go_ret
        obtain ⟨m1, m2, m3, m4, m5⟩ := Hm2.out
        refine ⟨by rw [← HJ.out]; rfl, ⟨_, cap, by rw [marksC_length], by rw [marksC_length]; exact hcap, fun _ => ⟨off, rfl, h1, h2, m2, fun i x hi => ?_, fun _ i hi => m5 i (by rw [marksC_length] at hi; exact hi)⟩⟩, m1, m1.wide (fun _ _ hk => by omega), Hsz.out⟩
        obtain ⟨hi1, rfl⟩ := marksC_get hi
        rw [m4 i (by have := HJ.out; omega)]
        rfl
  · have h00 : len = 0 := by omega
    subst h00
    clear hc hl
    go_enter Try.func66, Try.ntmps66
    go_wp2
    go_loopw [1, 5] (fun q i wr => i = .int .i64 0 ∧ q = .int .i64 (k : Int) ∧ w = wr) (fun _ i _ => 0)
    case atStart => exact ⟨rfl, rfl, rfl⟩
    case round =>
      obtain ⟨rfl, rfl, rfl⟩ := hrel
      go_wp2
      go_ret
      exact ⟨rfl, HasS.empty _ _ _ _ _ _ _ _, Span.refl _ _ _, Span.refl _ _ _, rfl⟩

end Go.Proofs.Ytocmppilihiehaa
