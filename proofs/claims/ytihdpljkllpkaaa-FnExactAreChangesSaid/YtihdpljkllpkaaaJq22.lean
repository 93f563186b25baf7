/- Slices of numbers compared, marked, and looked at again. -/
import Derived.Test.YtihdpljkllpkaaaJq7
import Derived.Test.YtihdpljkllpkaaaJq9
import Derived.Test.YtihdpljkllpkaaaJq21
import Derived.Deep.RegionWith
namespace Go.Proofs.Ytihdpljkllpkaaa
open Go.RowKit

/-- The same samples, but for the bits of NaN. -/
def SameL (xs ys : List Cx) : Prop := xs.length = ys.length ∧ ∀ (j : Nat) (x y : Cx), xs[j]? = some x → ys[j]? = some y → FE .f32 x.1 y.1 ∧ FE .f32 x.2 y.2

theorem SameL.refl (xs : List Cx) : SameL xs xs := ⟨rfl, fun j x y h1 h2 => by rw [h1] at h2; cases h2; exact ⟨FE.refl _ _, FE.refl _ _⟩⟩

/-- The mark k as a float. -/
def mkC (k : Nat) : Nat := (floatToFloatBits .f64 (floatOfInt .f64 (k : Int)) .f32).getD 0

theorem mkC_spec {k : Nat} (hk : k < 16777216) : floatToFloatBits .f64 (floatOfInt .f64 (k : Int)) .f32 = some (mkC k) ∧ nanB .f32 (mkC k) = false := by
  obtain ⟨r, hr, hu⟩ := rep_s (q := k) (e := 149) hk (by omega)
  have key : ∀ z n, n = 149 + 925 → AtY z k n → isU Ieee.double z false (k * 2 ^ (149 + 925)) := by intro z n hn h; subst hn; exact h
  have h := narrow (key _ _ (by rfl) (AtY.ofInt hk)) hu hr
  have e : mkC k = Ieee.single.word false r := by unfold mkC; rw [h]; rfl
  rw [e]
  refine ⟨h, ?_⟩
  have hi : isU Ieee.single (Ieee.single.word false r) false (units Ieee.single r) := ⟨r, rfl, hr, rfl⟩
  obtain ⟨m, g, h1, _⟩ := read_isU hi
  show (Ieee.single.read _).isNaN = false
  rw [h1]; rfl

theorem mk_conv {k : Nat} (hk : k < 16777216) (w : World) : fCv .f64 .f32 (floatOfInt .f64 (k : Int)) w = mkC k ∧ fCd .f64 .f32 (floatOfInt .f64 (k : Int)) = 0 := by
  obtain ⟨h, _⟩ := mkC_spec hk
  simp [fCv, fCd, h]

theorem one_conv (w : World) : fCv .f64 .f32 4607182418800017408 w = 1065353216 ∧ fCd .f64 .f32 4607182418800017408 = 0 := by
  have h : floatToFloatBits .f64 4607182418800017408 .f32 = some 1065353216 := by decide +kernel
  simp [fCv, fCd, h]

def marksC (n k : Nat) : List Cx := (List.range n).map fun j => (mkC (k + j), 1065353216)
def marksI (n k : Nat) : List Int := (List.range n).map fun j => ((k + j : Nat) : Int)
theorem marksC_length (n k : Nat) : (marksC n k).length = n := by simp [marksC]
theorem marksI_length (n k : Nat) : (marksI n k).length = n := by simp [marksI]
theorem marksC_get {n k j : Nat} {x : Cx} (h : (marksC n k)[j]? = some x) : j < n ∧ x = (mkC (k + j), 1065353216) := by
  simp only [marksC, List.getElem?_map, Option.map_eq_some_iff] at h
  obtain ⟨a, h1, rfl⟩ := h
  obtain ⟨h2, h3⟩ := List.getElem?_eq_some_iff.1 h1
  simp at h2 h3
  subst h3
  exact ⟨h2, rfl⟩
theorem marksI_get {n k j : Nat} {x : Int} (h : (marksI n k)[j]? = some x) : j < n ∧ x = ((k + j : Nat) : Int) := by
  simp only [marksI, List.getElem?_map, Option.map_eq_some_iff] at h
  obtain ⟨a, h1, rfl⟩ := h
  obtain ⟨h2, h3⟩ := List.getElem?_eq_some_iff.1 h1
  simp at h2 h3
  subst h3
  exact ⟨h2, rfl⟩

/-- A slice of marks, in the course of being marked: the first i are new. -/
def Marking (f : Nat → Value) (b off n i : Nat) (w0 w : World) : Prop :=
  Span b (b + 1) w0 w ∧ b < w.heap.size ∧ (∀ j, j < n → ∃ u, w.cell? ⟨b, off + j, none⟩ = some u) ∧ (∀ j, j < i → w.cell? ⟨b, off + j, none⟩ = some (f j)) ∧ (∀ j, j < n → w.frozen? ⟨b, off + j, none⟩ = false)

theorem Marking.step {f : Nat → Value} {b off n i : Nat} {w0 w : World} (h : Marking f b off n i w0 w) (hi : i < n) : Marking f b off n (i + 1) w0 (w.setCell ⟨b, off + i, none⟩ (f i)) := by
  obtain ⟨h1, h2, h3, h4, h5⟩ := h
  obtain ⟨u, hu⟩ := h3 i hi
  refine ⟨h1.setCell (.inl ⟨Nat.le_refl _, Nat.lt_succ_self _⟩) _, by simpa [World.setCell] using h2, fun j hj => ?_, fun j hj => ?_, fun j hj => by rw [World.frozen?_setCell]; exact h5 j hj⟩
  · by_cases hji : j = i
    · subst hji; exact ⟨_, World.cell?_setCell_same w ⟨b, off + j, none⟩ _ hu⟩
    · obtain ⟨u', hu'⟩ := h3 j hj
      exact ⟨u', (World.cell?_setCell_other w ⟨b, off + i, none⟩ ⟨b, off + j, none⟩ _ (by intro e; injection e; omega)).trans hu'⟩
  · by_cases hji : j = i
    · subst hji; exact World.cell?_setCell_same w ⟨b, off + j, none⟩ _ hu
    · exact (World.cell?_setCell_other w ⟨b, off + i, none⟩ ⟨b, off + j, none⟩ _ (by intro e; injection e; omega)).trans (h4 j (by omega))

/-- What marking gives. -/
def Marks {α : Type} (val : α → Value) (b lo hi : Nat) (v : Value) (xs : List α) (n k : Nat) (w : World) (e : Ending) (w' : World) : Prop :=
  e = .returned (.int .i64 ((k + n : Nat) : Int)) ∧ HasS val true b lo hi w' v xs ∧ Span b (b + 1) w w' ∧ Span lo hi w w' ∧ w'.heap.size = w.heap.size
end Go.Proofs.Ytihdpljkllpkaaa
