/- Two sources and a sum, run for one step. -/
import Derived.Test.YtghekafjccfjcaaJq49
import Derived.Outline
namespace Go.Proofs.Ytghekafjccfjcaa
open Go.RowKit

def big2 : Cx := (1266679808, 0)
def one2 : Cx := (1065353216, 0)
theorem mul_big : mulS big2 one2 = some big2 := by decide +kernel
theorem mul_one2 : mulS one2 one2 = some one2 := by decide +kernel
def twoMs : List Mw := [mSource one2 big2, mSource one2 one2, mSum]
def twoSt (y : Cx) : Nat → List Un × List Cx
  | 0 => ([uSource one2 big2, uSource one2 one2, uSum], [(0, 0), (0, 0), (0, 0)])
  | 1 => ([uSource one2 big2, uSource one2 one2, uSum], [big2, (0, 0), (0, 0)])
  | 2 => ([uSource one2 big2, uSource one2 one2, uSum], [big2, one2, (0, 0)])
  | _ => ([uSource one2 big2, uSource one2 one2, uSum], [big2, one2, y])
def twoTr (y : Cx) : Nat → Nat → List Un × List Cx
  | 0, j => twoSt y j
  | _ + 1, _ => twoSt y 3

theorem run_two {w : World} {bM bC lo hi : Nat} {AM : Option Addr} {cM : Nat} {AC : Option Addr} {m cC : Nat} {Cs : List (Nat × Nat)} (hr : RkAt w bM bC lo hi AM 3 cM AC m cC twoMs Cs) (hb : bM < w.heap.size) (l : List Nat) (hl : feedsC 3 Cs = [[], [], l]) (hord : orderC [1, 1, 5] Cs 3 = some [0, 1, 2]) (parts : Nat → Cx) (hp0 : parts 0 = (0, 0)) (hp : ∀ j, j < l.length → ∃ f o, l[j]? = some f ∧ [big2, one2, (0, 0)][f]? = some o ∧ Adds (parts j) o (parts (j + 1))) :
    Calls Try.prog 10 #[.agg #[.slice AM 3 cM, .slice AC m cC], .agg #[.int .i64 (-1), .int .i64 2], .slice none 0 0, .int .i64 1] w (RanRk 3 m 1 Cs [parts l.length] (fun _ _ => True) w) := by
  have hRs : Reads w twoMs [([], ([], [])), ([], ([], [])), ([], ([], []))] := by
    refine ⟨rfl, fun i x r hx hr => ?_⟩
    have hr2 : r = ([], ([], [])) := by
      match i, hr with
      | 0, hr => simpa using hr.symm
      | 1, hr => simpa using hr.symm
      | 2, hr => simpa using hr.symm
      | i + 3, hr => simp at hr
    subst hr2
    refine ⟨by simp, rfl, by simp, true, 0, 0, 0, 0, ?_⟩
    match i, hx with
    | 0, hx => simp [twoMs] at hx; subst hx; exact ⟨HasS.empty .., ⟨0, 1, _, _, rfl, by decide, HasS.empty .., HasS.empty ..⟩⟩
    | 1, hx => simp [twoMs] at hx; subst hx; exact ⟨HasS.empty .., ⟨0, 1, _, _, rfl, by decide, HasS.empty .., HasS.empty ..⟩⟩
    | 2, hx => simp [twoMs] at hx; subst hx; exact ⟨HasS.empty .., ⟨0, 1, _, _, rfl, by decide, HasS.empty .., HasS.empty ..⟩⟩
    | i + 3, hx => simp [twoMs] at hx
  refine runRack_plain (n := 3) (Ms := twoMs) hr _ hRs [.source, .source, .sum] rfl (fun i kd x hk hx => ?_) [0, 1, 2] hord (-1) (.inl rfl) 2 (by decide) [] (by simp) true bM 0 0 (.slice none 0 0) hb (HasS.empty ..) 1 (by decide) (twoTr (parts l.length)) rfl (fun r hr1 j i kd l' hj hk hl' => ?_) (fun r hr1 => ?_) [parts l.length] rfl (fun i y hy => ?_) (fun _ _ => True) (fun i kd u hk hu H g f => ?_)
  · match i, hk, hx with
    | 0, hk, hx => simp [twoMs] at hk hx; subst hk; subst hx; exact ⟨rfl, by decide, by decide⟩
    | 1, hk, hx => simp [twoMs] at hk hx; subst hk; subst hx; exact ⟨rfl, by decide, by decide⟩
    | 2, hk, hx => simp [twoMs] at hk hx; subst hk; subst hx; exact ⟨rfl, by decide, by decide⟩
    | i + 3, hk, _ => simp at hk
  · obtain rfl : r = 0 := by omega
    rw [hl] at hl'
    match j, hj with
    | 0, hj =>
      obtain rfl : i = 0 := by simp at hj; omega
      simp at hk hl'
      subst hk; subst hl'
      exact ⟨fun _ => (0, 0), uSource one2 big2, uSource one2 big2, big2, by simp, fun j hj => absurd hj (by simp), rfl, stepU_source one2 big2 big2 (0, 0) mul_big, rfl⟩
    | 1, hj =>
      obtain rfl : i = 1 := by simp at hj; omega
      simp at hk hl'
      subst hk; subst hl'
      exact ⟨fun _ => (0, 0), uSource one2 one2, uSource one2 one2, one2, by simp, fun j hj => absurd hj (by simp), rfl, stepU_source one2 one2 one2 (0, 0) mul_one2, rfl⟩
    | 2, hj =>
      obtain rfl : i = 2 := by simp at hj; omega
      simp at hk hl'
      subst hk; subst hl'
      refine ⟨parts, uSum, uSum, parts l.length, by rw [if_neg (show ¬ ((2 : Nat) : Int) = -1 by decide)]; exact hp0, hp, rfl, stepU_sum _, rfl⟩
    | j + 3, hj => simp at hj
  · obtain rfl : r = 0 := by omega
    rfl
  · match i, hy with
    | 0, hy => simpa [twoTr, twoSt] using hy
    | i + 1, hy => simp at hy
  · match i, hk, hu with
    | 0, hk, hu => simp [twoTr, twoSt] at hk hu; subst hk; subst hu; exact fun w h => (modU_source _ _ H g f w h).mono fun e w' ⟨m, h1, _, h3⟩ => ⟨m, h1, trivial, h3⟩
    | 1, hk, hu => simp [twoTr, twoSt] at hk hu; subst hk; subst hu; exact fun w h => (modU_source _ _ H g f w h).mono fun e w' ⟨m, h1, _, h3⟩ => ⟨m, h1, trivial, h3⟩
    | 2, hk, hu => simp [twoTr, twoSt] at hk hu; subst hk; subst hu; exact fun w h => (modU_sum H g f w h).mono fun e w' ⟨m, h1, _, h3⟩ => ⟨m, h1, trivial, h3⟩
    | i + 3, hk, _ => simp at hk

def Cs1 : List (Nat × Nat) := [(0, 2), (1, 2), (1, 2)]
def Cs2 : List (Nat × Nat) := [(1, 2), (1, 2), (0, 2)]
def parts1 : Nat → Cx
  | 0 => (0, 0)
  | _ => big2
def parts2 : Nat → Cx
  | 0 => (0, 0)
  | 1 => one2
  | 2 => (1073741824, 0)
  | _ => (1266679809, 0)
theorem run_two1 {w : World} {bM bC lo hi : Nat} {AM : Option Addr} {cM : Nat} {AC : Option Addr} {m cC : Nat} (hr : RkAt w bM bC lo hi AM 3 cM AC m cC twoMs Cs1) (hb : bM < w.heap.size) :
    Calls Try.prog 10 #[.agg #[.slice AM 3 cM, .slice AC m cC], .agg #[.int .i64 (-1), .int .i64 2], .slice none 0 0, .int .i64 1] w (RanRk 3 m 1 Cs1 [big2] (fun _ _ => True) w) := by
  refine run_two hr hb [0, 1, 1] rfl (by decide) parts1 rfl (fun j hj => ?_)
  match j, hj with
  | 0, _ => exact ⟨0, big2, rfl, rfl, by unfold Adds; decide +kernel⟩
  | 1, _ => exact ⟨1, one2, rfl, rfl, by unfold Adds; decide +kernel⟩
  | 2, _ => exact ⟨1, one2, rfl, rfl, by unfold Adds; decide +kernel⟩
  | j + 3, hj => exact absurd hj (by simp)
theorem run_two2 {w : World} {bM bC lo hi : Nat} {AM : Option Addr} {cM : Nat} {AC : Option Addr} {m cC : Nat} (hr : RkAt w bM bC lo hi AM 3 cM AC m cC twoMs Cs2) (hb : bM < w.heap.size) :
    Calls Try.prog 10 #[.agg #[.slice AM 3 cM, .slice AC m cC], .agg #[.int .i64 (-1), .int .i64 2], .slice none 0 0, .int .i64 1] w (RanRk 3 m 1 Cs2 [(1266679809, 0)] (fun _ _ => True) w) := by
  refine run_two hr hb [1, 1, 0] rfl (by decide) parts2 rfl (fun j hj => ?_)
  match j, hj with
  | 0, _ => exact ⟨1, one2, rfl, rfl, by unfold Adds; decide +kernel⟩
  | 1, _ => exact ⟨1, one2, rfl, rfl, by unfold Adds; decide +kernel⟩
  | 2, _ => exact ⟨0, big2, rfl, rfl, by unfold Adds; decide +kernel⟩
  | j + 3, hj => exact absurd hj (by simp)
end Go.Proofs.Ytghekafjccfjcaa
