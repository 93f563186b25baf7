/- Distances, and the nearest point. Deciding and encoding. Encoding, and places in lists. -/
import Derived.Test.YtghekafjccfjcaaJq23
namespace Go.Proofs.Ytghekafjccfjcaa
section
open Go.RowKit

def distC (a b : Cx) : Nat := fC .add .f32 (fC .mul .f32 (fC .sub .f32 a.1 b.1) (fC .sub .f32 a.1 b.1)) (fC .mul .f32 (fC .sub .f32 a.2 b.2) (fC .sub .f32 a.2 b.2))

set_option maxHeartbeats 400000 in
theorem impl_distanceOf (a b : Cx) (w : World) : Calls Try.prog 96 #[.complex .f32 a.1 a.2, .complex .f32 b.1 b.2] w (GivesF w .f32 (distC a b)) := by
  obtain ⟨a1, a2⟩ := a
  obtain ⟨b1, b2⟩ := b
  simp only
  go_enter Try.func96, Try.ntmps96
  go_wp2
  go_ret
  refine ⟨_, _, rfl, rfl, ?_⟩
  unfold distC
  repeat' first | exact FE.refl _ _ | refine FE.arC _ ?_ ?_

theorem isNaN_any (x : Nat) (w : World) : Calls Try.prog 41 #[.float .f64 x] w fun e w' => e = .returned (.bool (nanB .f64 x)) ∧ w = w' := by
  have h := order_self .f64 x
  have e : (FloatKind.f64.format.order x x != some .eq) = nanB .f64 x := by rw [h]; cases nanB .f64 x <;> rfl
  clear h
  go_enter Try.func41, Try.ntmps41
  go_wp2
  go_ret
  exact ⟨rfl, rfl⟩

theorem widen_nan (x : Nat) (w : World) : nanB .f64 (fCv .f32 .f64 x w) = nanB .f32 x := by
  cases h : nanB .f32 x with
  | true => exact nanB_of_cv w (by simp) h
  | false =>
    rcases Nat.lt_trichotomy (rungOf Ieee.single x) Ieee.single.infRung with h1 | h1 | h1
    · obtain ⟨m, g, h2, _⟩ := read_isU (widen_fin w h1)
      show (Ieee.double.read _).isNaN = false
      rw [h2]; rfl
    · have hi := widen_inf w (read_inf Ieee.single s_eb h1)
      show (Ieee.double.read _).isNaN = false
      rw [hi]; rfl
    · have := nan_of_rung (by rw [s_inf] at h1; exact h1)
      rw [h] at this; cases this

def nearStep (z : Cx) (best : Option (Nat × Nat)) (i : Nat) (p : Cx) : Option (Nat × Nat) :=
  if nanB .f32 (distC p z) then best else
  match best with
  | none => some (i, distC p z)
  | some (j, m) => if FloatKind.f32.format.order (distC p z) m == some .lt then some (i, distC p z) else some (j, m)
def nearC (Q : List Cx) (z : Cx) : Option (Nat × Nat) := Q.zipIdx.foldl (fun b p => nearStep z b p.2 p.1) none

theorem nearC_snoc (Q : List Cx) (p z : Cx) : nearC (Q ++ [p]) z = nearStep z (nearC Q z) Q.length p := by
  simp [nearC, List.zipIdx_append]

def GivesNear (r : Option (Nat × Nat)) (w : World) (e : Ending) (w' : World) : Prop :=
  ∃ n, e = .returned (.tuple #[.int .i64 (((r.map (·.1)).getD 0 : Nat) : Int), .bool r.isSome]) ∧ w' = w.drewN n

set_option maxRecDepth 100000 in
set_option maxHeartbeats 1000000 in
theorem nearestIn_any (Q : List Cx) (z : Cx) (o : Bool) (b lo hi : Nat) (v : Value) (w : World) (hx : HasS cxV o b lo hi w v Q) (hlen : Q.length ≤ 4194304) :
    Calls Try.prog 93 #[v, .complex .f32 z.1 z.2] w (GivesNear (nearC Q z) w) := by
  obtain ⟨A, cap, rfl, hcap, hc⟩ := hx
  obtain ⟨len, hl⟩ : ∃ len, len = Q.length := ⟨_, rfl⟩
  have HL := Lib.hid hl
  rw [← hl] at hlen hcap ⊢
  clear hl
  have HC := Lib.hid hc; clear hc
  go_enter Try.func93, Try.ntmps93
  go_wp2_with fail
  go_loopw [6, 7, 8, 14] (fun a q f c wr => ∃ (k n : Nat) (s : Option (Nat × Nat)), k ≤ len ∧ nearC (Q.take k) z = s ∧ c = .int .i64 k ∧ a = .int .i64 (((s.map (·.1)).getD 0 : Nat) : Int) ∧ q = .float .f32 ((s.map (·.2)).getD 0) ∧ f = .bool s.isSome ∧ wr = w.drewN n) (fun _ _ _ c _ => len - (intOf c).toNat)
  case atStart => exact ⟨0, 0, none, Nat.zero_le _, rfl, rfl, rfl, rfl, rfl, rfl⟩
  case round =>
    obtain ⟨k, n, s, hk, hs, rfl, rfl, rfl, rfl, rfl⟩ := hrel
    by_cases hlt : k < len
    · obtain ⟨off, rfl, _, _, _, hcell, _⟩ := HC.out (by rw [← HL.out]; omega)
      obtain ⟨p, hp⟩ := getElem?_some (xs := Q) (j := k) (by rw [← HL.out]; exact hlt)
      have hck : w.cell? ⟨b, off + k, none⟩ = some (.complex .f32 p.1 p.2) := hcell k p hp
      have hst : nearC (Q.take (k + 1)) z = nearStep z s k p := by
        rw [take_snoc_of hp, nearC_snoc, hs, List.length_take, Nat.min_eq_left (by rw [← HL.out]; omega)]
      clear hcell hp hs
      cases hn : nanB .f32 (distC p z) with
      | true =>
        have HST : Hid (nearC (Q.take (k + 1)) z = s) := by unfold Hid; rw [hst]; unfold nearStep; rw [hn]; rfl
        have HN := Lib.hid hn
        clear hst hn
        go_wp2_with fail
        refine (impl_distanceOf p z _).mono ?_
        rintro _ _ ⟨r, m, rfl, rfl, hr⟩
        have hrn : nanB .f32 r = true := by
          rcases hr with rfl | h
          · exact HN.out
          · exact h.1
        have HR := Lib.hid hrn
        clear hr hrn
        go_wp2_with fail
        refine (isNaN_any _ _).mono ?_
        rintro _ _ ⟨rfl, rfl⟩
        rw [widen_nan, HR.out]
        go_wp2_with fail
        go_roundw
        case rel => exact ⟨k + 1, _, s, by omega, HST.out, by go_num, rfl, rfl, rfl, rfl⟩
        case measure => simp [intOf]; omega
      | false =>
        have HN := Lib.hid hn
        have HST := Lib.hid hst
        clear hst hn
        cases s with
        | none =>
          simp only [Option.map_none, Option.getD_none, Option.isSome_none]
          go_wp2_with fail
          refine (impl_distanceOf p z _).mono ?_
          rintro _ _ ⟨r, m, rfl, rfl, hr⟩
          obtain rfl : r = distC p z := by
            rcases hr with h | h
            · exact h
            · have := HN.out; rw [h.2] at this; cases this
          clear hr
          go_wp2_with fail
          refine (isNaN_any _ _).mono ?_
          rintro _ _ ⟨rfl, rfl⟩
          rw [widen_nan, HN.out]
          go_wp2_with fail
          go_roundw
          case rel => exact ⟨k + 1, _, some (k, distC p z), by omega, by rw [HST.out]; unfold nearStep; rw [HN.out]; rfl, by go_num, rfl, rfl, rfl, rfl⟩
          case measure => simp [intOf]; omega
        | some jm =>
          obtain ⟨j, mm⟩ := jm
          simp only [Option.map_some, Option.getD_some, Option.isSome_some]
          cases ho : FloatKind.f32.format.order (distC p z) mm == some .lt with
          | true =>
            have HO := Lib.hid ho
            go_wp2_with fail
            refine (impl_distanceOf p z _).mono ?_
            rintro _ _ ⟨r, m, rfl, rfl, hr⟩
            obtain rfl : r = distC p z := by
              rcases hr with h | h
              · exact h
              · have := HN.out; rw [h.2] at this; cases this
            clear hr
            go_wp2_with fail
            refine (isNaN_any _ _).mono ?_
            rintro _ _ ⟨rfl, rfl⟩
            rw [widen_nan, HN.out]
            go_wp2_with fail
            go_roundw
            case rel => exact ⟨k + 1, _, some (k, distC p z), by omega, by rw [HST.out]; unfold nearStep; rw [HN.out]; simp only [HO.out]; rfl, by go_num, rfl, rfl, rfl, rfl⟩
            case measure => simp [intOf]; omega
          | false =>
            have HO := Lib.hid ho
            go_wp2_with fail
            refine (impl_distanceOf p z _).mono ?_
            rintro _ _ ⟨r, m, rfl, rfl, hr⟩
            obtain rfl : r = distC p z := by
              rcases hr with h | h
              · exact h
              · have := HN.out; rw [h.2] at this; cases this
            clear hr
            go_wp2_with fail
            refine (isNaN_any _ _).mono ?_
            rintro _ _ ⟨rfl, rfl⟩
            rw [widen_nan, HN.out]
            go_wp2_with fail
            go_roundw
            case rel => exact ⟨k + 1, _, some (j, mm), by omega, by rw [HST.out]; unfold nearStep; rw [HN.out]; simp only [HO.out]; rfl, by go_num, rfl, rfl, rfl, rfl⟩
            case measure => simp [intOf]; omega
    · have hke : k = len := by omega
      have HK := Lib.hid hke
      have HS := Lib.hid hs
      clear hke hs
      go_wp2_with fail
      go_ret2
      refine ⟨n, ?_, rfl⟩
      have := HS.out
      rw [HK.out, HL.out, List.take_length] at this
      rw [this]
      rfl
end
section
open Go.RowKit

/-- A list of numbers in new memory, and true. -/
def GivesL {α : Type} (val : α → Value) (xs : List α) (w : World) (e : Ending) (w' : World) : Prop :=
  ∃ v b, e = .returned (.tuple #[v, .bool true]) ∧ HasS val true b w.heap.size w'.heap.size w' v xs ∧ Span 0 0 w w'

theorem Filled.setOther {w : World} {g : Nat} {e : TypeId} {n k : Nat} {f : Nat → Value} (h : Filled w g e n k f) (n' : Nat) : Filled (w.drewN n') g e n k f := h

/-- How each sample is decided. -/
def Decided (t : Tab) (zs : List Cx) (ls : List Int) : Prop :=
  ls.length = zs.length ∧ ∀ (j : Nat) (z : Cx), zs[j]? = some z → ∃ (i m : Nat) (l : Int), nearC t.1 z = some (i, m) ∧ t.2[i]? = some l ∧ ls[j]? = some l
end
section
open Go.RowKit

/-- How each label is encoded. -/
def Encoded (t : Tab) (ns : List Int) (zs : List Cx) : Prop :=
  zs.length = ns.length ∧ ∀ (j : Nat) (n : Int), ns[j]? = some n → ∃ (i : Nat) (z : Cx), t.2[i]? = some n ∧ (∀ k, k < i → t.2[k]? ≠ some n) ∧ t.1[i]? = some z ∧ zs[j]? = some z
end
end Go.Proofs.Ytghekafjccfjcaa
