/- Rings that are valid: IsRing. -/
import Derived.Test.YtdmahikaajdkgaaJb15
import Derived.Test.YtdmahikaajdkgaaJb16
import Derived.Test.YtdmahikaajdkgaaJb8
import Derived.Deep.RegionWith
import Derived.Outline
namespace Go.Proofs.Ytdmahikaajdkgaa
open Go.RowKit

/-- A ring as numbers: at most 16 places, the free ones are 0. -/
def ValidR (xs : List Cx) (a k : Nat) : Prop := 1 ≤ xs.length ∧ xs.length ≤ 16 ∧ a < xs.length ∧ k ≤ xs.length ∧ ∀ j, k ≤ j → j < xs.length → xs[(a + j) % xs.length]? = some (0, 0)

theorem isPlainZero_zero (w : World) : Calls Try.prog 80 #[.complex .f32 0 0] w fun e w' => e = .returned (.bool true) ∧ w = w' := by
  have hb := run_float32bits
  go_enter Try.func80, Try.ntmps80
  go_wp2_with fail
  go_ret
  exact ⟨rfl, rfl⟩

theorem ringIndex_any (A : Option Addr) (n p a j : Nat) (c : Int) (h1 : 1 ≤ n) (h2 : n ≤ 16) (ha : a ≤ 16) (hj : j ≤ 16) (w : World) : Calls Try.prog 52 #[.agg #[.slice A n p, .int .i64 (a : Int), .int .i64 c], .int .i64 (j : Int)] w fun e w' => e = .returned (.int .i64 (((a + j) % n : Nat) : Int)) ∧ Span 0 0 w w' := by
  have i0 : ¬ ((n : Int) = 0) := by omega
  have i1 : ¬ (n = 0) := by omega
  have i2 : ((a : Int) + (j : Int)).tmod (n : Int) = (((a + j) % n : Nat) : Int) := by
    rw [← Int.natCast_add, Int.ofNat_tmod]
  have i3 : IntKind.i64.wrap (((a + j) % n : Nat) : Int) = (((a + j) % n : Nat) : Int) := IntWalk.i64_in _ (by have := Nat.mod_lt (a + j) (show 0 < n by omega); omega)
  obtain ⟨q, hq⟩ : ∃ q, q = (a + j) % n := ⟨_, rfl⟩
  rw [← hq] at i2 i3 ⊢
  clear hq
  go_enter Try.func52, Try.ntmps52
  go_wp2_with fail
  go_ret
  exact ⟨rfl, (Span.refl _ _ _).alloc _⟩

set_option maxRecDepth 100000 in
set_option maxHeartbeats 2000000 in
theorem isRing_true (xs : List Cx) (a k : Nat) (hv : ValidR xs a k) (o : Bool) (b lo hi : Nat) (v : Value) (w : World) (hx : HasS cxV o b lo hi w v xs) :
    Calls Try.prog 51 #[.agg #[v, .int .i64 (a : Int), .int .i64 (k : Int)]] w (True0 w) := by
  obtain ⟨h1, h2, h3, h4, h5⟩ := hv
  have HX := Lib.hid hx
  obtain ⟨A, p, rfl, hp, hc⟩ := hx
  obtain ⟨n, hn⟩ : ∃ n, n = xs.length := ⟨_, rfl⟩
  rw [← hn] at h1 h2 h3 h4 h5 HX hp hc ⊢
  have HN := Lib.hid hn
  have H5 := Lib.hid h5
  obtain ⟨off, rfl, _, _, hbs, hcell, _⟩ := hc (by omega)
  have HC := Lib.hid hcell
  have X := Lib.hid (Bx.new w #[.slice (some ⟨b, off, none⟩) n p, .int .i64 (a : Int), .int .i64 (k : Int)] 30)
  have HS0 := Lib.hid ((Span.refl 0 0 w).alloc (.cells #[.slice (some ⟨b, off, none⟩) n p, .int .i64 (a : Int), .int .i64 (k : Int)] 30))
  have HB := Lib.hid hbs
  have d1 : decide ((n : Int) < 1) = false := by rw [decide_eq_false_iff_not]; omega
  have d2 : decide ((16 : Int) < (n : Int)) = false := by rw [decide_eq_false_iff_not]; omega
  have d3 : decide ((a : Int) < 0) = false := by rw [decide_eq_false_iff_not]; omega
  have d4 : decide ((n : Int) ≤ (a : Int)) = false := by rw [decide_eq_false_iff_not]; omega
  have d5 : decide ((k : Int) < 0) = false := by rw [decide_eq_false_iff_not]; omega
  have d6 : decide ((n : Int) < (k : Int)) = false := by rw [decide_eq_false_iff_not]; omega
  have f1 : ¬ (n < 1) := by omega
  have f2 : ¬ (16 < n) := by omega
  have f4 : ¬ (n ≤ a) := by omega
  have f4' : a < n := by omega
  have f6 : ¬ (n < k) := by omega
  have f6' : k ≤ n := by omega
  have HN1 := Lib.hid h1
  have HN2 := Lib.hid h2
  have HN3 := Lib.hid h3
  have HN4 := Lib.hid h4
  clear hc hcell hn h5 hbs h1 h2 h3 h4 hp
  go_enter Try.func51, Try.ntmps51
  go_wp2_with fail
  generalize w.alloc (.cells #[.slice (some ⟨b, off, none⟩) n p, .int .i64 (a : Int), .int .i64 (k : Int)] 30) = w0 at *
  go_loopw [4] (fun i wr => ∃ j : Nat, k ≤ j ∧ j ≤ n ∧ i = .int .i64 j ∧ Span 0 0 w0 wr) (fun i _ => n - (intOf i).toNat)
  case atStart => exact ⟨k, Nat.le_refl _, HN4.out, rfl, Span.refl _ _ _⟩
  case round =>
    obtain ⟨j, hkj, hjn, rfl, hs⟩ := hrel
    have cx := (X.out.keep hs).cells
    have HSr := Lib.hid (HS0.out.trans hs)
    have HXr := Lib.hid (X.out.keep hs)
    by_cases hlt : j < n
    · obtain ⟨q, hq⟩ : ∃ q, q = (a + j) % n := ⟨_, rfl⟩
      have hqn : q < n := by rw [hq]; exact Nat.mod_lt _ (by omega)
      have hz := H5.out j hkj hlt
      rw [← hq] at hz
      have hck : wr.cell? ⟨b, off + q, none⟩ = some (.complex .f32 0 0) := ((HSr.out.cells (Nat.le_refl _)).1 b _ HB.out).trans (HC.out q _ hz)
      have RI := Lib.hid (ringIndex_any (some ⟨b, off, none⟩) n p a j (k : Int) HN1.out HN2.out (by have := HN3.out; have := HN2.out; omega) (by have := HN2.out; omega))
      rw [← hq] at RI
      have HCK := Lib.hid hck
      have j0 : (0 : Int) ≤ (q : Int) := by omega
      have j1 : (q : Int) < (n : Int) := by omega
      have HJ := Lib.hid hlt
      have HK := Lib.hid hkj
      have HS1 := Lib.hid hs
      clear hq hz hs hkj hjn
      go_wp2_with fail
      go_region_with (first
        | (go_at_call 52; go_loud ((refine (RI.out _).mono ?_; rintro _ wq ⟨rfl, sq⟩; have SQ : Hid (Span 0 0 wr wq) := (by first | exact sq | exact sq.undrawn | exact Span.undrawn (n := 1) sq); have cq := (HXr.out.keep SQ.out).cells; have hcq : wq.cell? ⟨b, off + q, none⟩ = some (.complex .f32 0 0) := ((SQ.out.cells (Nat.le_refl _)).1 b _ (Nat.lt_of_lt_of_le HB.out HSr.out.size)).trans HCK.out; clear sq)))
        | (go_at_call 80; go_loud (refine (isPlainZero_zero _).mono ?_; rintro _ _ ⟨rfl, rfl⟩)))
      all_goals
        go_wp2_with fail
        go_roundw
        case rel => exact ⟨j + 1, by have := HK.out; omega, by omega, by go_num, by first | exact HS1.out.trans SQ.out | exact (HS1.out.trans SQ.out).drewN _⟩
        case measure => simp [intOf]; omega
    · have hje : j = n := by omega
      have HJ := Lib.hid hje
      clear hje hs
      go_wp2_with fail
      go_ret
      exact ⟨rfl, HSr.out⟩
end Go.Proofs.Ytdmahikaajdkgaa
