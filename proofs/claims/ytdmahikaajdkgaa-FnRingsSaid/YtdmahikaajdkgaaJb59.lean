/- The model's rings: copied, taken from, put to. -/
import Derived.Test.YtdmahikaajdkgaaJb58
import Derived.Test.YtdmahikaajdkgaaJb26
import Derived.Outline
namespace Go.Proofs.Ytdmahikaajdkgaa
open Go.RowKit

theorem bx_limbs {w0 w' : World} {B R : Nat} {us : Array Value} (hb : Bx B us w0) (hR : B < R) (h : Span R (R + 1) w0 w') : (∀ i, w'.cell? ⟨B, i, none⟩ = us[i]?) ∧ Span R (R + 1) w0 w' := ⟨(hb.span h (.inr (.inl hR))).cells, h⟩

set_option maxRecDepth 100000 in
set_option maxHeartbeats 4000000 in
theorem l4Copy_any (xs : List Cx) (i j : Int) (o : Bool) (b lo hi : Nat) (v : Value) (w : World) (hx : HasS cxV o b lo hi w v xs) (hl : xs.length ≤ 4194304) :
    Calls Try.prog 99 #[.agg #[v, .int .i64 i, .int .i64 j]] w (GivesRg xs i j w) := by
  obtain ⟨ip, hip, hzp, hsp, hbp⟩ := info_parts info_c64
  have HX := Lib.hid hx
  obtain ⟨A, p, rfl, hp, hc⟩ := hx
  obtain ⟨n, hn⟩ : ∃ n, n = xs.length := ⟨_, rfl⟩
  have HN := Lib.hid hn
  have HL := Lib.hid hl
  rw [← hn] at HX hp hc ⊢
  clear hn hc hp hl
  go_enter Try.func99, Try.ntmps99
  go_wp2_with fail
  have X := Lib.hid ((Bx.new w #[.slice A n p, .int .i64 i, .int .i64 j] 30).alloc (.cells #[.slice none 0 0, .int .i64 0, .int .i64 0] 30))
  have Y := Lib.hid (Bx.new (w.alloc (.cells #[.slice A n p, .int .i64 i, .int .i64 j] 30)) #[.slice none 0 0, .int .i64 0, .int .i64 0] 30)
  rw [show (w.alloc (.cells #[.slice A n p, .int .i64 i, .int .i64 j] 30)).heap.size = w.heap.size + 1 by simp] at Y
  have HS := Lib.hid (((Span.refl 0 0 w).alloc (.cells #[.slice A n p, .int .i64 i, .int .i64 j] 30)).alloc (.cells #[.slice none 0 0, .int .i64 0, .int .i64 0] 30))
  have HW : Hid (((w.alloc (.cells #[.slice A n p, .int .i64 i, .int .i64 j] 30)).alloc (.cells #[.slice none 0 0, .int .i64 0, .int .i64 0] 30)).heap.size = w.heap.size + 2) := by unfold Hid; simp
  generalize (w.alloc (.cells #[.slice A n p, .int .i64 i, .int .i64 j] 30)).alloc (.cells #[.slice none 0 0, .int .i64 0, .int .i64 0] 30) = w0 at *
  have HX0 := Lib.hid (HX.out.span HS.out (.inl (Nat.le_refl _)))
  obtain ⟨Rb, hR⟩ : ∃ Rb, Rb = w.heap.size + 1 := ⟨_, rfl⟩
  have HR : Hid (w.heap.size < Rb) := by unfold Hid; omega
  rw [← hR] at Y ⊢
  have HRE := Lib.hid hR
  clear hR
  go_region_held3 (fun w' => (∀ k, w'.cell? ⟨w.heap.size, k, none⟩ = #[.slice A n p, .int .i64 i, .int .i64 j][k]?) ∧ Span Rb (Rb + 1) w0 w')
    (first
      | exact bx_limbs X.out HR.out ((Span.refl _ _ w0).drew)
      | exact bx_limbs X.out HR.out (sp1.wid0 _ _)
      | (go_split_ands; exact bx_limbs X.out HR.out (Span.alloc (by assumption) _))
      | (exact bx_limbs X.out HR.out ((((sp1.wid0 Rb (Rb + 1)).setCell (.inl ⟨Nat.le_refl _, Nat.lt_succ_self _⟩) _).setCell (.inl ⟨Nat.le_refl _, Nat.lt_succ_self _⟩) _).setCell (.inl ⟨Nat.le_refl _, Nat.lt_succ_self _⟩) _)))
    ((go_split_ands
      refine step_append_any cxV_one rfl (.tmp 3) (.tmp 5) 28 rfl 27 ip (.complex .f32 0 0) 8 Try.underlying28 hip hzp hsp hbp rfl (by omega) w0 HX0.out HL.out rfl _ rfl ?own ?sp ?_
      case own => first | exact own_lit (lit_at (by simp)) (by simp) | exact own_lit (lit_old (lit_at (by simp))) (by simp)
      case sp => first | exact (Span.refl 0 0 w0).drew.alloc _ | exact ((Span.refl 0 0 w0).drew.alloc _).alloc _
      rw [← HN.out]
      intro A1 q1 w1 ho1 sp1 kp1
      have X2 := Y.out.span sp1 (.inl (Nat.le_refl _))
      have c2 := X2.cells
      have f2 := X2.thaw
      have YS := Lib.hid (X2.set3 (.slice A1 n q1) (.int .i64 i) (.int .i64 j))
      clear X2))
  all_goals
    have HSP := Lib.hid sp1
    have HOW := Lib.hid ho1
    clear kp1 sp1 ho1
    go_wp2_with fail
    have d1 := YS.out.cells
    have hw := HW.out
    have hr := HRE.out
    obtain ⟨b1, g1, -, -⟩ := ownsRow_hasS HOW.out
    refine bodyPost_ret (v := .agg #[.slice A1 n q1, .int .i64 i, .int .i64 j]) (by simp [results, Try.results99, go_sem, d1]) rfl ⟨_, b1, rfl, ?_, (HS.out.trans HSP.out).set3 (by omega) _ _ _⟩
    exact (g1.span ((Span.refl Rb (Rb + 1) _).put3 (b := Rb) ⟨Nat.le_refl _, Nat.lt_succ_self _⟩ (.slice A1 n q1) (.int .i64 i) (.int .i64 j)) (by omega)).weak (by omega) (.inl (by simp [World.setCell]))
end Go.Proofs.Ytdmahikaajdkgaa
