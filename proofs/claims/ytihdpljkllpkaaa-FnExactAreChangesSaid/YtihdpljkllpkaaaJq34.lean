/- The law FnExactAreChanges. -/
import Derived.Test.YtihdpljkllpkaaaJq33
import Derived.Outline
namespace Go.Proofs.Ytihdpljkllpkaaa
open Go.RowKit

theorem Span.below0 {w w' : World} (h : Span 0 0 w w') : Below w.heap.size w w' := ⟨h.os, h.tape, h.output, h.size, fun k hk => h.block k hk (by omega)⟩

set_option maxRecDepth 100000 in
set_option maxHeartbeats 2000000 in
theorem law_areChanges (b : Nat) (L : List Ch) (v : Value) (w : World) (hL : HasC 2 chC b 0 w.heap.size w v L) (hok : ∀ x ∈ L, OkCh x) (hm : L.length ≤ maxLen) :
    Calls Try.prog 3 #[v] w (Says w) := by
  have HL := Lib.hid hL
  have HSZ := Lib.hid (szChangeS_any L b v w hL hok hm)
  obtain ⟨A, cap, rfl, -, -⟩ := hL
  obtain ⟨n, hn⟩ : ∃ n, n = L.length := ⟨_, rfl⟩
  have HN := Lib.hid hn
  rw [← hn] at HL HSZ ⊢
  clear hok hm hn
  go_enter Try.func3, Try.ntmps3
  go_wp2_with fail
  refine HSZ.out.mono ?_
  rintro _ w1 ⟨r, rfl, hr, r1, r0, s1⟩
  have S1 := Lib.hid s1
  have HR := Lib.hid hr
  clear hr s1
  by_cases hc : r < 0
  · go_wp2_with fail
    go_ret
    exact ⟨rfl, S1.out.below0⟩
  · have hlen : L.length ≤ 1048576 := by have := HR.out (by omega); rw [HN.out] at this; exact this
    have HLEN := Lib.hid hlen
    have T1 := Lib.hid (toChangeS_any L b 0 w.heap.size _ w1 (HL.out.keep S1.out) hlen)
    clear hlen
    go_wp2_with fail
    refine T1.out.mono ?_
    rintro _ w2 ⟨b2, rfl, hb2, h2, s2⟩
    have S2 := Lib.hid (S1.out.trans s2)
    have SP := Lib.hid (spec_are L _ _ _ _ w2 h2 HLEN.out)
    clear h2 s2 hb2
    go_wp2_with fail
    refine SP.out.mono ?_
    rintro _ w3 ⟨rfl, s3⟩
    have S3 := Lib.hid (S2.out.trans s3)
    have T2 := Lib.hid (toChangeS_any L b 0 w.heap.size _ w3 (HL.out.keep (S2.out.trans s3)) HLEN.out)
    clear s3
    go_wp2_with fail
    refine T2.out.mono ?_
    rintro _ w4 ⟨b4, rfl, hb4, h4, s4⟩
    have S4 := Lib.hid (S3.out.trans s4)
    have H4 := Lib.hid h4
    have IM := Lib.hid (impl_are L _ _ _ _ w4 h4 HLEN.out)
    clear h4 s4 hb4
    go_wp2_with fail
    refine IM.out.mono ?_
    rintro _ w5 ⟨rfl, s5⟩
    have S5 := Lib.hid (S4.out.trans s5)
    have H5 := Lib.hid (H4.out.keep s5)
    have T3 := Lib.hid (toChangeS_any L b 0 w.heap.size _ w5 (HL.out.keep (S4.out.trans s5)) HLEN.out)
    clear s5
    go_wp2_with fail
    refine T3.out.mono ?_
    rintro _ w6 ⟨b6, rfl, hb6, h6, s6⟩
    have S6 := Lib.hid (S5.out.trans s6)
    have EQ := Lib.hid (eqChangeS_any L _ _ _ _ _ _ _ _ w6 (H5.out.keep s6) h6 HLEN.out)
    clear h6 s6 hb6
    go_wp2_with fail
    refine EQ.out.mono ?_
    rintro _ w7 ⟨rfl, s7⟩
    have S7 := Lib.hid (S6.out.trans s7)
    clear s7
    go_wp2_with fail
    go_ret
    exact ⟨rfl, S7.out.below0⟩
end Go.Proofs.Ytihdpljkllpkaaa
