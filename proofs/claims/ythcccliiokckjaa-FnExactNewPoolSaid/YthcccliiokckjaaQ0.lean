/- Pools without leases: made, compared, marked, looked at. -/
import Derived.Test.YthcccliiokckjaaG3
import Derived.Test.YthcccliiokckjaaN8
import Derived.Outline
namespace Go.Proofs.Ythcccliiokckjaa
open Go.RowKit

/-- A pool without leases. -/
def HasP0 (own : Bool) (lo hi : Nat) (w : World) (v : Value) (xs : List Cx) : Prop :=
  ∃ b vS, v = .agg #[vS, .slice none 0 0] ∧ HasS cxV own b lo hi w vS xs

theorem HasP0.span {own : Bool} {lo hi l r : Nat} {w w' : World} {v : Value} {t : List Cx} (h : HasP0 own lo hi w v t) (hs : Span l r w w') (hd : r ≤ l ∨ hi ≤ l ∨ r ≤ lo) : HasP0 own lo hi w' v t := by
  obtain ⟨b1, vS, rfl, h1⟩ := h
  exact ⟨b1, vS, rfl, h1.span hs (by omega)⟩
theorem HasP0.weak {own : Bool} {lo hi lo' hi' : Nat} {w : World} {v : Value} {t : List Cx} (h : HasP0 own lo hi w v t) (h1 : lo' ≤ lo) (h2 : hi ≤ hi' ∨ w.heap.size ≤ hi') : HasP0 own lo' hi' w v t := by
  obtain ⟨b1, vS, rfl, g1⟩ := h
  exact ⟨b1, vS, rfl, g1.weak h1 h2⟩
theorem HasP0.form {own : Bool} {lo hi : Nat} {w : World} {v : Value} {t : List Cx} (h : HasP0 own lo hi w v t) : ∃ A c, v = .agg #[.slice A t.length c, .slice none 0 0] := by
  obtain ⟨b1, vS, rfl, h1⟩ := h
  obtain ⟨A, c, rfl, _⟩ := h1
  exact ⟨A, c, rfl⟩
theorem HasP0.none_ (own : Bool) (lo hi : Nat) (w : World) : HasP0 own lo hi w (.agg #[.slice none 0 0, .slice none 0 0]) [] :=
  ⟨0, _, rfl, HasS.empty _ _ _ _ _ _ _ _⟩

/-- A pool that is made, or none. -/
def GivesP0 (o : Option (List Cx)) (w : World) (e : Ending) (w' : World) : Prop :=
  ∃ v, e = .returned (.tuple #[v, .bool o.isSome]) ∧ HasP0 true w.heap.size w'.heap.size w' v (o.getD []) ∧ Span 0 0 w w'

def poolO (n : Int) : Option (List Cx) := if 0 ≤ n ∧ n ≤ 256 then some (List.replicate n.toNat (0, 0)) else none

theorem poolO_len (n : Int) : ((poolO n).getD []).length ≤ 256 := by
  unfold poolO
  by_cases h : 0 ≤ n ∧ n ≤ 256
  · rw [if_pos h]; simp; omega
  · rw [if_neg h]; simp

theorem zeros_hasS (w : World) (m lo hi : Nat) (h1 : lo ≤ w.heap.size) (h2 : w.heap.size < hi) : HasS cxV true w.heap.size lo hi (w.alloc (.cells (zerosV (.complex .f32 0 0) m) 28)) (.slice (some ⟨w.heap.size, 0, none⟩) m m) (List.replicate m (0, 0)) := by
  have hF : Filled (w.alloc (.cells (zerosV (.complex .f32 0 0) m) 28)) w.heap.size 28 m m (fun _ => .complex .f32 0 0) :=
    ⟨zerosV (.complex .f32 0 0) m, heap_alloc_new _ _, by simp [zerosV], fun j hj => by simp [zerosV, hj]⟩
  have := Filled.hasS (val := cxV) (xs := List.replicate m ((0, 0) : Cx)) (lo := lo) (hi := hi) (w := w.alloc (.cells (zerosV (.complex .f32 0 0) m) 28)) (g := w.heap.size) (e := 28) (f := fun _ => .complex .f32 0 0) (by rw [List.length_replicate]; exact hF)
    (fun j x hj => by obtain ⟨_, h⟩ := List.getElem?_eq_some_iff.1 hj; simp at h; rw [← h]; rfl) h1 h2
  rw [List.length_replicate] at this
  exact this

set_option maxRecDepth 100000 in
theorem impl_newPool (n : Int) (w : World) : Calls Try.prog 45 #[.int .i64 n] w (GivesP0 (poolO n) w) := by
  unfold poolO
  by_cases h0 : n < 0
  · rw [if_neg (by omega)]
    go_enter Try.func45, Try.ntmps45
    go_wp2
    exact bodyPost_ret (v := .tuple #[.agg #[.slice none 0 0, .slice none 0 0], .bool false]) (by simp [results, Try.results45, go_sem]) rfl ⟨_, rfl, HasP0.none_ _ _ _ _, (Span.refl _ _ _).alloc _⟩
  · by_cases h1 : n ≤ 256
    · obtain ⟨m, rfl⟩ := Int.eq_ofNat_of_zero_le (show 0 ≤ n by omega)
      rw [if_pos (by omega)]
      have i0 : decide ((m : Int) < 0) = false := by rw [decide_eq_false_iff_not]; omega
      have i1 : decide ((256 : Int) < (m : Int)) = false := by rw [decide_eq_false_iff_not]; omega
      have hmk := run_make_zeros (P := Try.prog) (w.alloc (.cells #[.slice none 0 0, .slice none 0 0] 43)) 23 28 (.complex .f32 0 0) 8 Try.underlying23 info_c64 rfl m (by omega) (by omega)
      go_enter Try.func45, Try.ntmps45
      go_wp2_with fail
      have HZ := Lib.hid (zeros_hasS (w.alloc (.cells #[.slice (some ⟨w.heap.size + 1, 0, none⟩) m m, .slice none 0 0] 43)) m (w.heap.size + 1) (w.heap.size + 2) (by simp) (by simp))
      have HX := (Box.new w (.slice (some ⟨w.heap.size + 1, 0, none⟩) m m) (.slice none 0 0) 43).alloc (.cells (zerosV (.complex .f32 0 0) m) 28)
      rw [show (w.alloc (.cells #[.slice (some ⟨w.heap.size + 1, 0, none⟩) m m, .slice none 0 0] 43)).heap.size = w.heap.size + 1 by simp] at HZ
      refine bodyPost_ret (v := .tuple #[.agg #[.slice (some ⟨w.heap.size + 1, 0, none⟩) m m, .slice none 0 0], .bool true]) (by simp [results, Try.results45, go_sem, HX.2.1, HX.2.2.1]) rfl ⟨_, rfl, ?_, ((Span.refl 0 0 w).alloc _).alloc _⟩
      exact HasP0.weak (lo := w.heap.size + 1) (hi := w.heap.size + 2) ⟨w.heap.size + 1, _, rfl, HZ.out⟩ (by omega) (.inl (by simp))
    · rw [if_neg (by omega)]
      have i0 : decide (n < 0) = false := by rw [decide_eq_false_iff_not]; omega
      have i1 : decide (256 < n) = true := by rw [decide_eq_true_iff]; omega
      go_enter Try.func45, Try.ntmps45
      go_wp2
      exact bodyPost_ret (v := .tuple #[.agg #[.slice none 0 0, .slice none 0 0], .bool false]) (by simp [results, Try.results45, go_sem]) rfl ⟨_, rfl, HasP0.none_ _ _ _ _, (Span.refl _ _ _).alloc _⟩

set_option maxRecDepth 100000 in
theorem spec_newPool (n : Int) (w : World) : Calls Try.prog 44 #[.int .i64 n] w (GivesP0 (poolO n) w) := by
  unfold poolO
  by_cases h1 : 0 ≤ n ∧ n ≤ 256
  · obtain ⟨m, rfl⟩ := Int.eq_ofNat_of_zero_le (show 0 ≤ n by omega)
    rw [if_pos (by omega)]
    have i0 : Hid (decide ((0 : Int) ≤ (m : Int) ∧ (m : Int) ≤ 256) = true) := by unfold Hid; rw [decide_eq_true_iff]; omega
    have hmk := run_make_zeros (P := Try.prog) (w.alloc (.cells #[.slice none 0 0, .slice none 0 0] 43)) 23 28 (.complex .f32 0 0) 8 Try.underlying23 info_c64 rfl m (by omega) (by omega)
    go_enter Try.func44, Try.ntmps44
    go_wp2_with fail
    refine (l1In_any _ _ _ _).mono ?_
    rintro _ _ ⟨rfl, rfl⟩
    rw [i0.out]
    go_wp2_with fail
    have HZ := Lib.hid (zeros_hasS (w.alloc (.cells #[.slice (some ⟨w.heap.size + 1, 0, none⟩) m m, .slice none 0 0] 43)) m (w.heap.size + 1) (w.heap.size + 2) (by simp) (by simp))
    have HX := (Box.new w (.slice (some ⟨w.heap.size + 1, 0, none⟩) m m) (.slice none 0 0) 43).alloc (.cells (zerosV (.complex .f32 0 0) m) 28)
    rw [show (w.alloc (.cells #[.slice (some ⟨w.heap.size + 1, 0, none⟩) m m, .slice none 0 0] 43)).heap.size = w.heap.size + 1 by simp] at HZ
    refine bodyPost_ret (v := .tuple #[.agg #[.slice (some ⟨w.heap.size + 1, 0, none⟩) m m, .slice none 0 0], .bool true]) (by simp [results, Try.results44, go_sem, HX.2.1, HX.2.2.1]) rfl ⟨_, rfl, ?_, ((Span.refl 0 0 w).alloc _).alloc _⟩
    exact HasP0.weak (lo := w.heap.size + 1) (hi := w.heap.size + 2) ⟨w.heap.size + 1, _, rfl, HZ.out⟩ (by omega) (.inl (by simp))
  · rw [if_neg h1]
    have b3 : Hid (decide ((0 : Int) ≤ n ∧ n ≤ 256) = false) := by unfold Hid; rw [decide_eq_false_iff_not]; omega
    clear h1
    go_enter Try.func44, Try.ntmps44
    go_wp2_with fail
    refine (l1In_any _ _ _ _).mono ?_
    rintro _ _ ⟨rfl, rfl⟩
    rw [b3.out]
    go_wp2
    exact bodyPost_ret (v := .tuple #[.agg #[.slice none 0 0, .slice none 0 0], .bool false]) (by simp [results, Try.results44, go_sem]) rfl ⟨_, rfl, HasP0.none_ _ _ _ _, (Span.refl _ _ _).alloc _⟩

theorem eqLeaseS_nil (w : World) : Calls Try.prog 85 #[.slice none 0 0, .slice none 0 0] w fun e w' => e = .returned (.bool true) ∧ w = w' := by
  go_enter Try.func85, Try.ntmps85
  go_wp2
  go_loop [5] (fun i => i = .int .i64 0) (fun _ => 0)
  case atStart => rfl
  case round =>
    obtain rfl := hrel
    go_wp2
    go_ret
    exact ⟨rfl, rfl⟩
theorem markLeaseS_nil (k : Int) (w : World) : Calls Try.prog 87 #[.slice none 0 0, .int .i64 k] w fun e w' => e = .returned (.int .i64 k) ∧ w = w' := by
  go_enter Try.func87, Try.ntmps87
  go_wp2
  go_loop [1, 5] (fun q i => q = .int .i64 k ∧ i = .int .i64 0) (fun _ _ => 0)
  case atStart => exact ⟨rfl, rfl⟩
  case round =>
    obtain ⟨rfl, rfl⟩ := hrel
    go_wp2
    go_ret
    exact ⟨rfl, rfl⟩
theorem heldLeaseS_nil (k : Int) (w : World) : Calls Try.prog 89 #[.slice none 0 0, .int .i64 k] w fun e w' => e = .returned (.int .i64 k) ∧ w = w' := by
  go_enter Try.func89, Try.ntmps89
  go_wp2
  go_loop [1, 5] (fun q i => q = .int .i64 k ∧ i = .int .i64 0) (fun _ _ => 0)
  case atStart => exact ⟨rfl, rfl⟩
  case round =>
    obtain ⟨rfl, rfl⟩ := hrel
    go_wp2
    go_ret
    exact ⟨rfl, rfl⟩

set_option maxHeartbeats 1000000 in
theorem eqPool0_true (xs : List Cx) (o o' : Bool) (lo lo' hi hi' : Nat) (v v' : Value) (w : World) (hx : HasP0 o lo hi w v xs) (hx' : HasP0 o' lo' hi' w v' xs) (h1 : xs.length ≤ 4194304) :
    Calls Try.prog 46 #[v, v'] w (True0 w) := by
  obtain ⟨b1, vS, rfl, g1⟩ := hx
  obtain ⟨b1', vS', rfl, g1'⟩ := hx'
  go_enter Try.func46, Try.ntmps46
  go_wp2_with fail
  refine (eqComplex64S_true _ _ _ _ _ _ _ _ _ _ _ _ _ ((g1.alloc _).alloc _) ((g1'.alloc _).alloc _) (SameL.refl _) h1).mono ?_
  rintro _ _ ⟨n, rfl, rfl⟩
  go_wp2_with fail
  refine (eqLeaseS_nil _).mono ?_
  rintro _ _ ⟨rfl, rfl⟩
  go_wp2_with fail
  go_ret
  exact ⟨rfl, (((Span.refl _ _ _).alloc _).alloc _).drewN _⟩

/-- What marking a pool gives. -/
def MarksP0 (lo hi : Nat) (v : Value) (xs : List Cx) (n k : Nat) (w : World) (e : Ending) (w' : World) : Prop :=
  e = .returned (.int .i64 ((k + n : Nat) : Int)) ∧ HasP0 true lo hi w' v xs ∧ Span lo hi w w'

set_option maxHeartbeats 1000000 in
theorem markPool0_any (xs : List Cx) (lo hi k : Nat) (v : Value) (w : World) (hx : HasP0 true lo hi w v xs) (hhi : hi ≤ w.heap.size) (h1 : xs.length ≤ 2097152) (hk : k ≤ 2097152) :
    Calls Try.prog 47 #[v, .int .i64 (k : Int)] w (MarksP0 lo hi v (marksC xs.length k) xs.length k w) := by
  obtain ⟨b1, vS, rfl, g1⟩ := hx
  go_enter Try.func47, Try.ntmps47
  go_wp2_with fail
  refine (markComplex64S_any _ b1 lo hi k _ _ (g1.alloc _) (by omega) (by omega)).mono ?_
  rintro _ w1 ⟨rfl, m1, s1, s1', z1⟩
  have cb : w1.cell? ⟨w.heap.size, 1, none⟩ = some (.slice none 0 0) := by
    have := s1'.block w.heap.size (by simp) (by omega)
    rw [World.cell?_of_block (w := w.alloc (.cells #[vS, .slice none 0 0] 43)) (a := ⟨w.heap.size, 1, none⟩) this, World.cell?_alloc_new]; rfl
  have sA : Span lo hi w w1 := s1'.after ((Span.refl _ _ _).alloc _)
  clear s1 s1' z1
  go_wp2_with fail
  refine (markLeaseS_nil _ _).mono ?_
  rintro _ _ ⟨rfl, rfl⟩
  go_wp2_with fail
  go_ret
  exact ⟨rfl, ⟨b1, vS, rfl, m1⟩, sA⟩

set_option maxHeartbeats 1000000 in
theorem heldPool0_any (n : Nat) (o : Bool) (lo hi k : Nat) (v : Value) (w : World) (hx : HasP0 o lo hi w v (marksC n k)) (h1 : n ≤ 2097152) (hk : k ≤ 2097152) :
    Calls Try.prog 48 #[v, .int .i64 (k : Int)] w (Num0 ((k + n : Nat) : Int) w) := by
  obtain ⟨b1, vS, rfl, g1⟩ := hx
  go_enter Try.func48, Try.ntmps48
  go_wp2_with fail
  refine (heldComplex64S_any n k o b1 lo hi _ _ (g1.alloc _) (by omega) (by omega)).mono ?_
  rintro _ _ ⟨rfl, rfl⟩
  go_wp2_with fail
  refine (heldLeaseS_nil _ _).mono ?_
  rintro _ _ ⟨rfl, rfl⟩
  go_wp2_with fail
  go_ret
  exact ⟨rfl, (Span.refl _ _ _).alloc _⟩

end Go.Proofs.Ythcccliiokckjaa
