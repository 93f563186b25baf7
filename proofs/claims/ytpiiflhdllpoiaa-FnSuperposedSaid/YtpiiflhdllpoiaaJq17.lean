/- Cables are copied. -/
import Derived.Test.YtpiiflhdllpoiaaJq12
import Derived.Test.YtpiiflhdllpoiaaJq15
import Derived.Outline
namespace Go.Proofs.Ytpiiflhdllpoiaa
open Go.RowKit

/-- All cells of a list, one behind the other. -/
def flatG {α : Type} (fl : α → List Value) (L : List α) : List Value := L.flatMap fl
theorem flatG_length {α : Type} {fl : α → List Value} {s : Nat} (hf : ∀ x, (fl x).length = s) : ∀ L : List α, (flatG fl L).length = L.length * s
  | [] => by simp [flatG]
  | x :: L => by
    show (fl x ++ flatG fl L).length = _
    rw [List.length_append, flatG_length hf L, hf, List.length_cons, Nat.succ_mul]; omega
theorem flatG_get {α : Type} {fl : α → List Value} {s : Nat} (hf : ∀ x, (fl x).length = s) : ∀ (L : List α) (j : Nat) (x : α) (i : Nat), L[j]? = some x → i < s → (flatG fl L)[j * s + i]? = (fl x)[i]?
  | [], j, x, i, h, _ => by simp at h
  | y :: L, 0, x, i, h, hi => by
    simp at h; subst h
    show (fl y ++ flatG fl L)[0 * s + i]? = _
    rw [Nat.zero_mul, Nat.zero_add, List.getElem?_append_left (by rw [hf]; exact hi)]
  | y :: L, j + 1, x, i, h, hi => by
    simp at h
    have := flatG_get hf L j x i h hi
    show (fl y ++ flatG fl L)[(j + 1) * s + i]? = _
    rw [List.getElem?_append_right (by rw [hf, Nat.succ_mul]; omega), hf, show (j + 1) * s + i - s = j * s + i by rw [Nat.succ_mul]; omega]
    exact this
theorem flatG_at {α : Type} {fl : α → List Value} {s : Nat} (hs : 0 < s) (hf : ∀ x, (fl x).length = s) {L : List α} {j : Nat} {u : Value} (h : (flatG fl L)[j]? = some u) : ∃ x, L[j / s]? = some x ∧ (fl x)[j % s]? = some u := by
  have hj := (List.getElem?_eq_some_iff.1 h).1
  rw [flatG_length hf] at hj
  have hq : j / s < L.length := (Nat.div_lt_iff_lt_mul hs).2 hj
  obtain ⟨x, hx⟩ := getElem?_some hq
  refine ⟨x, hx, ?_⟩
  rw [← flatG_get hf L (j / s) x (j % s) hx (Nat.mod_lt _ hs), Nat.div_add_mod' j s]
  exact h
theorem cab_len (c : Nat × Nat) : (cabC c).length = 2 := rfl
theorem flatG_cab {xs : List (Nat × Nat)} {u : Value} (h : u ∈ flatG cabC xs) : u.oneCell' = true := by
  obtain ⟨c, _, hc⟩ := List.mem_flatMap.1 h
  simp only [cabC, List.mem_cons, List.not_mem_nil, or_false] at hc
  rcases hc with rfl | rfl <;> rfl

theorem ownsRow_hasC {α : Type} {fl : α → List Value} {s : Nat} (hs : 0 < s) (hf : ∀ x, (fl x).length = s) {w : World} {base : Nat} {e : TypeId} {v : Value} {n : Nat} {L : List α} (h : w.ownsRow base e s v n (flatG fl L)) :
    ∃ b, HasC s fl b base w.heap.size w v L ∧ n = L.length ∧ (0 < L.length → v.ownBlock = some b) := by
  obtain ⟨hl, h | ⟨g, cap, cur, rfl, hg, hh, hn, hm, hc, ht⟩⟩ := h
  · obtain ⟨rfl, rfl⟩ := h
    have : L = [] := by
      cases L with
      | nil => rfl
      | cons a l => rw [flatG_length hf, List.length_cons, Nat.succ_mul] at hl; omega
    subst this
    exact ⟨0, HasC.empty _ _ _ _ _ _ _ _, rfl, fun h => absurd h (by simp)⟩
  · rw [flatG_length hf] at hl
    have hnl : n = L.length := (Nat.eq_of_mul_eq_mul_right hs hl).symm
    have hlt : g < w.heap.size := (Array.getElem?_eq_some_iff.1 hh).1
    refine ⟨g, ⟨_, cap, by rw [hnl], by omega, fun _ => ⟨0, rfl, hg, hlt, hlt, fun j x i u hj hi => ?_⟩⟩, hnl, fun _ => rfl⟩
    have hi' : i < s := by have := (List.getElem?_eq_some_iff.1 hi).1; rw [hf] at this; exact this
    have hx := (flatG_get hf L j x i hj hi').trans hi
    have hj' := (List.getElem?_eq_some_iff.1 hx).1
    rw [flatG_length hf] at hj'
    rw [← ht, List.getElem?_take_of_lt (by rw [hnl]; omega)] at hx
    unfold World.cell?
    simp only [hh, Nat.zero_add]
    simpa using hx

theorem HasC.news {α : Type} {fl : α → List Value} {s : Nat} (hs : 0 < s) (hf : ∀ x, (fl x).length = s) {b lo hi off n c : Nat} {w : World} {L : List α} (h : HasC s fl b lo hi w (.slice (some ⟨b, off, none⟩) n c) L) (o : Obj) :
    ∀ j u, (flatG fl L)[j]? = some u → (w.alloc o).cell? ((⟨b, off, none⟩ : Addr).add j) = some u := by
  intro j u hj
  obtain ⟨x, h1, h2⟩ := flatG_at hs hf hj
  have h3 := (h.span ((Span.refl 0 0 w).alloc o) (.inl (Nat.le_refl _))).at_ h1 h2
  rw [Addr.add_lit]
  rw [Nat.add_assoc, Nat.div_add_mod' j s] at h3
  exact h3

theorem info_cab : (Try.prog.info? 40).map (fun i => (i.zero, i.size, i.bytes)) = some (some (.agg #[.int .i64 0, .int .i64 0]), 2, 16) := by kernel_rfl

/-- A list of cables of its own. -/
def GivesCab (xs : List (Nat × Nat)) (w : World) (e : Ending) (w' : World) : Prop :=
  ∃ v b, e = .returned v ∧ HasC 2 cabC b w.heap.size w'.heap.size w' v xs ∧ Span 0 0 w w'

set_option maxRecDepth 100000 in
set_option maxHeartbeats 1000000 in
theorem cloneCab_any (xs : List (Nat × Nat)) (b lo hi : Nat) (v : Value) (w : World) (hx : HasC 2 cabC b lo hi w v xs) (hlen : xs.length ≤ 4194304) :
    Calls Try.prog 38 #[v] w (GivesCab xs w) := by
  have HX := Lib.hid hx
  obtain ⟨ip, hip, hzp, hsp, hbp⟩ := info_parts info_cab
  obtain ⟨A, cap, rfl, hcap, hc⟩ := hx
  obtain ⟨len, hl⟩ : ∃ len, len = xs.length := ⟨_, rfl⟩
  have HL := Lib.hid hl
  rw [← hl] at hcap hlen HX ⊢
  cases A with
  | none =>
    have h0 : len = 0 := by
      by_cases h : 0 < len
      · obtain ⟨off, e, _⟩ := hc (by omega)
        cases e
      · omega
    subst h0
    have HE : Hid (xs = []) := by cases xs with | nil => exact rfl | cons a l => simp at hl
    clear hc hl
    have hq := Lib.run_eql_slice_nil (P := Try.prog) w 41 40 none 0 cap 0 0 Try.underlying41
    go_enter Try.func38, Try.ntmps38
    go_wp2
    go_ret
    refine ⟨_, 0, rfl, ?_, Span.refl _ _ _⟩
    rw [HE.out]; exact HasC.empty _ _ _ _ _ _ _ _
  | some ad =>
    have HO := Lib.hid (World.ownsRow_made (base := w.heap.size) (e := 40) (size := 2) w #[] 0 (Nat.le_refl _) (Nat.zero_le _) rfl)
    have HN : Hid (∀ (o : Obj) (j : Nat) u, (flatG cabC xs)[j]? = some u → (w.alloc o).cell? (ad.add j) = some u) := by
      unfold Hid
      intro o j u hj
      have hp : 0 < xs.length := by
        have := (List.getElem?_eq_some_iff.1 hj).1
        rw [flatG_length cab_len] at this; omega
      obtain ⟨off, e, _⟩ := hc hp
      cases e
      exact HX.out.news (by decide) cab_len o j u hj
    clear hc hl
    have hq := Lib.run_eql_slice_nil (P := Try.prog) w 41 40 (some ad) len cap 0 0 Try.underlying41
    go_enter Try.func38, Try.ntmps38
    go_wp2_with (at_builtin; go_loud ((refine wpList_append_own _ rfl _ _ 41 rfl w.heap.size 40 ip (.agg #[.int .i64 0, .int .i64 0]) 2 16 Try.underlying41 hip hzp hsp hbp rfl (by decide) _ _ _ rfl HO.out ad len cap (flatG cabC xs) rfl ?c1 ?c2 ?c3 ?c4 ?c5 ?c6 ?_); (case c1 => rw [flatG_length cab_len, ← HL.out]); (case c2 => exact HN.out _); (case c3 => exact fun u hu => flatG_cab hu); (case c4 => unfold maxLen; omega); (case c5 => omega); (case c6 => simp); intro v1 w1 ho hgr _; rw [Nat.zero_add, List.nil_append] at ho; obtain ⟨A1, q1, rfl⟩ := ownsRow_slice ho; have HO1 := Lib.hid ho; have HG1 := Lib.hid hgr; clear ho hgr))
    go_ret
    have ho := HO1.out
    obtain ⟨b', h1, _, _⟩ := ownsRow_hasC (by decide) cab_len ho
    exact ⟨_, b', rfl, h1, ((Span.refl _ _ _).alloc _).grown HG1.out (fun k hk => by have hk' : some w.heap.size = some k := hk; injection hk' with hk'; right; omega)⟩
end Go.Proofs.Ytpiiflhdllpoiaa
