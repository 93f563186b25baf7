/- What the laws of pools have in common: bytes of the code, results of either form. -/
import Derived.Test.YtlhocjoncblocaaJq53
import Derived.Test.YtlhocjoncblocaaJq46
namespace Go.Proofs.Ytlhocjoncblocaa
open Go.RowKit

set_option maxHeartbeats 400000 in
/-- The same byte each time, as long as old memory stays. -/
theorem at_fix (A : Option Addr) (n c : Nat) (i : Int) (w : World) (h0 : 0 ≤ i) (h1 : i ≤ 1000) (hn : n ≤ 1048576) (h : HasBy w.heap.size w A n) :
    ∃ v : Int, 0 ≤ v ∧ v ≤ 255 ∧ ∀ w', Span 0 0 w w' → Calls Try.prog 13 #[.slice A n c, .int .i64 i] w' fun e w'' => e = .returned (.int .i64 v) ∧ w' = w'' := by
  obtain ⟨k, rfl⟩ := Int.eq_ofNat_of_zero_le h0
  have hn' : (n : Int) ≤ 1048576 := by omega
  have h1' : (k : Int) ≤ 1000 := h1
  clear hn h0 h1
  by_cases hlt : k < n
  · obtain ⟨b, off, rfl, hb, hcell⟩ := h (by omega)
    obtain ⟨u, u0, u1, hu⟩ := hcell k hlt
    refine ⟨u, u0, u1, fun w' s => ?_⟩
    have hu' : w'.cell? ⟨b, off + k, none⟩ = some (.int .u8 u) := ((s.cells (Nat.le_refl _)).1 b _ hb).trans hu
    clear hcell h s hu hb
    go_enter Try.func13, Try.ntmps13
    go_wp2_with fail
    go_ret
    exact ⟨rfl, rfl⟩
  · have hge : n ≤ k := by omega
    clear h
    refine ⟨((k : Int) * 37 + (n : Int) * 11) % 256, by omega, by omega, fun w' s => ?_⟩
    clear s
    go_enter Try.func13, Try.ntmps13
    go_wp2_with fail
    go_ret
    exact ⟨rfl, rfl⟩

theorem VP.none_ : VP ([], []) := ⟨by simp, by simp, (fun x hx => by cases hx), (fun i => by rw [cnt_nil]; omega)⟩

theorem GivesQ3.ok {o : Option (Pl × Nat)} {w : World} {e : Ending} {w' : World} (h : GivesQ3 o w e w') (hv : ∀ q r, o = some (q, r) → VP q) :
    ∃ (q : Pl) (id : Nat) (A : Option Addr) (c : Nat) (A' : Option Addr) (c' : Nat), e = .returned (.tuple #[.agg #[.slice A q.1.length c, .slice A' q.2.length c'], .int .i64 (id : Int), .bool o.isSome]) ∧ ((∀ q' r, o = some (q', r) → q' = q ∧ r = id) ∧ (o = none → id = 0)) ∧ VP q ∧ HasP w.heap.size w'.heap.size w' (.agg #[.slice A q.1.length c, .slice A' q.2.length c']) q ∧ Span 0 0 w w' := by
  obtain ⟨h1, h2⟩ := h
  cases o with
  | none => exact ⟨([], []), 0, none, 0, none, 0, h1, ⟨(fun q r hq => by cases hq), fun _ => rfl⟩, VP.none_, HasP.none_ _ _ _, h2⟩
  | some qr =>
    obtain ⟨q, r⟩ := qr
    obtain ⟨v, rfl, hp⟩ := h1
    obtain ⟨A, c, A', c', rfl⟩ := hp.form
    exact ⟨q, r, A, c, A', c', rfl, ⟨(fun q' r' hq => by injection hq with hq; injection hq with a b; exact ⟨a.symm, b.symm⟩), fun hq => by cases hq⟩, hv q r rfl, hp, h2⟩

theorem WinS.form {o : Option (List Cx)} {w : World} {e : Ending} {w' : World} (h : WinS o w e w') :
    ∃ (A : Option Addr) (n c b : Nat), e = .returned (.tuple #[.slice A n c, .bool o.isSome]) ∧ (∀ xs, o = some xs → HasS cxV true b w.heap.size w'.heap.size w' (.slice A n c) xs ∧ n = xs.length) ∧ Span 0 0 w w' := by
  obtain ⟨h1, h2⟩ := h
  cases o with
  | none => exact ⟨none, 0, 0, 0, h1, (fun xs hx => by cases hx), h2⟩
  | some ys =>
    obtain ⟨v, b, rfl, hs⟩ := h1
    obtain ⟨A, c, rfl, _⟩ := id hs
    exact ⟨A, ys.length, c, b, rfl, (fun xs hx => by cases hx; exact ⟨hs, rfl⟩), h2⟩
/-- A guarded operation whose guard is met. -/
theorem wpList_unguard {P : Program} {ops : Array Oper} {Q : Exit → Act → World → Prop} {a : Act} {w : World} {rest : List Oper} {o : Oper} (hw : Region.wanted o (yielded ops a.tmps) = true) (h : wpList P ops Q ({ o with guard := none } :: rest) a w) : wpList P ops Q (o :: rest) a w := by
  unfold wpList at h ⊢
  rw [if_pos hw]
  rw [if_pos (by simp [Region.wanted])] at h
  exact h

theorem wpList_append_anyG {P : Program} {w : World} {α : Type} {val : α → Value} (h1 : ∀ a, (val a).oneCell' = true) {ops : Array Oper} {rest : List Oper} {o : Oper} {a : Act} {Q : Exit → Act → World → Prop} (hw : Region.wanted o (yielded ops a.tmps) = true) (s x : Operand) (t : TypeId)
    (ho : o.op = .call { callee := .builtin .append, args := #[s, x], argTypes := #[t, t] })
    (base : Nat) (e : TypeId) (i : TypeInfo) (z : Value) (bytes : Nat) (ht : P.underlying t = some (.slice e)) (hi : P.info? e = some i) (hz : i.zero = some z)
    (hsize : i.size = 1) (hby : i.bytes = bytes) (hzs : z.cells.size = 1)
    (v : Value) (n : Nat) (ys : List Value) (hs : a.eval s = v) (hown : w.ownsRow base e 1 v n ys)
    {own : Bool} {b lo hi' : Nat} {vx : Value} {xs : List α} (hxv : HasS val own b lo hi' w vx xs) (hx : a.eval x = vx)
    (h63 : n + xs.length ≤ maxLen) (hbytes : (n + xs.length) * bytes ≤ 140737488355328) (hbase : base ≤ w.heap.size)
    (h : ∀ v' w', w'.ownsRow base e 1 v' (n + xs.length) (ys ++ xs.map val) → w.grownBy w' v.ownBlock → (v'.ownBlock = v.ownBlock ∨ v'.ownBlock = some w.heap.size) → wpList P ops Q rest (a.put o.dst v') w') :
    wpList P ops Q (o :: rest) a w := by
  refine wpList_step fun K hK => ?_
  rw [if_pos hw]
  obtain ⟨v', w', hr, h2, h3, h4⟩ := run_append_any (P := P) h1 w base t o.type e i z bytes ht hi hz hsize hby hzs v n ys hown hxv h63 hbytes hbase
  unfold Oper.wp execOp
  simp only [ho, resolve, invoke, builtin, Sem.run_bind, Sem.run_pure, Result.andThen_ok, List.map_toArray, List.map_cons, List.map_nil, hs, hx, hr]
  exact hK _ _ (h v' w' h2 h3 h4)
end Go.Proofs.Ytlhocjoncblocaa
