/- An append of whatever slice; what a block and all behind another one may turn. -/
import Derived.Test.YtfafkdpefdpnkaaJq23
import Derived.Outline
namespace Go.Proofs.Ytfafkdpefdpnkaa
open Go.RowKit

theorem wpList_append_any {P : Program} {w : World} {α : Type} {val : α → Value} (h1 : ∀ a, (val a).oneCell' = true) {ops : Array Oper} {rest : List Oper} {o : Oper} {a : Act} {Q : Exit → Act → World → Prop} (hgd : o.guard = none) (s x : Operand) (t : TypeId)
    (ho : o.op = .call { callee := .builtin .append, args := #[s, x], argTypes := #[t, t] })
    (base : Nat) (e : TypeId) (i : TypeInfo) (z : Value) (bytes : Nat) (ht : P.underlying t = some (.slice e)) (hi : P.info? e = some i) (hz : i.zero = some z)
    (hsize : i.size = 1) (hby : i.bytes = bytes) (hzs : z.cells.size = 1)
    (v : Value) (n : Nat) (ys : List Value) (hs : a.eval s = v) (hown : w.ownsRow base e 1 v n ys)
    {own : Bool} {b lo hi' : Nat} {vx : Value} {xs : List α} (hxv : HasS val own b lo hi' w vx xs) (hx : a.eval x = vx)
    (h63 : n + xs.length ≤ maxLen) (hbytes : (n + xs.length) * bytes ≤ 140737488355328) (hbase : base ≤ w.heap.size)
    (h : ∀ v' w', w'.ownsRow base e 1 v' (n + xs.length) (ys ++ xs.map val) → w.grownBy w' v.ownBlock → (v'.ownBlock = v.ownBlock ∨ v'.ownBlock = some w.heap.size) → wpList P ops Q rest (a.put o.dst v') w') :
    wpList P ops Q (o :: rest) a w := by
  refine wpList_plain hgd fun K hK => ?_
  obtain ⟨v', w', hr, h2, h3, h4⟩ := run_append_any (P := P) h1 w base t o.type e i z bytes ht hi hz hsize hby hzs v n ys hown hxv h63 hbytes hbase
  unfold Oper.wp execOp
  simp only [ho, resolve, invoke, builtin, Sem.run_bind, Sem.run_pure, Result.andThen_ok, List.map_toArray, List.map_cons, List.map_nil, hs, hx, hr]
  exact hK _ _ (h v' w' h2 h3 h4)

/-- w' is w but for the block rb, and for the blocks from G on. -/
structure Kp (rb G : Nat) (w w' : World) : Prop where
  os : w'.os = w.os
  tape : w'.tape = w.tape
  output : w'.output = w.output
  size : w.heap.size ≤ w'.heap.size
  block : ∀ k, k < G → k ≠ rb → w'.heap[k]? = w.heap[k]?
theorem Kp.refl (rb G : Nat) (w : World) : Kp rb G w w := ⟨rfl, rfl, rfl, Nat.le_refl _, fun _ _ _ => rfl⟩
theorem Kp.trans {rb G : Nat} {a b c : World} (h : Kp rb G a b) (k : Kp rb G b c) : Kp rb G a c :=
  ⟨k.os.trans h.os, k.tape.trans h.tape, k.output.trans h.output, Nat.le_trans h.size k.size, fun i h1 h2 => (k.block i h1 h2).trans (h.block i h1 h2)⟩
theorem Kp.of_span {rb G : Nat} {w w' : World} (s : Span 0 0 w w') (hG : G ≤ w.heap.size) : Kp rb G w w' :=
  ⟨s.os, s.tape, s.output, s.size, fun k h1 _ => s.block k (by omega) (by omega)⟩
theorem Kp.of_put {rb G : Nat} {w w' : World} (s : Span rb (rb + 1) w w') (hG : G ≤ w.heap.size) : Kp rb G w w' :=
  ⟨s.os, s.tape, s.output, s.size, fun k h1 h2 => s.block k (by omega) (by omega)⟩
theorem Kp.of_grown {rb G : Nat} {w w' : World} {row : Option Nat} (g : w.grownBy w' row) (hG : G ≤ w.heap.size) (hr : ∀ k, row = some k → G ≤ k) : Kp rb G w w' :=
  ⟨g.os, g.tape, g.output, g.size, fun k h1 _ => g.block k (by omega) (fun e => by have := hr k e.symm; omega)⟩
theorem Kp.hasS {α : Type} {val : α → Value} {own : Bool} {b lo hi rb G : Nat} {w w' : World} {v : Value} {xs : List α} (h : Kp rb G w w') (hs : HasS val own b lo hi w v xs) (h1 : b < G ∨ xs.length = 0) (h2 : b ≠ rb ∨ xs.length = 0) : HasS val own b lo hi w' v xs := by
  obtain ⟨A, cap, rfl, hcap, hc⟩ := hs
  refine ⟨A, cap, rfl, hcap, fun hp => ?_⟩
  obtain ⟨off, rfl, g1, g2, g3, g4, g5⟩ := hc hp
  have e := h.block b (by omega) (by omega)
  exact ⟨off, rfl, g1, g2, Nat.lt_of_lt_of_le g3 h.size, fun j x hj => (World.cell?_of_block (w := w) e).trans (g4 j x hj), fun ho j hj => (World.frozen?_of_block (w := w) e).trans (g5 ho j hj)⟩
theorem Kp.below {B rb G : Nat} {W w w' : World} (h : Kp rb G w w') (hb : Below B W w) (h1 : B ≤ rb) (h2 : B ≤ G) : Below B W w' :=
  hb.trans ⟨h.os, h.tape, h.output, h.size, fun k hk => h.block k (by omega) (by omega)⟩

/-- What the two loops keep: the ring in the box rb, what is gone in the slice u. -/
def Going (rb G N : Nat) (all : List Cx) (r : Rn) (u : Value) (wr : World) : Prop :=
  ∃ (A : Option Addr) (p bs : Nat) (gs : List Cx), Bx rb #[.slice A N p, .int .i64 (r.2.1 : Int), .int .i64 (r.2.2 : Int)] wr ∧ VR r ∧ N = r.1.length ∧ HasS cxV true bs 0 wr.heap.size wr (.slice A N p) r.1 ∧
    wr.ownsRow G 35 1 u gs.length (gs.map cxV) ∧ (∀ g, u.ownBlock = some g → bs ≠ g) ∧ gs ++ itsR r = all ∧ G ≤ wr.heap.size ∧ rb < G

theorem going_len {rb G N : Nat} {all : List Cx} {r : Rn} {u : Value} {wr : World} (h : Going rb G N all r u wr) : ∃ gs : List Cx, wr.ownsRow G 35 1 u gs.length (gs.map cxV) ∧ gs.length ≤ all.length := by
  obtain ⟨A, p, bs, gs, _, _, _, _, ho, _, he, _⟩ := h
  exact ⟨gs, ho, by rw [← he]; simp⟩
end Go.Proofs.Ytfafkdpefdpnkaa
