/- The kinds of units, and what a step may change: the blocks of a list, and no others. The unit of any module. -/
import Derived.Test.YtkjlodoppmipfaaGreatJg15
import Derived.Shelf.Abstract
import Derived.Outline
namespace Go.Proofs.YtkjlodoppmipfaaGreat
section
open Go.RowKit

/-- Nothing changes but the blocks of a list, and new ones. -/
structure Keeps (W : List Nat) (w w' : World) : Prop where
  os : w'.os = w.os
  tape : w'.tape = w.tape
  output : w'.output = w.output
  size : w.heap.size ≤ w'.heap.size
  block : ∀ k, k < w.heap.size → k ∉ W → w'.heap[k]? = w.heap[k]?
theorem Keeps.refl (W : List Nat) (w : World) : Keeps W w w := ⟨rfl, rfl, rfl, Nat.le_refl _, fun _ _ _ => rfl⟩
theorem Keeps.trans {W : List Nat} {w w1 w2 : World} (h : Keeps W w w1) (h' : Keeps W w1 w2) : Keeps W w w2 :=
  ⟨h'.os.trans h.os, h'.tape.trans h.tape, h'.output.trans h.output, Nat.le_trans h.size h'.size, fun k hk hn => (h'.block k (Nat.lt_of_lt_of_le hk h.size) hn).trans (h.block k hk hn)⟩
theorem Keeps.weak {W V : List Nat} {w w1 : World} (h : Keeps W w w1) (hs : ∀ k ∈ W, k ∈ V ∨ w.heap.size ≤ k) : Keeps V w w1 :=
  ⟨h.os, h.tape, h.output, h.size, fun k hk hn => h.block k hk fun hm => by
    rcases hs k hm with h1 | h1
    · exact hn h1
    · omega⟩
theorem Keeps.of {W : List Nat} {lo hi : Nat} {w w1 : World} (s : Span lo hi w w1) (h : ∀ k, lo ≤ k → k < hi → k ∈ W) : Keeps W w w1 :=
  ⟨s.os, s.tape, s.output, s.size, fun k hk hn => s.block k hk fun hm => hn (h k hm.1 hm.2)⟩
theorem Keeps.span {W : List Nat} {w w1 : World} (s : Span 0 0 w w1) : Keeps W w w1 := Keeps.of s (fun _ _ h => absurd h (Nat.not_lt_zero _))
theorem Keeps.undrawn {W : List Nat} {n : Nat} {a c : World} (h : Keeps W (a.drewN n) c) : Keeps W a c := ⟨h.os, h.tape, h.output, h.size, h.block⟩
theorem Keeps.alloc {W : List Nat} {w w1 : World} (h : Keeps W w w1) (o : Obj) : Keeps W w (w1.alloc o) := h.trans (Keeps.span ((Span.refl 0 0 w1).alloc o))
theorem Keeps.setCell {W : List Nat} {w w1 : World} (h : Keeps W w w1) (b i : Nat) (hb : b ∈ W) (v : Value) : Keeps W w (w1.setCell ⟨b, i, none⟩ v) :=
  h.trans (Keeps.of ((Span.refl b (b + 1) w1).setCell (p := ⟨b, i, none⟩) (.inl ⟨Nat.le_refl _, Nat.lt_succ_self _⟩) v) (fun k h1 h2 => by
    have : k = b := by omega
    rw [this]; exact hb))
theorem Span.of_keeps {w w1 : World} (h : Keeps [] w w1) : Span 0 0 w w1 := ⟨h.os, h.tape, h.output, h.size, fun k hk _ => h.block k hk (by simp)⟩
/-- A list of blocks that are all new. -/
theorem Keeps.fresh {W : List Nat} {w w0 w1 : World} (h : Keeps W w0 w1) (s : Span 0 0 w w0) (hn : ∀ k ∈ W, w.heap.size ≤ k) : Span 0 0 w w1 :=
  ⟨h.os.trans s.os, h.tape.trans s.tape, h.output.trans s.output, Nat.le_trans s.size h.size, fun k hk _ => (h.block k (Nat.lt_of_lt_of_le hk s.size) (fun hm => by have := hn k hm; omega)).trans (s.block k hk (by omega))⟩
theorem Bx.keeps {b : Nat} {us : Array Value} {W : List Nat} {w w1 : World} (h : Bx b us w) (k : Keeps W w w1) (hb : b ∉ W) : Bx b us w1 := by
  have e := k.block b h.1 hb
  exact ⟨Nat.lt_of_lt_of_le h.1 k.size, fun i => (World.cell?_of_block (w := w) (a := ⟨b, i, none⟩) e).trans (h.2.1 i), fun i => (World.frozen?_of_block (w := w) (a := ⟨b, i, none⟩) e).trans (h.2.2 i)⟩
theorem HasS.keeps {α : Type} {val : α → Value} {own : Bool} {b lo hi : Nat} {W : List Nat} {w w1 : World} {v : Value} {xs : List α} (h : HasS val own b lo hi w v xs) (k : Keeps W w w1) (hb : b ∉ W) : HasS val own b lo hi w1 v xs :=
  h.same (fun hl => ⟨Nat.lt_of_lt_of_le hl k.size, k.block b hl hb⟩)
theorem HasC.keeps {α : Type} {s : Nat} {fl : α → List Value} {b lo hi : Nat} {W : List Nat} {w w1 : World} {v : Value} {L : List α} (h : HasC s fl b lo hi w v L) (k : Keeps W w w1) (hb : b ∉ W) : HasC s fl b lo hi w1 v L := by
  obtain ⟨A, cap, rfl, hcap, hc⟩ := h
  refine ⟨A, cap, rfl, hcap, fun hp => ?_⟩
  obtain ⟨off, rfl, h1, h2, h3, h4⟩ := hc hp
  exact ⟨off, rfl, h1, h2, Nat.lt_of_lt_of_le h3 k.size, fun j x i u hj hi => (World.cell?_of_block (w := w) (a := ⟨b, off + j * s + i, none⟩) (k.block b h3 hb)).trans (h4 j x i u hj hi)⟩

/-- The kinds of units. -/
inductive Kd where
  | source | mixer | gain | delay | sum | slicer | meter | hold
  deriving DecidableEq
def Kd.num : Kd → Int
  | .source => 1 | .mixer => 2 | .gain => 3 | .delay => 4 | .sum => 5 | .slicer => 6 | .meter => 7 | .hold => 8
def Kd.t : Kd → Nat
  | .source => 126 | .mixer => 129 | .gain => 131 | .delay => 134 | .sum => 137 | .slicer => 140 | .meter => 143 | .hold => 145
def Kd.fs : Kd → Nat
  | .source => 146 | .mixer => 151 | .gain => 155 | .delay => 159 | .sum => 167 | .slicer => 171 | .meter => 181 | .hold => 190
def Kd.fm : Kd → Nat
  | .source => 145 | .mixer => 149 | .gain => 154 | .delay => 157 | .sum => 166 | .slicer => 169 | .meter => 179 | .hold => 188
theorem Kd.meth_step (k : Kd) (v : Value) (w : World) : (method 314 k.t v "loop.example/g03223/impl.step").run Tryz.prog w = .ok (k.fs, v) w := by
  cases k <;> kernel_rfl
theorem Kd.meth_module (k : Kd) (v : Value) (w : World) : (method 314 k.t v "loop.example/g03223/impl.module").run Tryz.prog w = .ok (k.fm, v) w := by
  cases k <;> kernel_rfl
theorem Kd.call_step (k : Kd) (args : Array Value) (w : World) : (callFunc k.fs args).run Tryz.prog w = .ok (.enter k.fs args) w := by
  cases k
  · exact enters_of Tryz.func146 (by kernel_rfl) rfl args w
  · exact enters_of Tryz.func151 (by kernel_rfl) rfl args w
  · exact enters_of Tryz.func155 (by kernel_rfl) rfl args w
  · exact enters_of Tryz.func159 (by kernel_rfl) rfl args w
  · exact enters_of Tryz.func167 (by kernel_rfl) rfl args w
  · exact enters_of Tryz.func171 (by kernel_rfl) rfl args w
  · exact enters_of Tryz.func181 (by kernel_rfl) rfl args w
  · exact enters_of Tryz.func190 (by kernel_rfl) rfl args w
theorem Kd.call_module (k : Kd) (args : Array Value) (w : World) : (callFunc k.fm args).run Tryz.prog w = .ok (.enter k.fm args) w := by
  cases k
  · exact enters_of Tryz.func145 (by kernel_rfl) rfl args w
  · exact enters_of Tryz.func149 (by kernel_rfl) rfl args w
  · exact enters_of Tryz.func154 (by kernel_rfl) rfl args w
  · exact enters_of Tryz.func157 (by kernel_rfl) rfl args w
  · exact enters_of Tryz.func166 (by kernel_rfl) rfl args w
  · exact enters_of Tryz.func169 (by kernel_rfl) rfl args w
  · exact enters_of Tryz.func179 (by kernel_rfl) rfl args w
  · exact enters_of Tryz.func188 (by kernel_rfl) rfl args w
/-- A unit, as an interface value: its kind, and the block of its box. -/
def uxV (x : Kd × Nat) : Value := .iface x.1.t (.pointer (some ⟨x.2, 0, none⟩))
/-- What the box of the unit of a module holds. -/
def uC : Kd → Mw → Array Value
  | .source, m => #[.complex .f32 m.t1 m.t2, .complex .f32 m.s1 m.s2]
  | .mixer, m => #[.complex .f32 m.t1 m.t2, .complex .f32 m.s1 m.s2]
  | .gain, m => #[.float .f32 m.lv]
  | .delay, m => #[.slice m.S m.sn m.sp, .int .i64 m.a, .int .i64 m.cnt]
  | .sum, _ => #[]
  | .slicer, m => #[.slice m.P m.pn m.pp, .slice m.L m.ln m.lp, .int .i64 m.c]
  | .meter, m => #[.float .f32 m.lv]
  | .hold, m => #[.complex .f32 m.s1 m.s2, .int .i64 m.c, .int .i64 m.f]
theorem as_delay (v : Value) (w : World) : (Instr.typeAssert (.iface 134 v) 94 134 true).run Tryz.prog w = .ok (.tuple #[v, .bool true]) w := by kernel_rfl
theorem as_other (k : Kd) (h : k ≠ .delay) (v : Value) (w : World) : (Instr.typeAssert (.iface k.t v) 94 134 true).run Tryz.prog w = .ok (.tuple #[.pointer none, .bool false]) w := by
  cases k
  · kernel_rfl
  · kernel_rfl
  · kernel_rfl
  · exact absurd rfl h
  · kernel_rfl
  · kernel_rfl
  · kernel_rfl
  · kernel_rfl
end
section
open Go.RowKit

theorem Bx.new2 (w : World) (o : Obj) (us : Array Value) (t : TypeId) : Bx (w.heap.size + 1) us ((w.alloc o).alloc (.cells us t)) := by
  have := Bx.new (w.alloc o) us t
  rwa [show (w.alloc o).heap.size = w.heap.size + 1 by simp] at this

set_option maxRecDepth 100000 in
set_option maxHeartbeats 4000000 in
theorem unitOf_any (kd : Kd) (m : Mw) (hk : m.k = kd.num) (w : World) :
    Calls Tryz.prog 59 #[.agg #[.int .i64 m.k, .complex .f32 m.t1 m.t2, .complex .f32 m.s1 m.s2, .float .f32 m.lv, .slice m.S m.sn m.sp, .int .i64 m.a, .int .i64 m.cnt, .slice m.P m.pn m.pp, .slice m.L m.ln m.lp, .int .i64 m.c, .int .i64 m.f]] w fun e w' => ∃ g, e = .returned (uxV (kd, g)) ∧ Bx g (uC kd m) w' ∧ w.heap.size ≤ g ∧ Span 0 0 w w' := by
  obtain ⟨k, t1, t2, s1, s2, lv, S, sn, sp, a, cnt, P, pn, pp, L, ln, lp, c, f⟩ := m
  simp only at hk ⊢
  cases kd
  all_goals
    simp only [Kd.num] at hk
    subst hk
    go_enter Tryz.func59, Tryz.ntmps59
    go_wp2_with fail
    go_ret
    refine ⟨_, rfl, ?_, ?_, ((Span.refl _ _ _).alloc _).alloc _⟩
    · exact Bx.new2 w _ _ _
    · simp
end
end Go.Proofs.YtkjlodoppmipfaaGreat
