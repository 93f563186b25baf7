/- Rings and modules in memory: compared, marked, looked at. Modules without a table in memory: compared, marked, looked at. A module is the same as itself: numbers, points, lists, rings, tables. A module is the same as itself: rings, tables, modules. A module is the same as itself. -/
import Derived.Test.YtkjlodoppmipfaaGreatJg11
import Derived.Outline
import Derived.Test.YtkjlodoppmipfaaGreatJg3
import Derived.Test.YtkjlodoppmipfaaGreatJg12
import Derived.Test.YtkjlodoppmipfaaGreatJg6
import Derived.BigQuiet
namespace Go.Proofs.YtkjlodoppmipfaaGreat
section
open Go.RowKit

/-- A ring: its store, At and Count. -/
structure Rg where
  store : List Cx
  at_ : Int
  cnt : Int

def HasR (own : Bool) (lo hi : Nat) (w : World) (v : Value) (r : Rg) : Prop :=
  ∃ b vS, v = .agg #[vS, .int .i64 r.at_, .int .i64 r.cnt] ∧ HasS cxV own b lo hi w vS r.store

theorem HasR.span {own : Bool} {lo hi l r : Nat} {w w' : World} {v : Value} {t : Rg} (h : HasR own lo hi w v t) (hs : Span l r w w') (hd : r ≤ l ∨ hi ≤ l ∨ r ≤ lo) : HasR own lo hi w' v t := by
  obtain ⟨b1, vS, rfl, h1⟩ := h
  exact ⟨b1, vS, rfl, h1.span hs (by omega)⟩
theorem HasR.weak {own : Bool} {lo hi lo' hi' : Nat} {w : World} {v : Value} {t : Rg} (h : HasR own lo hi w v t) (h1 : lo' ≤ lo) (h2 : hi ≤ hi' ∨ w.heap.size ≤ hi') : HasR own lo' hi' w v t := by
  obtain ⟨b1, vS, rfl, g1⟩ := h
  exact ⟨b1, vS, rfl, g1.weak h1 h2⟩
theorem HasR.none_ (own : Bool) (lo hi : Nat) (w : World) : HasR own lo hi w (.agg #[.slice none 0 0, .int .i64 0, .int .i64 0]) ⟨[], 0, 0⟩ :=
  ⟨0, _, rfl, HasS.empty _ _ _ _ _ _ _ _⟩

def SameR (r s : Rg) : Prop := SameL r.store s.store ∧ r.at_ = s.at_ ∧ r.cnt = s.cnt
theorem SameR.refl (r : Rg) : SameR r r := ⟨SameL.refl _, rfl, rfl⟩

/-- What marking a ring gives. -/
def MarksR (lo hi : Nat) (v : Value) (r : Rg) (k : Nat) (w : World) (e : Ending) (w' : World) : Prop :=
  e = .returned (.int .i64 ((k + r.store.length : Nat) : Int)) ∧ HasR true lo hi w' v { r with store := marksC r.store.length k } ∧ Span lo hi w w'
end
section
open Go.RowKit

/-- A module whose table is empty. -/
structure Md where
  kind : Int
  turn : Cx
  state : Cx
  level : Nat
  ring : Rg
  count : Int
  left : Int

def HasM0 (own : Bool) (lo hi : Nat) (w : World) (v : Value) (m : Md) : Prop :=
  ∃ b vS, v = .agg #[.int .i64 m.kind, cxV m.turn, cxV m.state, .float .f32 m.level, vS, .int .i64 m.ring.at_, .int .i64 m.ring.cnt, .slice none 0 0, .slice none 0 0, .int .i64 m.count, .int .i64 m.left] ∧ HasS cxV own b lo hi w vS m.ring.store

theorem HasM0.span {own : Bool} {lo hi l r : Nat} {w w' : World} {v : Value} {t : Md} (h : HasM0 own lo hi w v t) (hs : Span l r w w') (hd : r ≤ l ∨ hi ≤ l ∨ r ≤ lo) : HasM0 own lo hi w' v t := by
  obtain ⟨b1, vS, rfl, h1⟩ := h
  exact ⟨b1, vS, rfl, h1.span hs (by omega)⟩
theorem HasM0.weak {own : Bool} {lo hi lo' hi' : Nat} {w : World} {v : Value} {t : Md} (h : HasM0 own lo hi w v t) (h1 : lo' ≤ lo) (h2 : hi ≤ hi' ∨ w.heap.size ≤ hi') : HasM0 own lo' hi' w v t := by
  obtain ⟨b1, vS, rfl, g1⟩ := h
  exact ⟨b1, vS, rfl, g1.weak h1 h2⟩

def SameM0 (m n : Md) : Prop := m.kind = n.kind ∧ (FE .f32 m.turn.1 n.turn.1 ∧ FE .f32 m.turn.2 n.turn.2) ∧ (FE .f32 m.state.1 n.state.1 ∧ FE .f32 m.state.2 n.state.2) ∧ FE .f32 m.level n.level ∧ SameR m.ring n.ring ∧ m.count = n.count ∧ m.left = n.left
theorem SameM0.refl (m : Md) : SameM0 m m := ⟨rfl, ⟨FE.refl _ _, FE.refl _ _⟩, ⟨FE.refl _ _, FE.refl _ _⟩, FE.refl _ _, SameR.refl _, rfl, rfl⟩


theorem Span.undrawn {lo hi n : Nat} {a c : World} (h : Span lo hi (a.drewN n) c) : Span lo hi a c := ⟨h.os, h.tape, h.output, h.size, h.block⟩

/-- A box of 11 cells. -/
def Box11 (b : Nat) (u0 u1 u2 u3 u4 u5 u6 u7 u8 u9 u10 : Value) (w : World) : Prop := w.cell? ⟨b, 0, none⟩ = some u0 ∧ w.cell? ⟨b, 1, none⟩ = some u1 ∧ w.cell? ⟨b, 2, none⟩ = some u2 ∧ w.cell? ⟨b, 3, none⟩ = some u3 ∧ w.cell? ⟨b, 4, none⟩ = some u4 ∧ w.cell? ⟨b, 5, none⟩ = some u5 ∧ w.cell? ⟨b, 6, none⟩ = some u6 ∧ w.cell? ⟨b, 7, none⟩ = some u7 ∧ w.cell? ⟨b, 8, none⟩ = some u8 ∧ w.cell? ⟨b, 9, none⟩ = some u9 ∧ w.cell? ⟨b, 10, none⟩ = some u10
theorem box11_mk {b : Nat} {u0 u1 u2 u3 u4 u5 u6 u7 u8 u9 u10 : Value} {w : World} (h0 : w.cell? ⟨b, 0, none⟩ = some u0) (h1 : w.cell? ⟨b, 1, none⟩ = some u1) (h2 : w.cell? ⟨b, 2, none⟩ = some u2) (h3 : w.cell? ⟨b, 3, none⟩ = some u3) (h4 : w.cell? ⟨b, 4, none⟩ = some u4) (h5 : w.cell? ⟨b, 5, none⟩ = some u5) (h6 : w.cell? ⟨b, 6, none⟩ = some u6) (h7 : w.cell? ⟨b, 7, none⟩ = some u7) (h8 : w.cell? ⟨b, 8, none⟩ = some u8) (h9 : w.cell? ⟨b, 9, none⟩ = some u9) (h10 : w.cell? ⟨b, 10, none⟩ = some u10) : Box11 b u0 u1 u2 u3 u4 u5 u6 u7 u8 u9 u10 w := ⟨h0, h1, h2, h3, h4, h5, h6, h7, h8, h9, h10⟩
theorem box11_span {lo hi b : Nat} {u0 u1 u2 u3 u4 u5 u6 u7 u8 u9 u10 : Value} {w w' : World} (h : Box11 b u0 u1 u2 u3 u4 u5 u6 u7 u8 u9 u10 w) (s : Span lo hi w w') (hb : b < w.heap.size) (hd : hi ≤ lo ∨ b < lo ∨ hi ≤ b) : Box11 b u0 u1 u2 u3 u4 u5 u6 u7 u8 u9 u10 w' := by
  have e := s.block b hb (by omega)
  exact ⟨(World.cell?_of_block (w := w) (a := ⟨b, 0, none⟩) e).trans h.1, (World.cell?_of_block (w := w) (a := ⟨b, 1, none⟩) e).trans h.2.1, (World.cell?_of_block (w := w) (a := ⟨b, 2, none⟩) e).trans h.2.2.1, (World.cell?_of_block (w := w) (a := ⟨b, 3, none⟩) e).trans h.2.2.2.1, (World.cell?_of_block (w := w) (a := ⟨b, 4, none⟩) e).trans h.2.2.2.2.1, (World.cell?_of_block (w := w) (a := ⟨b, 5, none⟩) e).trans h.2.2.2.2.2.1, (World.cell?_of_block (w := w) (a := ⟨b, 6, none⟩) e).trans h.2.2.2.2.2.2.1, (World.cell?_of_block (w := w) (a := ⟨b, 7, none⟩) e).trans h.2.2.2.2.2.2.2.1, (World.cell?_of_block (w := w) (a := ⟨b, 8, none⟩) e).trans h.2.2.2.2.2.2.2.2.1, (World.cell?_of_block (w := w) (a := ⟨b, 9, none⟩) e).trans h.2.2.2.2.2.2.2.2.2.1, (World.cell?_of_block (w := w) (a := ⟨b, 10, none⟩) e).trans h.2.2.2.2.2.2.2.2.2.2⟩
theorem box11_alloc {b : Nat} {u0 u1 u2 u3 u4 u5 u6 u7 u8 u9 u10 : Value} {w : World} (h : Box11 b u0 u1 u2 u3 u4 u5 u6 u7 u8 u9 u10 w) (hb : b < w.heap.size) : (∀ o, (w.alloc o).cell? ⟨b, 0, none⟩ = some u0) ∧ (∀ o, (w.alloc o).cell? ⟨b, 1, none⟩ = some u1) ∧ (∀ o, (w.alloc o).cell? ⟨b, 2, none⟩ = some u2) ∧ (∀ o, (w.alloc o).cell? ⟨b, 3, none⟩ = some u3) ∧ (∀ o, (w.alloc o).cell? ⟨b, 4, none⟩ = some u4) ∧ (∀ o, (w.alloc o).cell? ⟨b, 5, none⟩ = some u5) ∧ (∀ o, (w.alloc o).cell? ⟨b, 6, none⟩ = some u6) ∧ (∀ o, (w.alloc o).cell? ⟨b, 7, none⟩ = some u7) ∧ (∀ o, (w.alloc o).cell? ⟨b, 8, none⟩ = some u8) ∧ (∀ o, (w.alloc o).cell? ⟨b, 9, none⟩ = some u9) ∧ (∀ o, (w.alloc o).cell? ⟨b, 10, none⟩ = some u10) :=
  have k := fun o => box11_span h ((Span.refl 0 0 w).alloc o) hb (.inl (Nat.le_refl _))
  ⟨fun o => (k o).1, fun o => (k o).2.1, fun o => (k o).2.2.1, fun o => (k o).2.2.2.1, fun o => (k o).2.2.2.2.1, fun o => (k o).2.2.2.2.2.1, fun o => (k o).2.2.2.2.2.2.1, fun o => (k o).2.2.2.2.2.2.2.1, fun o => (k o).2.2.2.2.2.2.2.2.1, fun o => (k o).2.2.2.2.2.2.2.2.2.1, fun o => (k o).2.2.2.2.2.2.2.2.2.2⟩
theorem box11_new (w : World) (u0 u1 u2 u3 u4 u5 u6 u7 u8 u9 u10 : Value) (t : TypeId) : Box11 w.heap.size u0 u1 u2 u3 u4 u5 u6 u7 u8 u9 u10 (w.alloc (.cells #[u0, u1, u2, u3, u4, u5, u6, u7, u8, u9, u10] t)) :=
  ⟨(by rw [World.cell?_alloc_new]; rfl), (by rw [World.cell?_alloc_new]; rfl), (by rw [World.cell?_alloc_new]; rfl), (by rw [World.cell?_alloc_new]; rfl), (by rw [World.cell?_alloc_new]; rfl), (by rw [World.cell?_alloc_new]; rfl), (by rw [World.cell?_alloc_new]; rfl), (by rw [World.cell?_alloc_new]; rfl), (by rw [World.cell?_alloc_new]; rfl), (by rw [World.cell?_alloc_new]; rfl), (by rw [World.cell?_alloc_new]; rfl)⟩


/-- What marking a module gives. -/
def MarksM0 (lo hi : Nat) (v : Value) (m : Md) (k : Nat) (w : World) (e : Ending) (w' : World) : Prop :=
  e = .returned (.int .i64 ((k + m.ring.store.length : Nat) : Int)) ∧ HasM0 true lo hi w' v { m with ring := { m.ring with store := marksC m.ring.store.length k } } ∧ Span lo hi w w'

theorem HasM0.form {own : Bool} {lo hi : Nat} {w : World} {v : Value} {t : Md} (h : HasM0 own lo hi w v t) : ∃ A c, v = .agg #[.int .i64 t.kind, .complex .f32 t.turn.1 t.turn.2, .complex .f32 t.state.1 t.state.2, .float .f32 t.level, .slice A t.ring.store.length c, .int .i64 t.ring.at_, .int .i64 t.ring.cnt, .slice none 0 0, .slice none 0 0, .int .i64 t.count, .int .i64 t.left] := by
  obtain ⟨b1, vS, rfl, h1⟩ := h
  obtain ⟨A, c, rfl, _⟩ := h1
  exact ⟨A, c, rfl⟩

def zeroModule : Md := ⟨0, (0, 0), (0, 0), 0, ⟨[], 0, 0⟩, 0, 0⟩
/-- A module that is made, or none. -/
def GivesM (o : Option Md) (w : World) (e : Ending) (w' : World) : Prop :=
  ∃ v, e = .returned (.tuple #[v, .bool o.isSome]) ∧ HasM0 true w.heap.size w'.heap.size w' v (o.getD zeroModule) ∧ Span 0 0 w w'
/-- A module that is made. -/
def MakesM (m : Md) (w : World) (e : Ending) (w' : World) : Prop :=
  ∃ v, e = .returned v ∧ HasM0 true w.heap.size w'.heap.size w' v m ∧ Span 0 0 w w'
theorem HasM0.plain (own : Bool) (lo hi : Nat) (w : World) (k : Int) (t s : Cx) (l : Nat) (c f : Int) :
    HasM0 own lo hi w (.agg #[.int .i64 k, .complex .f32 t.1 t.2, .complex .f32 s.1 s.2, .float .f32 l, .slice none 0 0, .int .i64 0, .int .i64 0, .slice none 0 0, .slice none 0 0, .int .i64 c, .int .i64 f]) ⟨k, t, s, l, ⟨[], 0, 0⟩, c, f⟩ :=
  ⟨0, _, rfl, HasS.empty _ _ _ _ _ _ _ _⟩
end
section
open Go.RowKit

theorem isSameSingle_self (x : Nat) (w : World) : Calls Tryz.prog 90 #[.float .f32 x, .float .f32 x] w (SaysTrue w) := by
  have hb := run_float32bits
  cases hn : nanB .f32 x with
  | true =>
    go_enter Tryz.func90, Tryz.ntmps90
    go_wp2_with fail
    refine (isNaN_any _ _).mono ?_
    rintro _ _ ⟨rfl, rfl⟩
    rw [widen_nan, hn]
    go_wp2_with fail
    refine (isNaN_any _ _).mono ?_
    rintro _ _ ⟨rfl, rfl⟩
    rw [widen_nan, hn]
    go_wp2_with fail
    go_ret
    exact ⟨_, rfl, rfl⟩
  | false =>
    go_enter Tryz.func90, Tryz.ntmps90
    go_wp2_with fail
    refine (isNaN_any _ _).mono ?_
    rintro _ _ ⟨rfl, rfl⟩
    rw [widen_nan, hn]
    go_wp2_with fail
    go_ret
    exact ⟨_, rfl, rfl⟩

theorem isSamePoint_self (x y : Nat) (w : World) : Calls Tryz.prog 89 #[.complex .f32 x y, .complex .f32 x y] w (SaysTrue w) := by
  go_enter Tryz.func89, Tryz.ntmps89
  go_wp2_with fail
  refine (isSameSingle_self _ _).mono ?_
  rintro _ _ ⟨n, rfl, rfl⟩
  go_wp2_with fail
  refine (isSameSingle_self _ _).mono ?_
  rintro _ _ ⟨m, rfl, rfl⟩
  go_wp2_with fail
  go_ret
  exact ⟨_, rfl, rfl⟩

set_option maxHeartbeats 1000000 in
theorem equalFunc_self (xs : List Cx) (o o' : Bool) (b b' lo lo' hi hi' : Nat) (v v' : Value) (w : World) (hx : HasS cxV o b lo hi w v xs) (hx' : HasS cxV o' b' lo' hi' w v' xs) (hlen : xs.length ≤ 4194304) :
    Calls Tryz.prog 112 #[v, v', .func (.func 89) #[] #[]] w (SaysTrue w) := by
  obtain ⟨A, cap, rfl, hcap, hc⟩ := hx
  obtain ⟨A', cap', rfl, hcap', hc'⟩ := hx'
  obtain ⟨len, hl⟩ : ∃ len, len = xs.length := ⟨_, rfl⟩
  have HL := Lib.hid hl
  rw [← hl] at hlen hcap hcap' ⊢
  clear hl
  have HC := Lib.hid hc; clear hc
  have HC' := Lib.hid hc'; clear hc'
  go_enter Tryz.func112, Tryz.ntmps112
  go_wp2
  go_loopw [7, 8, 9, 17] (fun _ _ _ i wr => ∃ (k m : Nat), k ≤ len ∧ i = .int .i64 k ∧ wr = w.drewN m) (fun _ _ _ i _ => len - (intOf i).toNat)
  case atStart => exact ⟨0, 0, Nat.zero_le _, rfl, rfl⟩
  case round =>
    obtain ⟨k, m, hk, rfl, rfl⟩ := hrel
    by_cases hlt : k < len
    · have hkx : k < xs.length := by rw [← HL.out]; exact hlt
      obtain ⟨off, rfl, _, _, _, hcell, _⟩ := HC.out (by omega)
      obtain ⟨off', rfl, _, _, _, hcell', _⟩ := HC'.out (by omega)
      obtain ⟨⟨x, y⟩, hx⟩ := getElem?_some hkx
      have hck : w.cell? ⟨b, off + k, none⟩ = some (.complex .f32 x y) := hcell k _ hx
      have hck' : w.cell? ⟨b', off' + k, none⟩ = some (.complex .f32 x y) := hcell' k _ hx
      clear hcell hcell' hkx hx
      go_wp2_with fail
      refine (isSamePoint_self x y _).mono ?_
      rintro _ _ ⟨n2, rfl, rfl⟩
      go_wp2_with fail
      go_roundw
      case rel => exact ⟨k + 1, _, by omega, by go_num, rfl⟩
      case measure => simp [intOf]; omega
    · have hke : k = len := by omega
      have Hk := Lib.hid hke; clear hke
      go_wp2
      go_ret
      exact ⟨_, rfl, rfl⟩
end
section
open Go.RowKit

set_option maxHeartbeats 1000000 in
theorem equalI_self (xs : List Int) (o o' : Bool) (b b' lo lo' hi hi' : Nat) (v v' : Value) (w : World) (hx : HasS intV o b lo hi w v xs) (hx' : HasS intV o' b' lo' hi' w v' xs) (hlen : xs.length ≤ 4194304) :
    Calls Tryz.prog 113 #[v, v'] w (SaysTrue w) := by
  obtain ⟨A, cap, rfl, hcap, hc⟩ := hx
  obtain ⟨A', cap', rfl, hcap', hc'⟩ := hx'
  obtain ⟨len, hl⟩ : ∃ len, len = xs.length := ⟨_, rfl⟩
  have HL := Lib.hid hl
  rw [← hl] at hlen hcap hcap' ⊢
  clear hl
  have HC := Lib.hid hc; clear hc
  have HC' := Lib.hid hc'; clear hc'
  go_enter Tryz.func113, Tryz.ntmps113
  go_wp2
  go_loopw [5, 13] (fun _ i wr => ∃ (k m : Nat), k ≤ len ∧ i = .int .i64 k ∧ wr = w.drewN m) (fun _ i _ => len - (intOf i).toNat)
  case atStart => exact ⟨0, 0, Nat.zero_le _, rfl, rfl⟩
  case round =>
    obtain ⟨k, m, hk, rfl, rfl⟩ := hrel
    by_cases hlt : k < len
    · have hkx : k < xs.length := by rw [← HL.out]; exact hlt
      obtain ⟨off, rfl, _, _, _, hcell, _⟩ := HC.out (by omega)
      obtain ⟨off', rfl, _, _, _, hcell', _⟩ := HC'.out (by omega)
      obtain ⟨x, hx⟩ := getElem?_some hkx
      have hck : w.cell? ⟨b, off + k, none⟩ = some (.int .i64 x) := hcell k _ hx
      have hck' : w.cell? ⟨b', off' + k, none⟩ = some (.int .i64 x) := hcell' k _ hx
      clear hcell hcell' hkx hx
      have i0 : (0 : Int) ≤ (k : Int) := by omega
      have i1 : (k : Int) < (len : Int) := by omega
      go_wp2_with fail
      go_region
      all_goals
        go_wp2
        go_roundw
        case rel => exact ⟨k + 1, _, by omega, by go_num, rfl⟩
        case measure => simp [intOf]; omega
    · have hke : k = len := by omega
      have Hk := Lib.hid hke; clear hke
      go_wp2
      go_ret
      exact ⟨_, rfl, rfl⟩

theorem isSameRing_self (xs : List Cx) (a c : Int) (o o' : Bool) (b b' lo lo' hi hi' : Nat) (v v' : Value) (w : World) (hx : HasS cxV o b lo hi w v xs) (hx' : HasS cxV o' b' lo' hi' w v' xs) (hlen : xs.length ≤ 4194304) :
    Calls Tryz.prog 91 #[.agg #[v, .int .i64 a, .int .i64 c], .agg #[v', .int .i64 a, .int .i64 c]] w (True0 w) := by
  obtain ⟨A, p, rfl, _⟩ := id hx
  obtain ⟨A', p', rfl, _⟩ := id hx'
  go_enter Tryz.func91, Tryz.ntmps91
  go_wp2_with fail
  refine (equalFunc_self xs o o' b b' lo lo' hi hi' _ _ _ ((hx.alloc _).alloc _) ((hx'.alloc _).alloc _) hlen).mono ?_
  rintro _ _ ⟨n, rfl, rfl⟩
  go_wp2_with fail
  go_ret
  exact ⟨rfl, (((Span.refl _ _ _).alloc _).alloc _).drewN _⟩

theorem isSameTable_self (xs : List Cx) (ys : List Int) (o o' q q' : Bool) (b b' lo lo' hi hi' d d' l l' r r' : Nat) (v v' u u' : Value) (w : World) (hx : HasS cxV o b lo hi w v xs) (hx' : HasS cxV o' b' lo' hi' w v' xs) (hy : HasS intV q d l r w u ys) (hy' : HasS intV q' d' l' r' w u' ys) (h1 : xs.length ≤ 4194304) (h2 : ys.length ≤ 4194304) :
    Calls Tryz.prog 92 #[.agg #[v, u], .agg #[v', u']] w (True0 w) := by
  obtain ⟨A, p, rfl, _⟩ := id hx
  obtain ⟨A', p', rfl, _⟩ := id hx'
  obtain ⟨B, s, rfl, _⟩ := id hy
  obtain ⟨B', s', rfl, _⟩ := id hy'
  go_enter Tryz.func92, Tryz.ntmps92
  go_wp2_with fail
  refine (equalFunc_self xs o o' b b' lo lo' hi hi' _ _ _ ((hx.alloc _).alloc _) ((hx'.alloc _).alloc _) h1).mono ?_
  rintro _ _ ⟨n, rfl, rfl⟩
  go_wp2_with fail
  refine (equalI_self ys q q' d d' l l' r r' _ _ _ (((hy.alloc _).alloc _).drewN _) (((hy'.alloc _).alloc _).drewN _) h2).mono ?_
  rintro _ _ ⟨m, rfl, rfl⟩
  go_wp2_with fail
  go_ret
  exact ⟨rfl, (((Span.refl _ _ _).alloc _).alloc _).drewN _⟩
end
section
open Go.RowKit

/-- A value that reads as a module, with its table. -/
def ReadM (w : World) (v : Value) (m : Md) (t : Tab) : Prop :=
  ∃ vS vP vL b0 b1 b2, v = .agg #[.int .i64 m.kind, .complex .f32 m.turn.1 m.turn.2, .complex .f32 m.state.1 m.state.2, .float .f32 m.level, vS, .int .i64 m.ring.at_, .int .i64 m.ring.cnt, vP, vL, .int .i64 m.count, .int .i64 m.left] ∧
    HasS cxV false b0 0 w.heap.size w vS m.ring.store ∧ HasS cxV false b1 0 w.heap.size w vP t.1 ∧ HasS intV false b2 0 w.heap.size w vL t.2

theorem ReadM.keep {w w' : World} {v : Value} {m : Md} {t : Tab} (h : ReadM w v m t) (s : Span 0 0 w w') : ReadM w' v m t := by
  obtain ⟨vS, vP, vL, b0, b1, b2, rfl, h0, h1, h2⟩ := h
  have z := s.size
  exact ⟨vS, vP, vL, b0, b1, b2, rfl, (h0.span s (by omega)).weak (Nat.le_refl _) (.inl z), (h1.span s (by omega)).weak (Nat.le_refl _) (.inl z), (h2.span s (by omega)).weak (Nat.le_refl _) (.inl z)⟩

set_option maxRecDepth 100000 in
set_option maxHeartbeats 4000000 in
theorem sameModules_self (m : Md) (t : Tab) (v v' : Value) (w : World) (hx : ReadM w v m t) (hx' : ReadM w v' m t) (e0 : m.ring.store.length ≤ 4194304) (e1 : t.1.length ≤ 4194304) (e2 : t.2.length ≤ 4194304) :
    Calls Tryz.prog 64 #[v, v'] w (True0 w) := by
  obtain ⟨vS, vP, vL, b0, b1, b2, rfl, h0, h1, h2⟩ := hx
  obtain ⟨vS', vP', vL', b0', b1', b2', rfl, h0', h1', h2'⟩ := hx'
  obtain ⟨S, p, rfl, _⟩ := id h0
  obtain ⟨P, q, rfl, _⟩ := id h1
  obtain ⟨L, r, rfl, _⟩ := id h2
  obtain ⟨S', p', rfl, _⟩ := id h0'
  obtain ⟨P', q', rfl, _⟩ := id h1'
  obtain ⟨L', r', rfl, _⟩ := id h2'
  obtain ⟨k, ⟨t1, t2⟩, ⟨s1, s2⟩, l, ⟨xs, a, n⟩, c, f⟩ := m
  obtain ⟨ps, ls⟩ := t
  simp only at *
  go_enter Tryz.func64, Tryz.ntmps64
  go_wp2_with fail
  refine (isSamePoint_self _ _ _).mono ?_
  rintro _ _ ⟨n1, rfl, rfl⟩
  go_wp2_with fail
  refine (isSamePoint_self _ _ _).mono ?_
  rintro _ _ ⟨n2, rfl, rfl⟩
  go_wp2_with fail
  refine (isSameSingle_self _ _).mono ?_
  rintro _ _ ⟨n3, rfl, rfl⟩
  go_wp2_with fail
  refine (isSameRing_self xs a n _ _ _ _ _ _ _ _ _ _ _ (((h0.alloc _).alloc _).drewN _) (((h0'.alloc _).alloc _).drewN _) e0).mono ?_
  rintro _ w3 ⟨rfl, s3⟩
  have s3 := s3.undrawn'
  have X := ((Bx.new w #[.int .i64 k, .complex .f32 t1 t2, .complex .f32 s1 s2, .float .f32 l, .slice S xs.length p, .int .i64 a, .int .i64 n, .slice P ps.length q, .slice L ls.length r, .int .i64 c, .int .i64 f] 32).alloc (.cells #[.int .i64 k, .complex .f32 t1 t2, .complex .f32 s1 s2, .float .f32 l, .slice S' xs.length p', .int .i64 a, .int .i64 n, .slice P' ps.length q', .slice L' ls.length r', .int .i64 c, .int .i64 f] 32)).keep s3
  have Y := (Bx.new (w.alloc (.cells #[.int .i64 k, .complex .f32 t1 t2, .complex .f32 s1 s2, .float .f32 l, .slice S xs.length p, .int .i64 a, .int .i64 n, .slice P ps.length q, .slice L ls.length r, .int .i64 c, .int .i64 f] 32)) #[.int .i64 k, .complex .f32 t1 t2, .complex .f32 s1 s2, .float .f32 l, .slice S' xs.length p', .int .i64 a, .int .i64 n, .slice P' ps.length q', .slice L' ls.length r', .int .i64 c, .int .i64 f] 32).keep s3
  rw [show (w.alloc (.cells #[.int .i64 k, .complex .f32 t1 t2, .complex .f32 s1 s2, .float .f32 l, .slice S xs.length p, .int .i64 a, .int .i64 n, .slice P ps.length q, .slice L ls.length r, .int .i64 c, .int .i64 f] 32)).heap.size = w.heap.size + 1 by simp] at Y
  have S3 := (((Span.refl 0 0 w).alloc (.cells #[.int .i64 k, .complex .f32 t1 t2, .complex .f32 s1 s2, .float .f32 l, .slice S xs.length p, .int .i64 a, .int .i64 n, .slice P ps.length q, .slice L ls.length r, .int .i64 c, .int .i64 f] 32)).alloc (.cells #[.int .i64 k, .complex .f32 t1 t2, .complex .f32 s1 s2, .float .f32 l, .slice S' xs.length p', .int .i64 a, .int .i64 n, .slice P' ps.length q', .slice L' ls.length r', .int .i64 c, .int .i64 f] 32)).trans s3
  have HS := Lib.hid S3
  have H1 := Lib.hid (h1.span S3 (by omega))
  have H1' := Lib.hid (h1'.span S3 (by omega))
  have H2 := Lib.hid (h2.span S3 (by omega))
  have H2' := Lib.hid (h2'.span S3 (by omega))
  have cx := X.cells
  have cy := Y.cells
  have HX := Lib.hid X
  have HY := Lib.hid Y
  clear h0 h0' h1 h1' h2 h2' s3 S3 X Y
  go_wp2_with fail
  refine (isSameTable_self ps ls _ _ _ _ _ _ _ _ _ _ _ _ _ _ _ _ _ _ _ _ _ H1.out H1'.out H2.out H2'.out e1 e2).mono ?_
  rintro _ w4 ⟨rfl, s4⟩
  have cx := (HX.out.keep s4).cells
  have cy := (HY.out.keep s4).cells
  have HS := Lib.hid (HS.out.trans s4)
  clear s4
  go_wp2_with fail
  go_ret
  exact ⟨rfl, HS.out⟩
end
end Go.Proofs.YtkjlodoppmipfaaGreat
