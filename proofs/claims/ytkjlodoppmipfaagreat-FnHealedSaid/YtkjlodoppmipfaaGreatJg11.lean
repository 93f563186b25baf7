/- The grid, made by the program. Slices of structs in memory, of any number of cells each: lists of modules, of cables. Racks in memory: their modules and cables; the parts of a valid rack. The grid, made by the specification's program. -/
import Derived.Test.YtkjlodoppmipfaaGreatJg10
import Derived.Test.YtkjlodoppmipfaaGreatJg3
import Derived.Test.YtkjlodoppmipfaaGreatJg9
import Derived.Outline
import Derived.Test.YtkjlodoppmipfaaGreatJg8
namespace Go.Proofs.YtkjlodoppmipfaaGreat
section
open Go.RowKit

theorem ownsRow_slice {w : World} {B : Nat} {e : TypeId} {s : Nat} {v : Value} {n : Nat} {xs : List Value} (h : w.ownsRow B e s v n xs) : ∃ A c, v = .slice A n c := by
  rcases h.2 with ⟨rfl, rfl⟩ | ⟨g, cap, cur, rfl, _⟩
  · exact ⟨_, _, rfl⟩
  · exact ⟨_, _, rfl⟩
theorem one_cell {u : Value} (h : u.oneCell' = true) : ∀ x ∈ [u], x.oneCell' = true := by
  intro x hx
  rw [List.mem_singleton.1 hx]; exact h
theorem one_new (w : World) (u : Value) (e : TypeId) : ∀ j x, [u][j]? = some x → (w.alloc (.cells #[u] e)).cell? ((⟨w.heap.size, 0, none⟩ : Addr).add j) = some x := by
  intro j x hj
  have hj0 : j = 0 := by
    have := (List.getElem?_eq_some_iff.1 hj).1
    simp at this
    exact this
  subst hj0
  simp only [List.getElem?_cons_zero, Option.some.injEq] at hj
  subst hj
  show (w.alloc (.cells #[u] e)).cell? ⟨w.heap.size, 0, none⟩ = _
  rw [World.cell?_alloc_new]; rfl
theorem one_new' (w : World) (a : Addr) (v u : Value) (e : TypeId) : ∀ j x, [u][j]? = some x → ((w.setCell a v).alloc (.cells #[u] e)).cell? ((⟨w.heap.size, 0, none⟩ : Addr).add j) = some x := by
  have h := one_new (w.setCell a v) u e
  simpa [World.setCell] using h
end
section
open Go.RowKit

/-- A slice that reads as a list whose elements hold s cells each. -/
def HasC {α : Type} (s : Nat) (fl : α → List Value) (b lo hi : Nat) (w : World) (v : Value) (L : List α) : Prop :=
  ∃ (A : Option Addr) (cap : Nat), v = .slice A L.length cap ∧ L.length ≤ cap ∧
    (0 < L.length → ∃ off, A = some ⟨b, off, none⟩ ∧ lo ≤ b ∧ b < hi ∧ b < w.heap.size ∧ ∀ (j : Nat) (x : α) (i : Nat) (u : Value), L[j]? = some x → (fl x)[i]? = some u → w.cell? ⟨b, off + j * s + i, none⟩ = some u)

theorem HasC.span {α : Type} {s : Nat} {fl : α → List Value} {b lo hi l r : Nat} {w w' : World} {v : Value} {L : List α} (h : HasC s fl b lo hi w v L) (hs : Span l r w w') (hd : r ≤ l ∨ hi ≤ l ∨ r ≤ lo ∨ b < l ∨ r ≤ b) : HasC s fl b lo hi w' v L := by
  obtain ⟨A, cap, rfl, hcap, hc⟩ := h
  refine ⟨A, cap, rfl, hcap, fun hp => ?_⟩
  obtain ⟨off, rfl, h1, h2, h3, h4⟩ := hc hp
  have g2 := hs.block b h3 (by omega)
  exact ⟨off, rfl, h1, h2, Nat.lt_of_lt_of_le h3 hs.size, fun j x i u hj hi => (World.cell?_of_block (w := w) g2).trans (h4 j x i u hj hi)⟩
theorem HasC.keep {α : Type} {s : Nat} {fl : α → List Value} {b lo hi : Nat} {w w' : World} {v : Value} {L : List α} (h : HasC s fl b lo hi w v L) (hs : Span 0 0 w w') : HasC s fl b lo hi w' v L := h.span hs (.inl (Nat.le_refl _))
theorem HasC.weak {α : Type} {s : Nat} {fl : α → List Value} {b lo hi lo' hi' : Nat} {w : World} {v : Value} {L : List α} (h : HasC s fl b lo hi w v L) (h1 : lo' ≤ lo) (h2 : hi ≤ hi' ∨ w.heap.size ≤ hi') : HasC s fl b lo' hi' w v L := by
  obtain ⟨A, cap, rfl, hcap, hc⟩ := h
  refine ⟨A, cap, rfl, hcap, fun hp => ?_⟩
  obtain ⟨off, rfl, g1, g2, g3, g4⟩ := hc hp
  exact ⟨off, rfl, by omega, by omega, g3, g4⟩
theorem HasC.empty {α : Type} (s : Nat) (fl : α → List Value) (b lo hi : Nat) (w : World) (A : Option Addr) (c : Nat) : HasC s fl b lo hi w (.slice A 0 c) [] :=
  ⟨A, c, rfl, Nat.zero_le _, fun h => absurd h (by simp)⟩
theorem HasC.addr {α : Type} {s : Nat} {fl : α → List Value} {b lo hi n c : Nat} {w : World} {A : Option Addr} {L : List α} (h : HasC s fl b lo hi w (.slice A n c) L) (hp : 0 < L.length) : ∃ off, A = some ⟨b, off, none⟩ := by
  obtain ⟨A', c', e, _, hc⟩ := h
  injection e with e1 e2 e3
  subst e1
  obtain ⟨off, rfl, _⟩ := hc hp
  exact ⟨off, rfl⟩
theorem HasC.at_ {α : Type} {s : Nat} {fl : α → List Value} {b b' off lo hi n c j : Nat} {w : World} {L : List α} {x : α} (h : HasC s fl b lo hi w (.slice (some ⟨b', off, none⟩) n c) L) (hj : L[j]? = some x) {i : Nat} {u : Value} (hu : (fl x)[i]? = some u) : w.cell? ⟨b', off + j * s + i, none⟩ = some u := by
  obtain ⟨A', c', e, _, hc⟩ := h
  injection e with e1 e2 e3
  obtain ⟨off', e4, _, _, _, h4⟩ := hc (Nat.lt_of_le_of_lt (Nat.zero_le _) (List.getElem?_eq_some_iff.1 hj).1)
  rw [e4] at e1
  injection e1 with e1; injection e1 with e5 e6
  subst e5; subst e6
  exact h4 j x i u hj hu
theorem HasC.len {α : Type} {s : Nat} {fl : α → List Value} {b lo hi n c : Nat} {w : World} {A : Option Addr} {L : List α} (h : HasC s fl b lo hi w (.slice A n c) L) : n = L.length ∧ n ≤ c := by
  obtain ⟨A', c', e, hc, _⟩ := h
  injection e with e1 e2 e3
  subst e2; subst e3
  exact ⟨rfl, hc⟩

/-- A cable, as its cells. -/
def cabC (c : Nat × Nat) : List Value := [.int .i64 (c.1 : Int), .int .i64 (c.2 : Int)]
def boolV (b : Bool) : Value := .bool b

/-- The cells of a module of 11 cells that begin at o. -/
def MAt (w : World) (b o : Nat) (u0 u1 u2 u3 u4 u5 u6 u7 u8 u9 u10 : Value) : Prop :=
  w.cell? ⟨b, o, none⟩ = some u0 ∧ w.cell? ⟨b, o + 1, none⟩ = some u1 ∧ w.cell? ⟨b, o + 2, none⟩ = some u2 ∧ w.cell? ⟨b, o + 3, none⟩ = some u3 ∧ w.cell? ⟨b, o + 4, none⟩ = some u4 ∧ w.cell? ⟨b, o + 5, none⟩ = some u5 ∧ w.cell? ⟨b, o + 6, none⟩ = some u6 ∧ w.cell? ⟨b, o + 7, none⟩ = some u7 ∧ w.cell? ⟨b, o + 8, none⟩ = some u8 ∧ w.cell? ⟨b, o + 9, none⟩ = some u9 ∧ w.cell? ⟨b, o + 10, none⟩ = some u10
theorem HasC.module {b b' off lo hi n c j : Nat} {w : World} {L : List (List Value)} {u0 u1 u2 u3 u4 u5 u6 u7 u8 u9 u10 : Value} (h : HasC 11 id b lo hi w (.slice (some ⟨b', off, none⟩) n c) L) (hj : L[j]? = some [u0, u1, u2, u3, u4, u5, u6, u7, u8, u9, u10]) : MAt w b' (off + j * 11) u0 u1 u2 u3 u4 u5 u6 u7 u8 u9 u10 :=
  ⟨h.at_ hj (i := 0) rfl, h.at_ hj (i := 1) rfl, h.at_ hj (i := 2) rfl, h.at_ hj (i := 3) rfl, h.at_ hj (i := 4) rfl, h.at_ hj (i := 5) rfl, h.at_ hj (i := 6) rfl, h.at_ hj (i := 7) rfl, h.at_ hj (i := 8) rfl, h.at_ hj (i := 9) rfl, h.at_ hj (i := 10) rfl⟩
theorem HasC.cable {b b' off lo hi n c j : Nat} {w : World} {L : List (Nat × Nat)} {x : Nat × Nat} (h : HasC 2 cabC b lo hi w (.slice (some ⟨b', off, none⟩) n c) L) (hj : L[j]? = some x) : w.cell? ⟨b', off + j * 2, none⟩ = some (.int .i64 (x.1 : Int)) ∧ w.cell? ⟨b', off + j * 2 + 1, none⟩ = some (.int .i64 (x.2 : Int)) :=
  ⟨h.at_ hj (i := 0) rfl, h.at_ hj (i := 1) rfl⟩

/-- The modules that wait for one that is not listed, and the listed ones. -/
def passOne (kinds : List Int) (listed : List Bool) (P : List Bool) (c : Nat × Nat) : List Bool :=
  if listed.getD c.1 false = false ∧ kinds.getD c.1 0 ≠ 4 then P.set c.2 true else P
def passed (kinds : List Int) (cables : List (Nat × Nat)) (listed : List Bool) : List Bool := cables.foldl (passOne kinds listed) listed
theorem passOne_len (kinds : List Int) (listed P : List Bool) (c : Nat × Nat) : (passOne kinds listed P c).length = P.length := by
  unfold passOne; split <;> simp
theorem passed_len (kinds : List Int) (cables : List (Nat × Nat)) (listed : List Bool) : (passed kinds cables listed).length = listed.length := by
  unfold passed
  have : ∀ (cs : List (Nat × Nat)) (P : List Bool), (cs.foldl (passOne kinds listed) P).length = P.length := by
    intro cs
    induction cs with
    | nil => intro P; rfl
    | cons c cs ih => intro P; rw [List.foldl_cons, ih, passOne_len]
  exact this cables listed
/-- The first one that is not passed. -/
def firstNo : List Bool → Int
  | [] => -1
  | false :: _ => 0
  | true :: l => if firstNo l < 0 then -1 else firstNo l + 1
end
section
open Go.RowKit

/-- A module as its eleven cells tell it. -/
structure Mw where
  k : Int
  t1 : Nat
  t2 : Nat
  s1 : Nat
  s2 : Nat
  lv : Nat
  S : Option Addr
  sn : Nat
  sp : Nat
  a : Int
  cnt : Int
  P : Option Addr
  pn : Nat
  pp : Nat
  L : Option Addr
  ln : Nat
  lp : Nat
  c : Int
  f : Int
def Mw.l (m : Mw) : List Value := [.int .i64 m.k, .complex .f32 m.t1 m.t2, .complex .f32 m.s1 m.s2, .float .f32 m.lv, .slice m.S m.sn m.sp, .int .i64 m.a, .int .i64 m.cnt, .slice m.P m.pn m.pp, .slice m.L m.ln m.lp, .int .i64 m.c, .int .i64 m.f]

theorem HasC.mw {b b' off lo hi n c j : Nat} {w : World} {L : List Mw} {m : Mw} (h : HasC 11 Mw.l b lo hi w (.slice (some ⟨b', off, none⟩) n c) L) (hj : L[j]? = some m) : MAt w b' (off + j * 11) (.int .i64 m.k) (.complex .f32 m.t1 m.t2) (.complex .f32 m.s1 m.s2) (.float .f32 m.lv) (.slice m.S m.sn m.sp) (.int .i64 m.a) (.int .i64 m.cnt) (.slice m.P m.pn m.pp) (.slice m.L m.ln m.lp) (.int .i64 m.c) (.int .i64 m.f) :=
  ⟨h.at_ hj (i := 0) rfl, h.at_ hj (i := 1) rfl, h.at_ hj (i := 2) rfl, h.at_ hj (i := 3) rfl, h.at_ hj (i := 4) rfl, h.at_ hj (i := 5) rfl, h.at_ hj (i := 6) rfl, h.at_ hj (i := 7) rfl, h.at_ hj (i := 8) rfl, h.at_ hj (i := 9) rfl, h.at_ hj (i := 10) rfl⟩

/-- A module that is found valid, in this world and behind whatever makes new blocks alone. -/
def OkM (w : World) (m : Mw) : Prop := ∀ w', Span 0 0 w w' → Calls Tryz.prog 53 #[.agg #[.int .i64 m.k, .complex .f32 m.t1 m.t2, .complex .f32 m.s1 m.s2, .float .f32 m.lv, .slice m.S m.sn m.sp, .int .i64 m.a, .int .i64 m.cnt, .slice m.P m.pn m.pp, .slice m.L m.ln m.lp, .int .i64 m.c, .int .i64 m.f]] w' (True0 w')
theorem OkM.keep {w w' : World} {m : Mw} (h : OkM w m) (s : Span 0 0 w w') : OkM w' m := fun w2 s2 => h w2 (s.trans s2)

set_option maxRecDepth 100000 in
theorem isIndex_true (i n : Nat) (h : i < n) (w : World) : Calls Tryz.prog 38 #[.int .i64 (i : Int), .int .i64 (n : Int)] w fun e w' => e = .returned (.bool true) ∧ w = w' := by
  have h1 : (0 : Int) ≤ (i : Int) := by omega
  have h2 : (i : Int) < (n : Int) := by omega
  clear h
  go_enter Tryz.func38, Tryz.ntmps38
  go_wp2_with fail
  go_ret
  exact ⟨rfl, rfl⟩

/-- A valid rack in memory but for the order of its modules. -/
structure RkAt (w : World) (bM bC lo hi : Nat) (AM : Option Addr) (n cM : Nat) (AC : Option Addr) (m cC : Nat) (Ms : List Mw) (Cs : List (Nat × Nat)) : Prop where
  mods : HasC 11 Mw.l bM lo hi w (.slice AM n cM) Ms
  cabs : HasC 2 cabC bC lo hi w (.slice AC m cC) Cs
  most : n ≤ 16 ∧ m ≤ 40
  ok : ∀ x ∈ Ms, OkM w x
  ends : ∀ x ∈ Cs, x.1 < n ∧ x.2 < n
theorem RkAt.keep {w w' : World} {bM bC lo hi : Nat} {AM : Option Addr} {n cM : Nat} {AC : Option Addr} {m cC : Nat} {Ms : List Mw} {Cs : List (Nat × Nat)} (h : RkAt w bM bC lo hi AM n cM AC m cC Ms Cs) (s : Span 0 0 w w') : RkAt w' bM bC lo hi AM n cM AC m cC Ms Cs :=
  ⟨h.mods.keep s, h.cabs.keep s, h.most, fun x hx => (h.ok x hx).keep s, h.ends⟩

set_option maxRecDepth 100000 in
set_option maxHeartbeats 4000000 in
theorem hasValidParts_true {w : World} {bM bC lo hi : Nat} {AM : Option Addr} {n cM : Nat} {AC : Option Addr} {m cC : Nat} {Ms : List Mw} {Cs : List (Nat × Nat)} (hr : RkAt w bM bC lo hi AM n cM AC m cC Ms Cs) :
    Calls Tryz.prog 78 #[.agg #[.slice AM n cM, .slice AC m cC]] w (True0 w) := by
  have HR := Lib.hid hr
  have HN := Lib.hid hr.mods.len.1
  have HM := Lib.hid hr.cabs.len.1
  have i1 : decide ((16 : Int) < (n : Int)) = false := by rw [decide_eq_false_iff_not]; have := hr.most; omega
  have i2 : decide ((40 : Int) < (m : Int)) = false := by rw [decide_eq_false_iff_not]; have := hr.most; omega
  have i3 : (n : Int) ≤ 16 := by have := hr.most; omega
  have i4 : (m : Int) ≤ 40 := by have := hr.most; omega
  clear hr
  go_enter Tryz.func78, Tryz.ntmps78
  go_wp2_with fail
  have BX := Lib.hid (Bx.new w #[.slice AM n cM, .slice AC m cC] 37)
  have HS := Lib.hid ((Span.refl 0 0 w).alloc (.cells #[.slice AM n cM, .slice AC m cC] 37))
  generalize w.alloc (.cells #[.slice AM n cM, .slice AC m cC] 37) = w0 at *
  go_loopw [20] (fun q wr => ∃ k : Nat, k ≤ n ∧ q = .int .i64 k ∧ Span 0 0 w0 wr) (fun q _ => n - (intOf q).toNat)
  case atStart => exact ⟨0, Nat.zero_le _, rfl, Span.refl _ _ _⟩
  case round =>
    obtain ⟨k, hk, rfl, hs⟩ := hrel
    by_cases hlt : k < n
    · obtain ⟨x, hx⟩ := getElem?_some (xs := Ms) (j := k) (by rw [← HN.out]; exact hlt)
      have R := HR.out.keep (HS.out.trans hs)
      have OK := Lib.hid (R.ok x (List.mem_of_getElem? hx))
      obtain ⟨off, hoff⟩ := R.mods.addr (by rw [← HN.out]; omega)
      subst hoff
      obtain ⟨c0, c1, c2, c3, c4, c5, c6, c7, c8, c9, c10⟩ := R.mods.mw hx
      have HSR := Lib.hid hs
      have j1 : (0 : Int) ≤ (k : Int) := by omega
      have j2 : (k : Int) < (n : Int) := by omega
      clear R hx hs
      obtain ⟨k', t1, t2, s1, s2, lv, S, sn, sp, a, cnt, P, pn, pp, L, ln, lp, c, f⟩ := x
      simp only at c0 c1 c2 c3 c4 c5 c6 c7 c8 c9 c10
      go_wp2_with fail
      refine (OK.out _ ((Span.refl 0 0 _).alloc _)).mono ?_
      rintro _ wa ⟨rfl, sa⟩
      have SA := Lib.hid ((HSR.out.alloc (.cells #[.int .i64 k', .complex .f32 t1 t2, .complex .f32 s1 s2, .float .f32 lv, .slice S sn sp, .int .i64 a, .int .i64 cnt, .slice P pn pp, .slice L ln lp, .int .i64 c, .int .i64 f] 32)).trans sa)
      clear sa c0 c1 c2 c3 c4 c5 c6 c7 c8 c9 c10
      go_wp2_with fail
      go_roundw
      case rel => exact ⟨k + 1, by omega, by go_num, SA.out⟩
      case measure => simp [intOf]; omega
    · have cB := (BX.out.keep hs).cells
      have HSR := Lib.hid hs
      have BX1 := Lib.hid (BX.out.keep hs)
      obtain ⟨w1, rfl⟩ : ∃ t, t = wr := ⟨_, rfl⟩
      clear hs
      go_wp2_with fail
      clear cB
      go_loopw [31] (fun q wr => ∃ k : Nat, k ≤ m ∧ q = .int .i64 k ∧ Span 0 0 w1 wr) (fun q _ => m - (intOf q).toNat)
      case atStart => exact ⟨0, Nat.zero_le _, rfl, Span.refl _ _ _⟩
      case round =>
        obtain ⟨k2, hk2, rfl, hs⟩ := hrel
        by_cases hlt2 : k2 < m
        · obtain ⟨⟨x, y⟩, hx⟩ := getElem?_some (xs := Cs) (j := k2) (by rw [← HM.out]; exact hlt2)
          have R := HR.out.keep ((HS.out.trans HSR.out).trans hs)
          obtain ⟨e1, e2⟩ := R.ends (x, y) (List.mem_of_getElem? hx)
          have I1 := Lib.hid (isIndex_true x n e1)
          have I2 := Lib.hid (isIndex_true y n e2)
          obtain ⟨off, hoff⟩ := R.cabs.addr (by rw [← HM.out]; omega)
          subst hoff
          obtain ⟨c0, c1⟩ := R.cabs.cable hx
          have cA := (BX1.out.keep hs).cellsA
          have HS2 := Lib.hid (hs.alloc (.cells #[.int .i64 (x : Int), .int .i64 (y : Int)] 42))
          have j1 : (0 : Int) ≤ (k2 : Int) := by omega
          have j2 : (k2 : Int) < (m : Int) := by omega
          clear R hx hs e1 e2
          simp only at c0 c1
          go_wp2_with fail
          refine (I1.out _).mono ?_
          rintro _ _ ⟨rfl, rfl⟩
          go_wp2_with fail
          refine (I2.out _).mono ?_
          rintro _ _ ⟨rfl, rfl⟩
          go_wp2_with fail
          go_roundw
          case rel => exact ⟨k2 + 1, by omega, by go_num, HS2.out⟩
          case measure => simp [intOf]; omega
        · have HS2 := Lib.hid ((HS.out.trans HSR.out).trans hs)
          clear hs
          go_wp2_with fail
          go_ret
          exact ⟨rfl, HS2.out⟩
end
section
open Go.RowKit

set_option maxRecDepth 100000 in
set_option maxHeartbeats 1000000 in
theorem spec_gridTable_in (n : Nat) (h1 : 1 ≤ n) (h8 : n ≤ 8) (w : World) :
    Calls Tryz.prog 96 #[.int .i64 (n : Int)] w (GivesTab (some (gridT n)) w) := by
  obtain ⟨ip, hip, hzp, hsp, hbp⟩ := info_parts info_c64
  obtain ⟨il, hil, hzl, hsl, hbl⟩ := info_parts info_int
  have b1 : decide ((n : Int) < 1) = false := by rw [decide_eq_false_iff_not]; omega
  have b2 : decide ((8 : Int) < (n : Int)) = false := by rw [decide_eq_false_iff_not]; omega
  have b3 : Hid (decide ((1 : Int) ≤ (n : Int) ∧ (n : Int) ≤ 8) = true) := by unfold Hid; rw [decide_eq_true_eq]; omega
  clear b1 b2
  have HS := Lib.hid (Growing.start w)
  go_enter Tryz.func96, Tryz.ntmps96
  go_wp2_with fail
  refine (l1In_any _ _ _ _).mono ?_
  rintro _ _ ⟨rfl, rfl⟩
  rw [b3.out]
  go_wp2_with fail
  go_loopw [5] (fun c wr => ∃ (i : Nat) (vP vL : Value), i ≤ n ∧ c = .int .i64 i ∧ Growing w.heap.size (w.heap.size + 1) (w.heap.size + 2) w (gridP n (i * n)) (gridL (i * n)) vP vL wr) (fun c _ => n - (intOf c).toNat)
  case atStart => exact ⟨0, _, _, Nat.zero_le _, rfl, by rw [Nat.zero_mul]; exact HS.out⟩
  case round =>
    clear HS
    obtain ⟨i, vP, vL, hi, rfl, hg⟩ := hrel
    by_cases hlt : i < n
    · obtain ⟨wo, rfl⟩ : ∃ wo : World, wo = wr := ⟨_, rfl⟩
      have HG := Lib.hid hg
      clear hg
      go_wp2_with fail
      go_loopw [6] (fun c wr => ∃ (k : Nat) (vP vL : Value), k ≤ n ∧ c = .int .i64 k ∧ Growing w.heap.size (w.heap.size + 1) (w.heap.size + 2) w (gridP n (i * n + k)) (gridL (i * n + k)) vP vL wr) (fun c _ => n - (intOf c).toNat)
      case atStart => exact ⟨0, _, _, Nat.zero_le _, rfl, HG.out⟩
      case round =>
        clear HG
        obtain ⟨k, uP, uL, hk, rfl, hg⟩ := hrel
        by_cases hlt2 : k < n
        · obtain ⟨c0, c1, _⟩ := hg.cells
          have HG := Lib.hid hg
          clear hg
          have m2 : i * n ≤ 64 := Nat.mul_le_mul (show i ≤ 8 by omega) h8
          obtain ⟨t, ht⟩ : ∃ t, t = i * n := ⟨_, rfl⟩
          have m1 : (i : Int) * (n : Int) = (t : Int) := by rw [ht, Int.natCast_mul]
          have m3 : (t : Int) ≤ 64 := by omega
          have HT := Lib.hid ht
          clear m2 ht
          go_wp2_with (first
            | (at_builtin; refine wpList_append_own _ rfl _ _ 25 rfl (w.heap.size + 2) 23 ip (.complex .f32 0 0) 1 8 Tryz.underlying25 hip hzp hsp hbp rfl (by decide) _ _ _ rfl (HG.out.p.alloc _) ⟨wr.heap.size, 0, none⟩ 1 1 [cxV (fi (2 * (i : Int) - n + 1), fi (2 * (k : Int) - n + 1))] rfl rfl ?c1 ?c2 ?c3 ?c4 ?c5 ?_; (case c1 => exact one_new _ _ _); (case c2 => exact one_cell (by rfl)); (case c3 => rw [gridP_length]; have := HT.out; unfold maxLen; omega); (case c4 => rw [gridP_length]; have := HT.out; omega); (case c5 => have := HG.out.hB; simp; omega); intro v1 w1 ho hgr _; obtain ⟨A1, q1, rfl⟩ := ownsRow_slice ho; obtain ⟨d0, d1, d2, D⟩ := HG.out.points (Nat.lt_succ_self _) (Nat.lt_succ_self _) (Nat.le_refl _) ho hgr; have HG1 := Lib.hid D; clear D ho hgr)
            | (at_builtin; ((refine wpList_append_own _ rfl _ _ 28 rfl (w.heap.size + 2) 3 il (.int .i64 0) 1 8 Tryz.underlying28 hil hzl hsl hbl rfl (by decide) _ _ _ rfl (HG1.out.l.alloc _) ⟨w1.heap.size, 0, none⟩ 1 1 [intV ((t : Int) + (k : Int))] rfl rfl ?e1 ?e2 ?e3 ?e4 ?e5 ?_); (case e1 => exact one_new' _ _ _ _ _); (case e2 => exact one_cell (by rfl)); (case e3 => rw [gridL_length]; have := HT.out; unfold maxLen; omega); (case e4 => rw [gridL_length]; have := HT.out; omega); (case e5 => have := HG1.out.hB; simp at this ⊢; omega); intro v2 w2 ho hgr _; obtain ⟨A2, q2, rfl⟩ := ownsRow_slice ho; obtain ⟨d3, d4, d5, D⟩ := HG1.out.labels (Nat.lt_succ_self _) (Nat.lt_succ_self _) (Nat.le_refl _) ho hgr; have HG2 := Lib.hid D; clear D ho hgr)))
          go_roundw
          case rel =>
            have e := HT.out
            have g := HG2.out
            rw [show (t : Int) + (k : Int) = ((i * n + k : Nat) : Int) by omega, ← gridL_succ, ← gridP_succ hlt2] at g
            exact ⟨k + 1, _, _, by omega, by go_num, g⟩
          case measure => simp [intOf]; omega
        · have hkn : k = n := by omega
          subst hkn
          have HG := Lib.hid hg
          clear hg
          go_wp2_with fail
          go_roundw
          case rel =>
            refine ⟨i + 1, uP, uL, by omega, by go_num, ?_⟩
            rw [Nat.succ_mul]
            exact HG.out
          case measure => simp [intOf]; omega
    · have hin : i = n := by omega
      subst hin
      obtain ⟨c0, c1, c2, c3, c4, c5⟩ := hg.cells
      obtain ⟨AP, qP, rfl⟩ := ownsRow_slice hg.p
      obtain ⟨AL, qL, rfl⟩ := ownsRow_slice hg.l
      have HG := Lib.hid hg
      clear hg
      go_wp2_with fail
      have e0 : ((wr.setCell ⟨w.heap.size, 0, none⟩ (.slice AP (gridP i (i * i)).length qP)).setCell ⟨w.heap.size, 1, none⟩ (.slice AL (gridL (i * i)).length qL)).cell? ⟨w.heap.size, 0, none⟩ = some (.slice AP (gridP i (i * i)).length qP) :=
        (World.cell?_setCell_other _ ⟨w.heap.size, 1, none⟩ ⟨w.heap.size, 0, none⟩ _ (by simp)).trans (World.cell?_setCell_same wr ⟨w.heap.size, 0, none⟩ _ c2)
      have e1 : ((wr.setCell ⟨w.heap.size, 0, none⟩ (.slice AP (gridP i (i * i)).length qP)).setCell ⟨w.heap.size, 1, none⟩ (.slice AL (gridL (i * i)).length qL)).cell? ⟨w.heap.size, 1, none⟩ = some (.slice AL (gridL (i * i)).length qL) :=
        World.cell?_setCell_same _ ⟨w.heap.size, 1, none⟩ _ ((World.cell?_setCell_other _ ⟨w.heap.size, 0, none⟩ ⟨w.heap.size, 1, none⟩ _ (by simp)).trans c3)
      refine bodyPost_ret (v := .tuple #[.agg #[.slice AP (gridP i (i * i)).length qP, .slice AL (gridL (i * i)).length qL], .bool true]) (by simp [results, Tryz.results96, go_sem, e0, e1]) rfl ⟨⟨_, rfl, ?_⟩, ?_⟩
      · have hp := ownsRow_setCell_below (ownsRow_setCell_below HG.out.p (a := ⟨w.heap.size, 0, none⟩) (by simp) (.slice AP (gridP i (i * i)).length qP)) (a := ⟨w.heap.size, 1, none⟩) (by simp) (.slice AL (gridL (i * i)).length qL)
        have hl := ownsRow_setCell_below (ownsRow_setCell_below HG.out.l (a := ⟨w.heap.size, 0, none⟩) (by simp) (.slice AP (gridP i (i * i)).length qP)) (a := ⟨w.heap.size, 1, none⟩) (by simp) (.slice AL (gridL (i * i)).length qL)
        exact (owned_tab hp hl).weak (by omega) (.inl (Nat.le_refl _))
      · exact (HG.out.s.setCell (.inr (Nat.le_refl _)) _).setCell (.inr (Nat.le_refl _)) _

theorem spec_gridTable_no (n : Int) (h : n < 1 ∨ 8 < n) (w : World) :
    Calls Tryz.prog 96 #[.int .i64 n] w (GivesTab none w) := by
  have b3 : Hid (decide ((1 : Int) ≤ n ∧ n ≤ 8) = false) := by unfold Hid; rw [decide_eq_false_iff_not]; omega
  clear h
  go_enter Tryz.func96, Tryz.ntmps96
  go_wp2_with fail
  refine (l1In_any _ _ _ _).mono ?_
  rintro _ _ ⟨rfl, rfl⟩
  rw [b3.out]
  go_wp2
  exact bodyPost_ret (v := .tuple #[.agg #[.slice none 0 0, .slice none 0 0], .bool false]) (by simp [results, Tryz.results96, go_sem]) rfl ⟨rfl, (Span.refl _ _ _).alloc _⟩

def gridO (n : Int) : Option Tab := if 1 ≤ n ∧ n ≤ 8 then some (gridT n.toNat) else none

theorem spec_gridTable (n : Int) (w : World) : Calls Tryz.prog 96 #[.int .i64 n] w (GivesTab (gridO n) w) := by
  unfold gridO
  by_cases h : 1 ≤ n ∧ n ≤ 8
  · rw [if_pos h]
    obtain ⟨m, rfl⟩ := Int.eq_ofNat_of_zero_le (show 0 ≤ n by omega)
    exact spec_gridTable_in m (by omega) (by omega) w
  · rw [if_neg h]; exact spec_gridTable_no n (by omega) w

theorem HasTab.none_ (own : Bool) (lo hi : Nat) (w : World) : HasTab own lo hi w (.agg #[.slice none 0 0, .slice none 0 0]) ([], []) :=
  ⟨0, 1, _, _, rfl, by omega, HasS.empty _ _ _ _ _ _ _ _, HasS.empty _ _ _ _ _ _ _ _⟩

/-- The table that is given, or the zero value. -/
def okT (o : Option Tab) : Tab := o.getD ([], [])
def GivesTab' (o : Option Tab) (w : World) (e : Ending) (w' : World) : Prop :=
  ∃ v, e = .returned (.tuple #[v, .bool o.isSome]) ∧ HasTab true w.heap.size w'.heap.size w' v (okT o) ∧ Span 0 0 w w'
theorem GivesTab.plain {o : Option Tab} {w : World} {e : Ending} {w' : World} (h : GivesTab o w e w') : GivesTab' o w e w' := by
  obtain ⟨h1, h2⟩ := h
  cases o with
  | none => exact ⟨_, h1, HasTab.none_ _ _ _ _, h2⟩
  | some t => obtain ⟨v, rfl, h3⟩ := h1; exact ⟨v, rfl, h3, h2⟩

theorem gridO_len (n : Int) : (okT (gridO n)).1.length ≤ 64 ∧ (okT (gridO n)).2.length ≤ 64 := by
  unfold gridO okT
  by_cases h : 1 ≤ n ∧ n ≤ 8
  · rw [if_pos h]
    have : n.toNat * n.toNat ≤ 8 * 8 := Nat.mul_le_mul (by omega) (by omega)
    simp only [Option.getD_some, gridT, gridP_length, gridL_length]
    omega
  · rw [if_neg h]; simp

theorem HasTab.form {own : Bool} {lo hi : Nat} {w : World} {v : Value} {t : Tab} (h : HasTab own lo hi w v t) : ∃ A c A' c', v = .agg #[.slice A t.1.length c, .slice A' t.2.length c'] := by
  obtain ⟨b1, b2, vP, vL, rfl, hne, h1, h2⟩ := h
  obtain ⟨A, c, rfl, _⟩ := h1
  obtain ⟨A', c', rfl, _⟩ := h2
  exact ⟨A, c, A', c', rfl⟩

/-- A box of two cells stays. -/
theorem Span.box2 {lo hi b : Nat} {w w' : World} {u v : Value} (h : Span lo hi w w') (hb : b < w.heap.size) (hd : hi ≤ lo ∨ b < lo ∨ hi ≤ b) (hc : w.cell? ⟨b, 0, none⟩ = some u ∧ w.cell? ⟨b, 1, none⟩ = some v) :
    w'.cell? ⟨b, 0, none⟩ = some u ∧ w'.cell? ⟨b, 1, none⟩ = some v := by
  have e := h.block b hb (by omega)
  exact ⟨(World.cell?_of_block (w := w) (a := ⟨b, 0, none⟩) e).trans hc.1, (World.cell?_of_block (w := w) (a := ⟨b, 1, none⟩) e).trans hc.2⟩
theorem box2_alloc {w : World} {b : Nat} {u v : Value} (hc : w.cell? ⟨b, 0, none⟩ = some u ∧ w.cell? ⟨b, 1, none⟩ = some v) (hb : b < w.heap.size) :
    (∀ o, (w.alloc o).cell? ⟨b, 0, none⟩ = some u) ∧ (∀ o, (w.alloc o).cell? ⟨b, 1, none⟩ = some v) :=
  ⟨fun o => (((Span.refl 0 0 w).alloc o).box2 hb (.inl (Nat.le_refl _)) hc).1, fun o => (((Span.refl 0 0 w).alloc o).box2 hb (.inl (Nat.le_refl _)) hc).2⟩
theorem box2_new (w : World) (u v : Value) (t : TypeId) : (w.alloc (.cells #[u, v] t)).cell? ⟨w.heap.size, 0, none⟩ = some u ∧ (w.alloc (.cells #[u, v] t)).cell? ⟨w.heap.size, 1, none⟩ = some v := by
  constructor <;> rw [World.cell?_alloc_new] <;> rfl
end
end Go.Proofs.YtkjlodoppmipfaaGreat
