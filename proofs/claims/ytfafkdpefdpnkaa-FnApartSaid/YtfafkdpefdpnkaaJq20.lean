/- Labels, and what they are encoded by and decided as. The model's rings: the oldest sample is taken, one is put. -/
import Derived.Test.YtfafkdpefdpnkaaJq14
import Derived.Test.YtfafkdpefdpnkaaJq19
import Derived.Outline
namespace Go.Proofs.Ytfafkdpefdpnkaa
section
open Go.RowKit

def lI (ls : List Nat) : List Int := ls.map Int.ofNat
def zsOf (n : Nat) (ls : List Nat) : List Cx := ls.map fun l => (gridP n (n * n)).getD l (0, 0)
def tsOf (n : Nat) (ls : List Nat) : List Cx := ls.map fun l => turnB ((gridP n (n * n)).getD l (0, 0))
def bkOf (n : Nat) (ls : List Nat) : List Int := ls.map fun l => ((back n l : Nat) : Int)

theorem map_get {α β : Type} {f : α → β} {ls : List α} {j : Nat} {y : β} (h : (ls.map f)[j]? = some y) : ∃ l, ls[j]? = some l ∧ y = f l := by
  rw [List.getElem?_map, Option.map_eq_some_iff] at h
  obtain ⟨l, h1, rfl⟩ := h
  exact ⟨l, h1, rfl⟩

theorem grid_at {n l : Nat} (h : l < n * n) : (gridP n (n * n))[l]? = some ((gridP n (n * n)).getD l (0, 0)) := by
  rw [List.getD_eq_getElem?_getD]
  obtain ⟨p, hp⟩ := getElem?_some (xs := gridP n (n * n)) (j := l) (by rw [gridP_length]; exact h)
  rw [hp]; rfl

theorem grid_encoded {n : Nat} {ls : List Nat} (h : ∀ l ∈ ls, l < n * n) : Encoded (gridT n) (lI ls) (zsOf n ls) := by
  refine ⟨by simp [lI, zsOf], fun j x hj => ?_⟩
  obtain ⟨l, hl, rfl⟩ := map_get hj
  have hlt := h l (List.mem_of_getElem? hl)
  refine ⟨l, _, gridL_get hlt, fun k hk he => ?_, grid_at hlt, ?_⟩
  · obtain ⟨_, e⟩ := gridL_get' he
    have : (l : Int) = (k : Int) := e
    omega
  · rw [zsOf, List.getElem?_map, hl]; rfl

theorem grid_decided {n : Nat} (hn : n ≤ 8) (h0 : 1 ≤ n) {ls : List Nat} (h : ∀ l ∈ ls, l < n * n) : Decided (gridT n) (zsOf n ls) (lI ls) := by
  refine ⟨by simp [lI, zsOf], fun j z hj => ?_⟩
  obtain ⟨l, hl, rfl⟩ := map_get hj
  have hlt := h l (List.mem_of_getElem? hl)
  refine ⟨l, _, _, (grid_placed hn h0).near (by rw [gridP_length]; exact hlt) ((grid_placed hn h0).whole l _ (grid_at hlt)), gridL_get hlt, ?_⟩
  rw [lI, List.getElem?_map, hl]; rfl

theorem turn_at {n l : Nat} (h : l < n * n) : (turnP (gridP n (n * n)))[l]? = some (turnB ((gridP n (n * n)).getD l (0, 0))) := by
  rw [turnP, List.getElem?_map, grid_at h]; rfl

theorem turn_decided {n : Nat} (hn : n ≤ 8) (h0 : 1 ≤ n) {ls : List Nat} (h : ∀ l ∈ ls, l < n * n) : Decided (turnP (gridP n (n * n)), gridL (n * n)) (tsOf n ls) (lI ls) := by
  refine ⟨by simp [lI, tsOf], fun j z hj => ?_⟩
  obtain ⟨l, hl, rfl⟩ := map_get hj
  have hlt := h l (List.mem_of_getElem? hl)
  refine ⟨l, _, _, (turn_placed hn h0).near (by simp [turnP, gridP_length]; exact hlt) ((turn_placed hn h0).whole l _ (turn_at hlt)), gridL_get hlt, ?_⟩
  rw [lI, List.getElem?_map, hl]; rfl

theorem turn_whole {n l : Nat} (hn : n ≤ 8) (h0 : 1 ≤ n) (hlt : l < n * n) : WholeC (turnB ((gridP n (n * n)).getD l (0, 0))) (gco n (back n l)) := by
  rw [back_co h0 hlt]
  exact (grid_turn hn h0 (grid_at hlt)).2

theorem back_decided {n : Nat} (hn : n ≤ 8) (h0 : 1 ≤ n) {ls : List Nat} (h : ∀ l ∈ ls, l < n * n) : Decided (gridT n) (tsOf n ls) (bkOf n ls) := by
  refine ⟨by simp [bkOf, tsOf], fun j z hj => ?_⟩
  obtain ⟨l, hl, rfl⟩ := map_get hj
  have hlt := h l (List.mem_of_getElem? hl)
  have hb := back_lt h0 hlt
  refine ⟨back n l, _, _, (grid_placed hn h0).near (by rw [gridP_length]; exact hb) (turn_whole hn h0 hlt), gridL_get hb, ?_⟩
  rw [bkOf, List.getElem?_map, hl]; rfl

theorem back_equal {n l : Nat} (hn : n ≤ 8) (h0 : 1 ≤ n) (hlt : l < n * n) : eqC ((gridP n (n * n)).getD (back n l) (0, 0)) (turnB ((gridP n (n * n)).getD l (0, 0))) = true := by
  rw [eq_whole ((grid_placed hn h0).whole _ _ (grid_at (back_lt h0 hlt))) (turn_whole hn h0 hlt)]
  simp

theorem turn_mul {n l : Nat} (hn : n ≤ 8) (h0 : 1 ≤ n) (hlt : l < n * n) : mulS ((gridP n (n * n)).getD l (0, 0)) (0, 1065353216) = some (turnB ((gridP n (n * n)).getD l (0, 0))) := (grid_turn hn h0 (grid_at hlt)).1

theorem HasS.addr {α : Type} {val : α → Value} {o : Bool} {b lo hi n c : Nat} {w : World} {A : Option Addr} {xs : List α} (h : HasS val o b lo hi w (.slice A n c) xs) (hp : 0 < xs.length) : ∃ off, A = some ⟨b, off, none⟩ := by
  obtain ⟨A', cap, e, _, hc⟩ := h
  obtain ⟨off, rfl, _⟩ := hc hp
  injection e with e1 _ _
  exact ⟨off, e1⟩
theorem HasS.at_ {α : Type} {val : α → Value} {o : Bool} {b b' off lo hi n c j : Nat} {w : World} {xs : List α} {x : α} (h : HasS val o b lo hi w (.slice (some ⟨b', off, none⟩) n c) xs) (hj : xs[j]? = some x) : w.cell? ⟨b', off + j, none⟩ = some (val x) := by
  obtain ⟨A', cap, e, _, hc⟩ := h
  obtain ⟨off', rfl, _, _, _, hcell, _⟩ := hc (by have := (List.getElem?_eq_some_iff.1 hj).1; omega)
  injection e with e1 _ _
  injection e1 with e1
  injection e1 with e2 e3
  subst e2
  subst e3
  exact hcell j x hj

theorem tsOf_snoc {n k l : Nat} {ls : List Nat} (h : ls[k]? = some l) : tsOf n (ls.take (k + 1)) = tsOf n (ls.take k) ++ [turnB ((gridP n (n * n)).getD l (0, 0))] := by
  rw [take_snoc_of h]; simp [tsOf]
theorem zsOf_get {n k l : Nat} {ls : List Nat} (h : ls[k]? = some l) : (zsOf n ls)[k]? = some ((gridP n (n * n)).getD l (0, 0)) := by
  rw [zsOf, List.getElem?_map, h]; rfl
theorem tsOf_get {n k l : Nat} {ls : List Nat} (h : ls[k]? = some l) : (tsOf n ls)[k]? = some (turnB ((gridP n (n * n)).getD l (0, 0))) := by
  rw [tsOf, List.getElem?_map, h]; rfl
theorem bkOf_get {n k l : Nat} {ls : List Nat} (h : ls[k]? = some l) : (bkOf n ls)[k]? = some ((back n l : Nat) : Int) := by
  rw [bkOf, List.getElem?_map, h]; rfl
theorem HasTab.points {own : Bool} {lo hi : Nat} {w : World} {vP vL : Value} {t : Tab} (h : HasTab own lo hi w (.agg #[vP, vL]) t) : ∃ b, HasS cxV own b lo hi w vP t.1 := by
  obtain ⟨b1, b2, uP, uL, e, _, h1, _⟩ := h
  injection e with e
  have := congrArg (fun a : Array Value => a[0]?) e
  simp at this
  subst this
  exact ⟨b1, h1⟩
theorem turnP_length (n t : Nat) : (turnP (gridP n t)).length = t := by simp [turnP, gridP_length]
end
section
open Go.RowKit

def TakenL (r : Rn) (w : World) (e : Ending) (w' : World) : Prop :=
  ∃ v b, e = .returned (.tuple #[.agg #[v, .int .i64 ((takeR r).2.1 : Int), .int .i64 ((takeR r).2.2 : Int)], .complex .f32 (itemR r.1 r.2.1 0).1 (itemR r.1 r.2.1 0).2]) ∧ HasS cxV true b w.heap.size w'.heap.size w' v (takeR r).1 ∧ Span 0 0 w w'
def PushedL (r : Rn) (z : Cx) (w : World) (e : Ending) (w' : World) : Prop :=
  ∃ v b, e = .returned (.tuple #[.agg #[v, .int .i64 ((pushR r z).2.1 : Int), .int .i64 ((pushR r z).2.2 : Int)], .complex .f32 (oldR r).1 (oldR r).2]) ∧ HasS cxV true b w.heap.size w'.heap.size w' v (pushR r z).1 ∧ Span 0 0 w w'

set_option maxRecDepth 100000 in
set_option maxHeartbeats 8000000 in
theorem l4Take_any (r : Rn) (hv : VR r) (hp : 0 < r.2.2) (o : Bool) (b lo hi : Nat) (v : Value) (w : World) (hx : HasS cxV o b lo hi w v r.1) :
    Calls Try.prog 63 #[.agg #[v, .int .i64 (r.2.1 : Int), .int .i64 (r.2.2 : Int)]] w (TakenL r w) := by
  obtain ⟨xs, a, k⟩ := r
  have HX := Lib.hid hx
  have h1 := hv.pos
  have h2 := hv.most
  have h3 := hv.at_
  have h4 := hv.cnt
  have hit := itemR_get (a := a) (j := 0) h1
  unfold TakenL takeR
  simp only at *
  rw [Nat.add_zero, Nat.mod_eq_of_lt h3] at hit
  obtain ⟨⟨z1, z2⟩, hz⟩ : ∃ z, z = itemR xs a 0 := ⟨_, rfl⟩
  rw [← hz] at hit ⊢
  obtain ⟨A, p, rfl, -, -⟩ := hx
  obtain ⟨n, hn⟩ : ∃ n, n = xs.length := ⟨_, rfl⟩
  have HN := Lib.hid hn
  rw [← hn] at h1 h2 h3 h4 HX ⊢
  have HIT := Lib.hid hit
  have HB := Lib.hid (show 1 ≤ n ∧ n ≤ 16 ∧ a < n ∧ 0 < k ∧ k ≤ n from ⟨h1, h2, h3, hp, h4⟩)
  rw [show ((k - 1 : Nat) : Int) = (k : Int) - 1 by omega]
  obtain ⟨a', ha'⟩ : ∃ a', a' = (a + 1) % n := ⟨_, rfl⟩
  have i2 : ((a : Int) + 1).tmod (n : Int) = (a' : Int) := by
    rw [show (a : Int) + 1 = ((a + 1 : Nat) : Int) by omega, ← Int.ofNat_tmod, ha']
  have i3 : (a' : Int) < (n : Int) := by have := Nat.mod_lt (a + 1) (show 0 < n by omega); omega
  rw [← ha']
  have X := Lib.hid (Bx.new w #[.slice A n p, .int .i64 (a : Int), .int .i64 (k : Int)] 52)
  have S0 := Lib.hid ((Span.refl 0 0 w).alloc (.cells #[.slice A n p, .int .i64 (a : Int), .int .i64 (k : Int)] 52))
  have YA := Lib.hid (Bx.new (w.alloc (.cells #[.slice A n p, .int .i64 (a : Int), .int .i64 (k : Int)] 52)) #[.slice none 0 0, .int .i64 0, .int .i64 0] 52)
  rw [show (w.alloc (.cells #[.slice A n p, .int .i64 (a : Int), .int .i64 (k : Int)] 52)).heap.size = w.heap.size + 1 by simp] at YA
  have LCP := Lib.hid (fun w (h : HasS cxV o b lo hi w (.slice A n p) xs) => l4Copy_any xs (a : Int) (k : Int) o b lo hi _ w h (by omega))
  clear hn hit hz hv h1 h2 h3 h4 hp ha'
  go_enter Try.func63, Try.ntmps63
  go_wp2_with fail
  have SA := Lib.hid (S0.out.alloc (.cells #[.slice none 0 0, .int .i64 0, .int .i64 0] 52))
  refine (LCP.out _ (HX.out.span SA.out (.inl (Nat.le_refl _)))).mono ?_
  rintro _ w2 ⟨v2, b2, rfl, h2, s2⟩
  obtain ⟨A2, p2, rfl, -, -⟩ := id h2
  obtain ⟨off2, rfl, g1, g2, g3⟩ := h2.addrT (by have := HN.out; have := HB.out; omega)
  rw [← HN.out] at h2 ⊢
  have Z1 : Hid (w.heap.size + 2 ≤ b2) := by unfold Hid; simp at g1; omega
  have HBL := Lib.hid g2
  have c2 := h2.alloc (.cells #[.slice (some ⟨b2, off2, none⟩) n p2, .int .i64 (a : Int), .int .i64 (k : Int)] 52)
  have Y2 := (YA.out.keep s2).alloc (.cells #[.slice (some ⟨b2, off2, none⟩) n p2, .int .i64 (a : Int), .int .i64 (k : Int)] 52)
  have S2 := Lib.hid ((SA.out.trans s2).alloc (.cells #[.slice (some ⟨b2, off2, none⟩) n p2, .int .i64 (a : Int), .int .i64 (k : Int)] 52))
  have P2 := Bx.new w2 #[.slice (some ⟨b2, off2, none⟩) n p2, .int .i64 (a : Int), .int .i64 (k : Int)] 52
  have H2 := Lib.hid c2
  have n1 : ¬ b2 = w2.heap.size := by omega
  have n2 : ¬ w2.heap.size = b2 := by omega
  have n3 : ¬ b2 = w.heap.size + 1 := by have := Z1.out; omega
  have n4 : ¬ w.heap.size + 1 = b2 := by have := Z1.out; omega
  have n5 : ¬ w2.heap.size = w.heap.size + 1 := by have := Z1.out; omega
  have n6 : ¬ w.heap.size + 1 = w2.heap.size := by have := Z1.out; omega
  have HPB := Lib.hid (show b2 < w2.heap.size by omega)
  have hck := c2.at_ HIT.out
  obtain ⟨-, hfz⟩ := c2.cellT (show a < xs.length by rw [← HN.out]; exact HB.out.2.2.1)
  have px := P2.cells
  have pf := P2.thaw
  have yx := Y2.cells
  have yf := Y2.thaw
  have YO := Lib.hid Y2
  have PO := Lib.hid P2
  have j0 : (0 : Int) ≤ (a : Int) := by omega
  have j1 : (a : Int) < (n : Int) := by have := HB.out; omega
  have j2 : ¬ ((n : Int) = 0) := by have := HB.out; omega
  have j3 : ¬ (n = 0) := by have := HB.out; omega
  have j4 : (n : Int) ≤ 16 := by have := HB.out; omega
  have j5 : (k : Int) ≤ 16 := by have := HB.out; omega
  have j6 : (0 : Int) < (k : Int) := by have := HB.out; omega
  have ZW := Lib.hid (show w2.heap.size + 1 = (w2.alloc (.cells #[.slice (some ⟨b2, off2, none⟩) n p2, .int .i64 (a : Int), .int .i64 (k : Int)] 52)).heap.size by simp)
  clear h2 s2 g1 g2 g3 c2 P2 Y2
  have lo2 := Lib.hid (show w.heap.size + 2 ≤ w2.heap.size by have := Z1.out; have := HPB.out; omega)
  go_wp2_with fail
  have hbb := Z1.out
  have hpb := HPB.out
  have hl2 := lo2.out
  have H3 := H2.out.put a (0, 0) (by rw [← HN.out]; exact HB.out.2.2.1)
  have PS := ((PO.out.other (a := ⟨b2, off2 + a, none⟩) n1 (.complex .f32 0 0)).set 1 (.int .i64 (a' : Int)) (by simp)).set 2 (.int .i64 ((k : Int) - 1)) (by simp)
  have YS := (((YO.out.other (a := ⟨b2, off2 + a, none⟩) (by simp only; omega) (.complex .f32 0 0)).other (a := ⟨w2.heap.size, 1, none⟩) n5 (.int .i64 (a' : Int))).other (a := ⟨w2.heap.size, 2, none⟩) n5 (.int .i64 ((k : Int) - 1))).set3 (.slice (some ⟨b2, off2, none⟩) n p2) (.int .i64 (a' : Int)) (.int .i64 ((k : Int) - 1))
  have d1 := YS.cells
  have Q1 := ((((S2.out.setCell (p := ⟨b2, off2 + a, none⟩) (.inr (by simp only; omega)) (.complex .f32 0 0)).setCell (p := ⟨w2.heap.size, 1, none⟩) (.inr (by simp only; omega)) (.int .i64 (a' : Int))).setCell (p := ⟨w2.heap.size, 2, none⟩) (.inr (by simp only; omega)) (.int .i64 ((k : Int) - 1)))).set3 (b := w.heap.size + 1) (by omega) (.slice (some ⟨b2, off2, none⟩) n p2) (.int .i64 (a' : Int)) (.int .i64 ((k : Int) - 1))
  have T1 := ((Span.refl w2.heap.size (w2.heap.size + 1) ((w2.alloc (.cells #[.slice (some ⟨b2, off2, none⟩) n p2, .int .i64 (a : Int), .int .i64 (k : Int)] 52)).setCell ⟨b2, off2 + a, none⟩ (.complex .f32 0 0))).setCell (p := ⟨w2.heap.size, 1, none⟩) (.inl ⟨Nat.le_refl _, Nat.lt_succ_self _⟩) (.int .i64 (a' : Int))).setCell (p := ⟨w2.heap.size, 2, none⟩) (.inl ⟨Nat.le_refl _, Nat.lt_succ_self _⟩) (.int .i64 ((k : Int) - 1))
  have H4 := (show HasS cxV true b2 _ _ ((w2.alloc (.cells #[.slice (some ⟨b2, off2, none⟩) n p2, .int .i64 (a : Int), .int .i64 (k : Int)] 52)).setCell ⟨b2, off2 + a, none⟩ (.complex .f32 0 0)) (.slice (some ⟨b2, off2, none⟩) n p2) (xs.set a (0, 0)) from H3).span T1 (.inr (.inr (.inr (.inl hpb))))
  have T2 := (Span.refl (w.heap.size + 1) (w.heap.size + 2) ((((w2.alloc (.cells #[.slice (some ⟨b2, off2, none⟩) n p2, .int .i64 (a : Int), .int .i64 (k : Int)] 52)).setCell ⟨b2, off2 + a, none⟩ (.complex .f32 0 0)).setCell ⟨w2.heap.size, 1, none⟩ (.int .i64 (a' : Int))).setCell ⟨w2.heap.size, 2, none⟩ (.int .i64 ((k : Int) - 1)))).put3 (b := w.heap.size + 1) (by omega) (.slice (some ⟨b2, off2, none⟩) n p2) (.int .i64 (a' : Int)) (.int .i64 ((k : Int) - 1))
  have H5 := H4.span T2 (.inr (.inr (.inr (.inr (by omega)))))
  refine bodyPost_ret (v := .tuple #[.agg #[(.slice (some ⟨b2, off2, none⟩) n p2), .int .i64 (a' : Int), .int .i64 ((k : Int) - 1)], .complex .f32 z1 z2]) (by simp [results, Try.results63, go_sem, d1, cxV]) rfl ⟨_, b2, rfl, ?_, Q1⟩
  exact H5.weak (by simp <;> omega) (.inr (by simp [World.setCell]))
end
end Go.Proofs.Ytfafkdpefdpnkaa
