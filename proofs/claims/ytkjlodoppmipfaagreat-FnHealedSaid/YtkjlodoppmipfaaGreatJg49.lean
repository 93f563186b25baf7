/- Racks' literals: rows and boxes, world by world. FnHealed: the rack while it is made; two cables are appended in a region that draws its order. -/
import Derived.Test.YtkjlodoppmipfaaGreatJg35
import Derived.Test.YtkjlodoppmipfaaGreatJg37
import Derived.Outline
import Derived.Test.YtkjlodoppmipfaaGreatJg48
import Derived.Test.YtkjlodoppmipfaaGreatJg9
import Derived.Deep.AppendLies
namespace Go.Proofs.YtkjlodoppmipfaaGreat
section
open Go.RowKit

theorem HasC.made {α : Type} {fl : α → List Value} {s : Nat} (hf : ∀ x, (fl x).length = s) (L : List α) (w : World) (t : TypeId) (b : Nat) (hb : b = w.heap.size) : HasC s fl b 0 (w.heap.size + 1) (w.alloc (.cells (flatG fl L).toArray t)) (.slice (some ⟨b, 0, none⟩) L.length L.length) L := by
  subst hb
  refine ⟨_, L.length, rfl, Nat.le_refl _, fun hp => ⟨0, rfl, Nat.zero_le _, Nat.lt_succ_self _, by simp, fun j x i u hj hi => ?_⟩⟩
  have hi' : i < s := by have := (List.getElem?_eq_some_iff.1 hi).1; rw [hf] at this; exact this
  rw [World.cell?_alloc_new, Nat.zero_add, List.getElem?_toArray, flatG_get hf L j x i hj hi']
  exact hi
theorem Bx.made (w : World) (us : Array Value) (t : TypeId) (b : Nat) (hb : b = w.heap.size) : Bx b us (w.alloc (.cells us t)) := by subst hb; exact Bx.new ..
theorem Bx.d {b : Nat} {us : Array Value} {w : World} (h : Bx b us w) : Bx b us w.drew := h
theorem HasC.d {α : Type} {s : Nat} {fl : α → List Value} {b : Nat} {w : World} {v : Value} {L : List α} (h : HasC s fl b 0 w.heap.size w v L) : HasC s fl b 0 w.drew.heap.size w.drew v L := h
theorem HasC.a {α : Type} {s : Nat} {fl : α → List Value} {b : Nat} {w : World} {v : Value} {L : List α} (h : HasC s fl b 0 w.heap.size w v L) (o : Obj) : HasC s fl b 0 (w.alloc o).heap.size (w.alloc o) v L := (h.keep ((Span.refl 0 0 w).alloc o)).weak (Nat.le_refl _) (.inl (by simp))
theorem HasC.k {α : Type} {s : Nat} {fl : α → List Value} {b : Nat} {w w' : World} {v : Value} {L : List α} (h : HasC s fl b 0 w.heap.size w v L) (k : Span 0 0 w w') : HasC s fl b 0 w'.heap.size w' v L := (h.keep k).weak (Nat.le_refl _) (.inl k.size)
theorem HasC.st {α : Type} {s : Nat} {fl : α → List Value} {b B i : Nat} {w : World} {v : Value} {L : List α} (h : HasC s fl b 0 w.heap.size w v L) (u : Value) (hne : B ≠ b) : HasC s fl b 0 (w.setCell ⟨B, i, none⟩ u).heap.size (w.setCell ⟨B, i, none⟩ u) v L := (h.span (setSpan B i u w) (by omega)).weak (Nat.le_refl _) (.inl (setSpan B i u w).size)
theorem HasC.m {α : Type} {fl : α → List Value} {s : Nat} (hf : ∀ x, (fl x).length = s) (L : List α) (w : World) (t : TypeId) (b : Nat) (hb : b = w.heap.size) : HasC s fl b 0 (w.alloc (.cells (flatG fl L).toArray t)).heap.size (w.alloc (.cells (flatG fl L).toArray t)) (.slice (some ⟨b, 0, none⟩) L.length L.length) L := (HasC.made hf L w t b hb).weak (Nat.le_refl _) (.inl (by simp))
/-- A new row of structs, at the beginning of a block. -/
def RowAt {α : Type} (s : Nat) (fl : α → List Value) (Ls : List α) (n : Nat) (w : World) (v : Value) : Prop := ∃ b, v = .slice (some ⟨b, 0, none⟩) n n ∧ HasC s fl b 0 w.heap.size w v Ls
theorem RowAt.k {α : Type} {s : Nat} {fl : α → List Value} {Ls : List α} {n : Nat} {w w' : World} {v : Value} (h : RowAt s fl Ls n w v) (k : Span 0 0 w w') : RowAt s fl Ls n w' v := by
  obtain ⟨b, rfl, h⟩ := h
  exact ⟨b, rfl, h.k k⟩
end
section
open Go.RowKit

set_option maxHeartbeats 400000 in
/-- The same byte each time, as long as old memory stays. -/
theorem at_fixH (A : Option Addr) (n c : Nat) (i : Int) (w : World) (h0 : 0 ≤ i) (h1 : i ≤ 1000) (hn : n ≤ 1048576) (h : HasBy w.heap.size w A n) :
    ∃ v : Int, 0 ≤ v ∧ v ≤ 255 ∧ ∀ w', Span 0 0 w w' → Calls Tryz.prog 8 #[.slice A n c, .int .i64 i] w' fun e w'' => e = .returned (.int .i64 v) ∧ w' = w'' := by
  obtain ⟨k, rfl⟩ := Int.eq_ofNat_of_zero_le h0
  have hn' : (n : Int) ≤ 1048576 := by omega
  have h1' : (k : Int) ≤ 1000 := h1
  clear hn h0 h1
  by_cases hlt : k < n
  · obtain ⟨b, off, rfl, hb, hcell⟩ := h (by omega)
    obtain ⟨u, u0, u1, hu⟩ := hcell k hlt
    refine ⟨u, u0, u1, fun w' s => ?_⟩
    have hu' : w'.cell? ⟨b, off + k, none⟩ = some (.int .u8 u) := ((s.cells (Nat.le_refl _)).1 b _ hb).trans hu
    clear hcell h s hu hb
    go_enter Tryz.func8, Tryz.ntmps8
    go_wp2_with fail
    go_ret
    exact ⟨rfl, rfl⟩
  · have hge : n ≤ k := by omega
    clear h
    refine ⟨((k : Int) * 37 + (n : Int) * 11) % 256, by omega, by omega, fun w' s => ?_⟩
    clear s
    go_enter Tryz.func8, Tryz.ntmps8
    go_wp2_with fail
    go_ret
    exact ⟨rfl, rfl⟩

theorem row_newH (w : World) (L : List Value) (e : TypeId) : ∀ (j : Nat) (u : Value), L[j]? = some u → (w.alloc (.cells L.toArray e)).cell? ((⟨w.heap.size, 0, none⟩ : Addr).add j) = some u := by
  intro j u hj
  have h : (⟨w.heap.size, 0, none⟩ : Addr).add j = ⟨w.heap.size, j, none⟩ := by
    unfold Addr.add
    split
    · rename_i h; subst h; rfl
    · rw [Nat.zero_add]
  rw [h, World.cell?_alloc_new, List.getElem?_toArray]
  exact hj
theorem mw_oneH (x : Mw) : ∀ u ∈ Mw.l x, u.oneCell' = true := by
  intro u hu
  simp only [Mw.l, List.mem_cons, List.not_mem_nil, or_false] at hu
  rcases hu with rfl | rfl | rfl | rfl | rfl | rfl | rfl | rfl | rfl | rfl | rfl <;> rfl
/-- New cells at the beginning of a block. -/
def NewsH (G : Nat) (news : List Value) (w : World) : Prop := G < w.heap.size ∧ ∀ (j : Nat) (u : Value), news[j]? = some u → w.cell? ((⟨G, 0, none⟩ : Addr).add j) = some u
theorem NewsH.new (w : World) (news : List Value) (e : TypeId) : NewsH w.heap.size news (w.alloc (.cells news.toArray e)) := ⟨by simp, row_newH w news e⟩

/-- Values that are known; a row that is built (operation p, slot sp), appended (operation p + 1, slot sp + 1) and stored (operation p + 3). -/
def CabH (wr : World) (RB B0 : Nat) (vM vC : Value) (old news : List Value) (nC p sp : Nat) (D : World → Prop) (sl : List Nat) (vl : List (Option Value)) (L : Nat → Bool) (u : Nat → Value) (w : World) : Prop :=
  (∀ (i s : Nat) (v : Value), sl[i]? = some s → vl[i]? = some (some v) → L i = true → u s = v) ∧
  ((L (p + 1) = false ∧ L (p + 3) = false ∧ Span 0 0 wr w ∧ (L p = true → ∃ G, u sp = .slice (some ⟨G, 0, none⟩) 2 2 ∧ NewsH G news w)) ∨
   (L (p + 1) = true ∧ L (p + 3) = false ∧ ∃ g cap wb, u (sp + 1) = .slice (some ⟨g, 0, none⟩) (nC + 2) cap ∧ Span 0 0 wr wb ∧ wb.grownBy w vC.ownBlock ∧ (vC.ownBlock = some g ∨ g = wb.heap.size) ∧ w.ownsRow B0 42 2 (.slice (some ⟨g, 0, none⟩) (nC + 2) cap) (nC + 2) (old ++ news) ∧ Bx RB #[vM, vC] w) ∨
   (L (p + 3) = true ∧ D w))
section
variable {wr : World} {RB B0 : Nat} {vM vC : Value} {old news : List Value} {nC p sp : Nat} {D : World → Prop} {sl : List Nat} {vl : List (Option Value)} {L : Nat → Bool} {u : Nat → Value} {w : World}
theorem CabH.start (wr : World) (RB B0 : Nat) (vM vC : Value) (old news : List Value) (nC p sp : Nat) (D : World → Prop) (sl : List Nat) (vl : List (Option Value)) (u : Nat → Value) : CabH wr RB B0 vM vC old news nC p sp D sl vl (fun _ => false) u wr.drew :=
  ⟨fun _ _ _ _ _ h => Bool.noConfusion h, .inl ⟨rfl, rfl, (Span.refl 0 0 wr).drew, fun h => Bool.noConfusion h⟩⟩
theorem or_neH {L : Nat → Bool} {i j : Nat} (h : j ≠ i) : (L j || j == i) = L j := by
  have : (j == i) = false := by simp; omega
  rw [this, Bool.or_false]
theorem cabH_known {s0 i0 : Nat} {v0 : Option Value} (hn : sl.Nodup) (hs : sl[i0]? = some s0) (hv : vl[i0]? = some v0) (x : Value) (hx : ∀ y, v0 = some y → x = y) (h : ∀ (i s : Nat) (v : Value), sl[i]? = some s → vl[i]? = some (some v) → L i = true → u s = v) :
    ∀ (i s : Nat) (v : Value), sl[i]? = some s → vl[i]? = some (some v) → (L i || i == i0) = true → updO u (some s0) x s = v := by
  intro i s v h1 h2 h3
  show (if s = s0 then x else u s) = v
  by_cases hi : i = i0
  · subst hi
    rw [hs] at h1; injection h1 with h1
    rw [hv] at h2; injection h2 with h2
    rw [if_pos h1.symm]
    exact hx v h2
  · rw [if_neg (fun e => hi (nodup_at hn (by rw [← e]; exact h1) hs))]
    rw [or_neH hi] at h3
    exact h i s v h1 h2 h3
theorem CabH.val (h : CabH wr RB B0 vM vC old news nC p sp D sl vl L u w) (hn : sl.Nodup) (i s : Nat) (v : Value) (hs : sl[i]? = some s) (hv : vl[i]? = some (some v)) (h1 : i ≠ p) (h2 : i ≠ p + 1) (h3 : i ≠ p + 3) (h4 : s ≠ sp) (h5 : s ≠ sp + 1) : CabH wr RB B0 vM vC old news nC p sp D sl vl (fun j => L j || j == i) (updO u (some s) v) w := by
  obtain ⟨a, b⟩ := h
  refine ⟨cabH_known hn hs hv v (fun y hy => by injection hy) a, ?_⟩
  have e1 : updO u (some s) v sp = u sp := if_neg (fun e => h4 e.symm)
  have e2 : updO u (some s) v (sp + 1) = u (sp + 1) := if_neg (fun e => h5 e.symm)
  dsimp only
  rw [or_neH (L := L) (Ne.symm h2), or_neH (L := L) (Ne.symm h3), or_neH (L := L) (Ne.symm h1), e1, e2]
  exact b
theorem CabH.p1 (h : CabH wr RB B0 vM vC old news nC p sp D sl vl L u w) (h1 : L (p + 1) = false) (h2 : L (p + 3) = false) : Span 0 0 wr w ∧ (L p = true → ∃ G, u sp = .slice (some ⟨G, 0, none⟩) 2 2 ∧ NewsH G news w) := by
  obtain ⟨_, ⟨_, _, a, b⟩ | ⟨a, _⟩ | ⟨a, _⟩⟩ := h
  · exact ⟨a, b⟩
  · rw [h1] at a; cases a
  · rw [h2] at a; cases a
theorem CabH.p2 (h : CabH wr RB B0 vM vC old news nC p sp D sl vl L u w) (h1 : L (p + 1) = true) (h2 : L (p + 3) = false) : ∃ g cap wb, u (sp + 1) = .slice (some ⟨g, 0, none⟩) (nC + 2) cap ∧ Span 0 0 wr wb ∧ wb.grownBy w vC.ownBlock ∧ (vC.ownBlock = some g ∨ g = wb.heap.size) ∧ w.ownsRow B0 42 2 (.slice (some ⟨g, 0, none⟩) (nC + 2) cap) (nC + 2) (old ++ news) ∧ Bx RB #[vM, vC] w := by
  obtain ⟨_, ⟨a, _⟩ | ⟨_, _, a⟩ | ⟨a, _⟩⟩ := h
  · rw [h1] at a; cases a
  · exact a
  · rw [h2] at a; cases a
theorem CabH.p3 (h : CabH wr RB B0 vM vC old news nC p sp D sl vl L u w) (h1 : L (p + 3) = true) : D w := by
  obtain ⟨_, ⟨_, a, _⟩ | ⟨_, a, _⟩ | ⟨_, a⟩⟩ := h
  · rw [h1] at a; cases a
  · rw [h1] at a; cases a
  · exact a
theorem CabH.mk_ (h : CabH wr RB B0 vM vC old news nC p sp D sl vl L u w) (hn : sl.Nodup) (hs : sl[p]? = some sp) (hv : vl[p]? = some none) (h1 : L (p + 1) = false) (h2 : L (p + 3) = false) (e : TypeId) : CabH wr RB B0 vM vC old news nC p sp D sl vl (fun j => L j || j == p) (updO u (some sp) (.slice (some ⟨w.heap.size, 0, none⟩) 2 2)) (w.alloc (.cells news.toArray e)) := by
  have s := (h.p1 h1 h2).1
  refine ⟨cabH_known hn hs hv _ (fun y hy => by cases hy) h.1, .inl ⟨?_, ?_, s.alloc _, fun _ => ⟨w.heap.size, if_pos rfl, NewsH.new w news e⟩⟩⟩
  · exact (or_neH (L := L) (i := p) (j := p + 1) (by omega)).trans h1
  · exact (or_neH (L := L) (i := p) (j := p + 3) (by omega)).trans h2
theorem CabH.app (h : CabH wr RB B0 vM vC old news nC p sp D sl vl L u w) (hn : sl.Nodup) (hs : sl[p + 1]? = some (sp + 1)) (hv : vl[p + 1]? = some none) (h1 : L (p + 1) = false) (h2 : L (p + 3) = false) {g cap : Nat} {w' : World} (hg : w.grownBy w' vC.ownBlock) (hat : vC.ownBlock = some g ∨ g = w.heap.size) (ho : w'.ownsRow B0 42 2 (.slice (some ⟨g, 0, none⟩) (nC + 2) cap) (nC + 2) (old ++ news)) (hb : Bx RB #[vM, vC] w') : CabH wr RB B0 vM vC old news nC p sp D sl vl (fun j => L j || j == p + 1) (updO u (some (sp + 1)) (.slice (some ⟨g, 0, none⟩) (nC + 2) cap)) w' := by
  have s := (h.p1 h1 h2).1
  refine ⟨cabH_known hn hs hv _ (fun y hy => by cases hy) h.1, .inr (.inl ⟨?_, ?_, g, cap, w, if_pos rfl, s, hg, hat, ho, hb⟩)⟩
  · simp
  · exact (or_neH (L := L) (i := p + 1) (j := p + 3) (by omega)).trans h2
theorem CabH.st (h : CabH wr RB B0 vM vC old news nC p sp D sl vl L u w) (hs : sl[p + 3]? = none) {w' : World} (hd : D w') (v : Value) : CabH wr RB B0 vM vC old news nC p sp D sl vl (fun j => L j || j == p + 3) (updO u none v) w' :=
  ⟨fun i s x h1 h2 h3 => by
    by_cases hi : i = p + 3
    · rw [hi, hs] at h1; cases h1
    · exact h.1 i s x h1 h2 ((or_neH (L := L) hi).symm.trans h3), .inr (.inr ⟨by simp, hd⟩)⟩
end

theorem csOf_congrH {fa fb : Nat → Nat} : ∀ {k : Nat}, (∀ i, i < k → fa i = fb i) → csOf fa k = csOf fb k
  | 0, _ => rfl
  | k + 1, h => by rw [csOf, csOf, csOf_congrH (fun i hi => h i (by omega)), h k (by omega)]
theorem csOf_lenH (fa : Nat → Nat) : ∀ k, (csOf fa (k + 1)).length = 2 * k
  | 0 => rfl
  | k + 1 => by rw [csOf, List.length_append, csOf_lenH fa k, if_neg (by omega)]; simp; omega
theorem gs_grown {w w1 : World} {row : Option Nat} (g : w.grownBy w1 row) : Keeps row.toList w w1 :=
  ⟨g.os, g.tape, g.output, g.size, fun k hk hn => g.block k hk (fun e => hn (by rw [← e]; simp))⟩
/-- The rack, while it is being made. -/
structure GsJ (lv : Nat → Option Nat) (fa : Nat → Nat) (vM vC : Value) (Ms : List Mw) (RB B0 : Nat) (w0 : World) (km kc : Nat) (w : World) : Prop where
  lvl : ∀ i h, lv i = some h → h ≤ 4
  fal : ∀ i, 0 < i → fa i < i
  box : Bx RB #[vM, vC] w
  om : w.ownsRow B0 32 11 vM km (flatG Mw.l Ms)
  oc : w.ownsRow B0 42 2 vC (csOf fa kc).length (flatG cabC (csOf fa kc))
  ap : ∀ b, vM.ownBlock = some b → vC.ownBlock = some b → False
  offM : vM.ownBlock ≠ some RB
  offC : vC.ownBlock ≠ some RB
  len : Ms.length = km
  is : ∀ i x, Ms[i]? = some x → IsH lv i x
  span : Span 0 0 w0 w
  low : w0.heap.size ≤ B0 ∧ w0.heap.size ≤ RB ∧ B0 ≤ w.heap.size
section
variable {lv : Nat → Option Nat} {fa : Nat → Nat} {vM vC : Value} {Ms : List Mw} {RB B0 : Nat} {w0 : World}
theorem GsJ.keep {km kc : Nat} {w w' : World} (h : GsJ lv fa vM vC Ms RB B0 w0 km kc w) (s : Span 0 0 w w') : GsJ lv fa vM vC Ms RB B0 w0 km kc w' :=
  ⟨h.lvl, h.fal, h.box.keep s, ownsRow_farK h.om s (.inl (Nat.le_refl _)), ownsRow_farK h.oc s (.inl (Nat.le_refl _)), h.ap, h.offM, h.offC, h.len, h.is, h.span.trans s, h.low.1, h.low.2.1, Nat.le_trans h.low.2.2 s.size⟩
theorem gs_mod {k kc : Nat} {wr wb w6 : World} (h : GsJ lv fa vM vC Ms RB B0 w0 k kc wr) (hk0 : k ≠ 0) (s : Span 0 0 wr wb) (l : Option Nat) (x : Mw) (hx : x = match l with | none => mSum | some h => mGain (lvl h)) (hl : ∀ h, l = some h → h ≤ 4) {g c : Nat}
    (ho : w6.ownsRow B0 32 11 (.slice (some ⟨g, 0, none⟩) (k + 1) c) (k + 1) (flatG Mw.l Ms ++ x.l)) (hgr : wb.grownBy w6 vM.ownBlock) (hat : vM.ownBlock = some g ∨ g = wb.heap.size) :
    GsJ (fun j => if j = k then l else lv j) fa (.slice (some ⟨g, 0, none⟩) (k + 1) c) vC (Ms ++ [x]) RB B0 w0 (k + 1) kc (w6.setCell ⟨RB, 0, none⟩ (.slice (some ⟨g, 0, none⟩) (k + 1) c)) := by
  have own := h.om.lt
  have ownC := h.oc.lt
  have hz := s.size
  have hRB := h.box.1
  have hlow := h.low
  have hgz := hgr.size
  have hgne : g ≠ RB := fun e => by
    rcases hat with h5 | h5
    · exact h.offM (by rw [h5, e])
    · omega
  refine ⟨fun i n hi => ?_, h.fal, ?_, ?_, ?_, fun b h1 h2 => ?_, fun e => ?_, h.offC, by rw [List.length_append, h.len]; rfl, fun i y hy => ?_, ?_, hlow.1, hlow.2.1, ?_⟩
  · have hi : (if i = k then l else lv i) = some n := hi
    split at hi
    · exact hl n hi
    · exact h.lvl i n hi
  · have h1 := ((h.box.keep s).grown hgr h.offM).set 0 (.slice (some ⟨g, 0, none⟩) (k + 1) c) (by simp)
    simpa using h1
  · have h1 := ownsRow_span ho (setSpan RB 0 (.slice (some ⟨g, 0, none⟩) (k + 1) c) w6) (fun b hb => by rw [ownBlock_slice] at hb; injection hb with hb; omega)
    have e : flatG Mw.l (Ms ++ [x]) = flatG Mw.l Ms ++ x.l := by unfold flatG; simp
    rw [e]; exact h1
  · have h4 := (ownsRow_farK h.oc s (.inl (Nat.le_refl _))).kept hgr (by
      cases hb : vC.ownBlock with
      | none => exact .inl rfl
      | some b => exact .inr (fun e => h.ap b e.symm hb))
    exact ownsRow_span h4 (setSpan RB 0 _ w6) (fun b hb => by have : b ≠ RB := fun e => h.offC (by rw [hb, e]); omega)
  · rw [ownBlock_slice] at h1
    injection h1 with h1
    subst h1
    rcases hat with h5 | h5
    · exact h.ap g h5 h2
    · have := ownC g h2; omega
  · rw [ownBlock_slice] at e; injection e with e; exact hgne e
  · rcases Nat.lt_trichotomy i Ms.length with hlt | heq | hgt
    · rw [List.getElem?_append_left hlt] at hy
      have h3 := h.is i y hy
      have hik : i ≠ k := by have := h.len; omega
      unfold IsH at h3 ⊢
      dsimp only
      rw [if_neg hik]; exact h3
    · subst heq
      rw [List.getElem?_append_right (Nat.le_refl _), Nat.sub_self] at hy
      simp at hy
      have hik : Ms.length = k := h.len
      unfold IsH
      dsimp only
      rw [if_neg (by omega), if_pos hik, ← hy]; exact hx
    · rw [List.getElem?_eq_none (by simp; omega)] at hy; cases hy
  · have kV : Keeps (RB :: vM.ownBlock.toList) wr (w6.setCell ⟨RB, 0, none⟩ (.slice (some ⟨g, 0, none⟩) (k + 1) c)) := ((Keeps.span s).trans ((gs_grown hgr).weak (fun k hk => .inl (List.mem_cons_of_mem _ hk)))).setCell RB 0 (by simp) _
    refine kV.fresh h.span (fun b hb => ?_)
    rcases List.mem_cons.1 hb with rfl | hb
    · omega
    · have := own b (by simpa using hb); omega
  · simp [World.setCell]; omega
theorem gs_cab {k : Nat} {wr wb w6 : World} (h : GsJ lv fa vM vC Ms RB B0 w0 (k + 1) k wr) (hk : 0 < k) (s : Span 0 0 wr wb) (a : Nat) (ha : a < k) {g c : Nat}
    (ho : w6.ownsRow B0 42 2 (.slice (some ⟨g, 0, none⟩) ((csOf fa k).length + 2) c) ((csOf fa k).length + 2) (flatG cabC (csOf fa k) ++ (cabC (a, k) ++ cabC (k - 1, k)))) (hgr : wb.grownBy w6 vC.ownBlock) (hat : vC.ownBlock = some g ∨ g = wb.heap.size) :
    GsJ lv (fun j => if j = k then a else fa j) vM (.slice (some ⟨g, 0, none⟩) ((csOf fa k).length + 2) c) Ms RB B0 w0 (k + 1) (k + 1) (w6.setCell ⟨RB, 1, none⟩ (.slice (some ⟨g, 0, none⟩) ((csOf fa k).length + 2) c)) := by
  have own := h.om.lt
  have ownC := h.oc.lt
  have hz := s.size
  have hRB := h.box.1
  have hlow := h.low
  have hgz := hgr.size
  have hgne : g ≠ RB := fun e => by
    rcases hat with h5 | h5
    · exact h.offC (by rw [h5, e])
    · omega
  have ecs : csOf (fun j => if j = k then a else fa j) (k + 1) = csOf fa k ++ [(a, k), (k - 1, k)] := by
    rw [csOf, if_neg (by omega), csOf_congrH (fb := fa) (fun i hi => by rw [if_neg (by omega)]), if_pos rfl]
  refine ⟨h.lvl, fun i hi => ?_, ?_, ?_, ?_, fun b h1 h2 => ?_, h.offM, fun e => ?_, h.len, h.is, ?_, hlow.1, hlow.2.1, ?_⟩
  · show (if i = k then a else fa i) < i
    split
    · rename_i e; subst e; exact ha
    · exact h.fal i hi
  · have h1 := ((h.box.keep s).grown hgr h.offC).set 1 (.slice (some ⟨g, 0, none⟩) ((csOf fa k).length + 2) c) (by simp)
    simpa using h1
  · have h4 := (ownsRow_farK h.om s (.inl (Nat.le_refl _))).kept hgr (by
      cases hb : vM.ownBlock with
      | none => exact .inl rfl
      | some b => exact .inr (fun e => h.ap b hb e.symm))
    exact ownsRow_span h4 (setSpan RB 1 _ w6) (fun b hb => by have : b ≠ RB := fun e => h.offM (by rw [hb, e]); omega)
  · have h1 := ownsRow_span ho (setSpan RB 1 (.slice (some ⟨g, 0, none⟩) ((csOf fa k).length + 2) c) w6) (fun b hb => by rw [ownBlock_slice] at hb; injection hb with hb; omega)
    rw [ecs]
    have e : flatG cabC (csOf fa k ++ [(a, k), (k - 1, k)]) = flatG cabC (csOf fa k) ++ (cabC (a, k) ++ cabC (k - 1, k)) := by unfold flatG; simp
    rw [e, List.length_append]; exact h1
  · rw [ownBlock_slice] at h2
    injection h2 with h2
    subst h2
    rcases hat with h5 | h5
    · exact h.ap g h1 h5
    · have := own g h1; omega
  · rw [ownBlock_slice] at e; injection e with e; exact hgne e
  · have kV : Keeps (RB :: vC.ownBlock.toList) wr (w6.setCell ⟨RB, 1, none⟩ (.slice (some ⟨g, 0, none⟩) ((csOf fa k).length + 2) c)) := ((Keeps.span s).trans ((gs_grown hgr).weak (fun k hk => .inl (List.mem_cons_of_mem _ hk)))).setCell RB 1 (by simp) _
    refine kV.fresh h.span (fun b hb => ?_)
    rcases List.mem_cons.1 hb with rfl | hb
    · omega
    · have := ownC b (by simpa using hb); omega
  · simp [World.setCell]; omega
/-- The rack, made: what a run of it asks. -/
theorem GsJ.rack {w : World} (h : GsJ lv fa vM vC Ms RB B0 w0 5 5 w) : ∃ bM bC AM cM AC cC, vM = .slice AM 5 cM ∧ vC = .slice AC 8 cC ∧ RkAt w bM bC 0 w.heap.size AM 5 cM AC 8 cC Ms (csOf fa 5) ∧ Reads w Ms rsH := by
  have hl : (csOf fa 5).length = 8 := csOf_lenH fa 4
  have hoc := h.oc
  rw [hl] at hoc
  obtain ⟨AM, cM, rfl⟩ := ownsRow_slice h.om
  obtain ⟨AC, cC, rfl⟩ := ownsRow_slice hoc
  obtain ⟨bM, g1, _, _⟩ := ownsRow_hasC (fl := Mw.l) (by decide) Mw.len h.om
  obtain ⟨bC, g2, _, _⟩ := ownsRow_hasC (by decide) cab_len hoc
  have hform : ∀ (i : Nat) (x : Mw), Ms[i]? = some x → x.S = none ∧ x.sn = 0 ∧ x.sp = 0 ∧ x.P = none ∧ x.pn = 0 ∧ x.pp = 0 ∧ x.L = none ∧ x.ln = 0 ∧ x.lp = 0 := fun i x hx => by
    have h1 := h.is i x hx
    unfold IsH at h1
    split at h1
    · subst h1; exact ⟨rfl, rfl, rfl, rfl, rfl, rfl, rfl, rfl, rfl⟩
    · split at h1 <;> subst h1 <;> exact ⟨rfl, rfl, rfl, rfl, rfl, rfl, rfl, rfl, rfl⟩
  refine ⟨bM, bC, AM, cM, AC, cC, rfl, rfl, ⟨g1.weak (Nat.zero_le _) (.inl (Nat.le_refl _)), g2.weak (Nat.zero_le _) (.inl (Nat.le_refl _)), by decide, fun x hx => ?_, fun x hx => ?_⟩, ⟨by simp [rsH, h.len], fun i m r hm hr => ?_⟩⟩
  · obtain ⟨i, hi⟩ := List.getElem?_of_mem hx
    have h1 := h.is i x hi
    unfold IsH at h1
    split at h1
    · subst h1; exact okM_source _ _ _
    · split at h1
      · subst h1; exact okM_sum _
      · subst h1; exact okM_gain _ _
  · have := csOf_lt fa h.fal 5 x hx; omega
  · have hi : i < 5 := by have := (List.getElem?_eq_some_iff.1 hm).1; rw [h.len] at this; exact this
    have hr' : rsH[i]? = some ([], ([], [])) := range_get _ hi
    rw [hr'] at hr
    injection hr with hr
    subst hr
    obtain ⟨f1, f2, f3, f4, f5, f6, f7, f8, f9⟩ := hform i m hm
    obtain ⟨k', t1, t2, s1, s2, lv', S, sn, sp, a, cnt, P, pn, pp, L, ln, lp, c', f⟩ := m
    simp only at f1 f2 f3 f4 f5 f6 f7 f8 f9
    subst f1; subst f2; subst f3; subst f4; subst f5; subst f6; subst f7; subst f8; subst f9
    exact ⟨by decide, rfl, by decide, true, 0, 0, 0, 0, HasS.empty .., ⟨0, 1, _, _, rfl, by decide, HasS.empty .., HasS.empty ..⟩⟩
end
end
end Go.Proofs.YtkjlodoppmipfaaGreat
