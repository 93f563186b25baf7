/- FnSuperposed: two cables are appended in a region that draws its order. FnSuperposed: two lists that grow side by side. -/
import Derived.Test.YtpiiflhdllpoiaaJq49
import Derived.Test.YtpiiflhdllpoiaaJq10
import Derived.Outline
namespace Go.Proofs.Ytpiiflhdllpoiaa
section
open Go.RowKit

set_option maxHeartbeats 400000 in
/-- The same byte each time, as long as old memory stays. -/
theorem at_fixS (A : Option Addr) (n c : Nat) (i : Int) (w : World) (h0 : 0 ≤ i) (h1 : i ≤ 1000) (hn : n ≤ 1048576) (h : HasBy w.heap.size w A n) :
    ∃ v : Int, 0 ≤ v ∧ v ≤ 255 ∧ ∀ w', Span 0 0 w w' → Calls Try.prog 6 #[.slice A n c, .int .i64 i] w' fun e w'' => e = .returned (.int .i64 v) ∧ w' = w'' := by
  obtain ⟨k, rfl⟩ := Int.eq_ofNat_of_zero_le h0
  have hn' : (n : Int) ≤ 1048576 := by omega
  have h1' : (k : Int) ≤ 1000 := h1
  clear hn h0 h1
  by_cases hlt : k < n
  · obtain ⟨b, off, rfl, hb, hcell⟩ := h (by omega)
    obtain ⟨u, u0, u1, hu⟩ := hcell k hlt
    refine ⟨u, u0, u1, fun w' s => ?_⟩
    have hu' : w'.cell? ⟨b, off + k, none⟩ = some (.int .u8 u) := ((s.cells (Nat.le_refl _)).1 b _ hb).trans hu
    clear hcell h s hu hb
    go_enter Try.func6, Try.ntmps6
    go_wp2_with fail
    go_ret
    exact ⟨rfl, rfl⟩
  · have hge : n ≤ k := by omega
    clear h
    refine ⟨((k : Int) * 37 + (n : Int) * 11) % 256, by omega, by omega, fun w' s => ?_⟩
    clear s
    go_enter Try.func6, Try.ntmps6
    go_wp2_with fail
    go_ret
    exact ⟨rfl, rfl⟩

/-- New cells at the beginning of a block. -/
def NewsAt (G : Nat) (news : List Value) (w : World) : Prop := G < w.heap.size ∧ ∀ (j : Nat) (u : Value), news[j]? = some u → w.cell? ((⟨G, 0, none⟩ : Addr).add j) = some u
theorem NewsAt.new (w : World) (news : List Value) (e : TypeId) : NewsAt w.heap.size news (w.alloc (.cells news.toArray e)) := ⟨by simp, row_new w news e⟩

/-- Values that are known; a row that is built (operation p, slot sp), appended (operation p + 1, slot sp + 1) and stored (operation p + 3). -/
def CabI (wr : World) (RB : Nat) (vM vC : Value) (old news : List Value) (nC p sp : Nat) (D : World → Prop) (sl : List Nat) (vl : List (Option Value)) (L : Nat → Bool) (u : Nat → Value) (w : World) : Prop :=
  (∀ (i s : Nat) (v : Value), sl[i]? = some s → vl[i]? = some (some v) → L i = true → u s = v) ∧
  ((L (p + 1) = false ∧ L (p + 3) = false ∧ Span 0 0 wr w ∧ (L p = true → ∃ G, u sp = .slice (some ⟨G, 0, none⟩) 2 2 ∧ NewsAt G news w)) ∨
   (L (p + 1) = true ∧ L (p + 3) = false ∧ ∃ g cap wb, u (sp + 1) = .slice (some ⟨g, 0, none⟩) (nC + 2) cap ∧ Span 0 0 wr wb ∧ wb.grownBy w vC.ownBlock ∧ (vC.ownBlock = some g ∨ g = wb.heap.size) ∧ w.ownsRow (RB + 1) 40 2 (.slice (some ⟨g, 0, none⟩) (nC + 2) cap) (nC + 2) (old ++ news) ∧ Bx RB #[vM, vC] w) ∨
   (L (p + 3) = true ∧ D w))
section
variable {wr : World} {RB : Nat} {vM vC : Value} {old news : List Value} {nC p sp : Nat} {D : World → Prop} {sl : List Nat} {vl : List (Option Value)} {L : Nat → Bool} {u : Nat → Value} {w : World}
theorem CabI.start (wr : World) (RB : Nat) (vM vC : Value) (old news : List Value) (nC p sp : Nat) (D : World → Prop) (sl : List Nat) (vl : List (Option Value)) (u : Nat → Value) : CabI wr RB vM vC old news nC p sp D sl vl (fun _ => false) u wr.drew :=
  ⟨fun _ _ _ _ _ h => Bool.noConfusion h, .inl ⟨rfl, rfl, (Span.refl 0 0 wr).drew, fun h => Bool.noConfusion h⟩⟩
theorem or_ne {L : Nat → Bool} {i j : Nat} (h : j ≠ i) : (L j || j == i) = L j := by
  have : (j == i) = false := by simp; omega
  rw [this, Bool.or_false]
theorem cabI_known {s0 i0 : Nat} {v0 : Option Value} (hn : sl.Nodup) (hs : sl[i0]? = some s0) (hv : vl[i0]? = some v0) (x : Value) (hx : ∀ y, v0 = some y → x = y) (h : ∀ (i s : Nat) (v : Value), sl[i]? = some s → vl[i]? = some (some v) → L i = true → u s = v) :
    ∀ (i s : Nat) (v : Value), sl[i]? = some s → vl[i]? = some (some v) → (L i || i == i0) = true → updO u (some s0) x s = v := by
  intro i s v h1 h2 h3
  show (if s = s0 then x else u s) = v
  by_cases hi : i = i0
  · subst hi
    rw [hs] at h1; injection h1 with h1
    rw [hv] at h2; injection h2 with h2
    rw [if_pos h1.symm]
    exact hx v h2
  · rw [if_neg (fun e => hi (nodup_at hn (by rw [← e]; exact h1) hs))]
    rw [or_ne hi] at h3
    exact h i s v h1 h2 h3
theorem CabI.val (h : CabI wr RB vM vC old news nC p sp D sl vl L u w) (hn : sl.Nodup) (i s : Nat) (v : Value) (hs : sl[i]? = some s) (hv : vl[i]? = some (some v)) (h1 : i ≠ p) (h2 : i ≠ p + 1) (h3 : i ≠ p + 3) (h4 : s ≠ sp) (h5 : s ≠ sp + 1) : CabI wr RB vM vC old news nC p sp D sl vl (fun j => L j || j == i) (updO u (some s) v) w := by
  obtain ⟨a, b⟩ := h
  refine ⟨cabI_known hn hs hv v (fun y hy => by injection hy) a, ?_⟩
  have e1 : updO u (some s) v sp = u sp := if_neg (fun e => h4 e.symm)
  have e2 : updO u (some s) v (sp + 1) = u (sp + 1) := if_neg (fun e => h5 e.symm)
  dsimp only
  rw [or_ne (L := L) (Ne.symm h2), or_ne (L := L) (Ne.symm h3), or_ne (L := L) (Ne.symm h1), e1, e2]
  exact b
theorem CabI.p1 (h : CabI wr RB vM vC old news nC p sp D sl vl L u w) (h1 : L (p + 1) = false) (h2 : L (p + 3) = false) : Span 0 0 wr w ∧ (L p = true → ∃ G, u sp = .slice (some ⟨G, 0, none⟩) 2 2 ∧ NewsAt G news w) := by
  obtain ⟨_, ⟨_, _, a, b⟩ | ⟨a, _⟩ | ⟨a, _⟩⟩ := h
  · exact ⟨a, b⟩
  · rw [h1] at a; cases a
  · rw [h2] at a; cases a
theorem CabI.p2 (h : CabI wr RB vM vC old news nC p sp D sl vl L u w) (h1 : L (p + 1) = true) (h2 : L (p + 3) = false) : ∃ g cap wb, u (sp + 1) = .slice (some ⟨g, 0, none⟩) (nC + 2) cap ∧ Span 0 0 wr wb ∧ wb.grownBy w vC.ownBlock ∧ (vC.ownBlock = some g ∨ g = wb.heap.size) ∧ w.ownsRow (RB + 1) 40 2 (.slice (some ⟨g, 0, none⟩) (nC + 2) cap) (nC + 2) (old ++ news) ∧ Bx RB #[vM, vC] w := by
  obtain ⟨_, ⟨a, _⟩ | ⟨_, _, a⟩ | ⟨a, _⟩⟩ := h
  · rw [h1] at a; cases a
  · exact a
  · rw [h2] at a; cases a
theorem CabI.p3 (h : CabI wr RB vM vC old news nC p sp D sl vl L u w) (h1 : L (p + 3) = true) : D w := by
  obtain ⟨_, ⟨_, a, _⟩ | ⟨_, a, _⟩ | ⟨_, a⟩⟩ := h
  · rw [h1] at a; cases a
  · rw [h1] at a; cases a
  · exact a
theorem CabI.mk_ (h : CabI wr RB vM vC old news nC p sp D sl vl L u w) (hn : sl.Nodup) (hs : sl[p]? = some sp) (hv : vl[p]? = some none) (h1 : L (p + 1) = false) (h2 : L (p + 3) = false) (e : TypeId) : CabI wr RB vM vC old news nC p sp D sl vl (fun j => L j || j == p) (updO u (some sp) (.slice (some ⟨w.heap.size, 0, none⟩) 2 2)) (w.alloc (.cells news.toArray e)) := by
  have s := (h.p1 h1 h2).1
  refine ⟨cabI_known hn hs hv _ (fun y hy => by cases hy) h.1, .inl ⟨?_, ?_, s.alloc _, fun _ => ⟨w.heap.size, if_pos rfl, NewsAt.new w news e⟩⟩⟩
  · exact (or_ne (L := L) (i := p) (j := p + 1) (by omega)).trans h1
  · exact (or_ne (L := L) (i := p) (j := p + 3) (by omega)).trans h2
theorem CabI.app (h : CabI wr RB vM vC old news nC p sp D sl vl L u w) (hn : sl.Nodup) (hs : sl[p + 1]? = some (sp + 1)) (hv : vl[p + 1]? = some none) (h1 : L (p + 1) = false) (h2 : L (p + 3) = false) {g cap : Nat} {w' : World} (hg : w.grownBy w' vC.ownBlock) (hat : vC.ownBlock = some g ∨ g = w.heap.size) (ho : w'.ownsRow (RB + 1) 40 2 (.slice (some ⟨g, 0, none⟩) (nC + 2) cap) (nC + 2) (old ++ news)) (hb : Bx RB #[vM, vC] w') : CabI wr RB vM vC old news nC p sp D sl vl (fun j => L j || j == p + 1) (updO u (some (sp + 1)) (.slice (some ⟨g, 0, none⟩) (nC + 2) cap)) w' := by
  have s := (h.p1 h1 h2).1
  refine ⟨cabI_known hn hs hv _ (fun y hy => by cases hy) h.1, .inr (.inl ⟨?_, ?_, g, cap, w, if_pos rfl, s, hg, hat, ho, hb⟩)⟩
  · simp
  · exact (or_ne (L := L) (i := p + 1) (j := p + 3) (by omega)).trans h2
theorem CabI.st (h : CabI wr RB vM vC old news nC p sp D sl vl L u w) (hs : sl[p + 3]? = none) {w' : World} (hd : D w') (v : Value) : CabI wr RB vM vC old news nC p sp D sl vl (fun j => L j || j == p + 3) (updO u none v) w' :=
  ⟨fun i s x h1 h2 h3 => by
    by_cases hi : i = p + 3
    · rw [hi, hs] at h1; cases h1
    · exact h.1 i s x h1 h2 ((or_ne (L := L) hi).symm.trans h3), .inr (.inr ⟨by simp, hd⟩)⟩
end
end
section
open Go.RowKit

theorem hby_upS {B : Nat} {w : World} {A : Option Addr} {n : Nat} (h : HasBy B w A n) (hB : B ≤ w.heap.size) : HasBy w.heap.size w A n := fun hp => by
  obtain ⟨b, off, rfl, hb, hc⟩ := h hp
  exact ⟨b, off, rfl, by omega, hc⟩
structure TwoL (B : Nat) (w0 : World) (ub ut : Value) (n m : Nat) (bs ts : List Cx) (w : World) : Prop where
  ob : w.ownsRow B 24 1 ub n (bs.map cxV)
  ot : w.ownsRow B 24 1 ut m (ts.map cxV)
  ap : ∀ b, ub.ownBlock = some b → ut.ownBlock = some b → False
  span : Span 0 0 w0 w
  base : B = w0.heap.size
theorem TwoL.start (w : World) : TwoL w.heap.size w (.slice (some ⟨w.heap.size, 0, none⟩) 0 0) (.slice (some ⟨w.heap.size + 1, 0, none⟩) 0 0) 0 0 [] [] ((w.alloc (.cells #[] 24)).alloc (.cells #[] 24)) := by
  refine ⟨(World.ownsRow_made (base := w.heap.size) (e := 24) (size := 1) w #[] 0 (Nat.le_refl _) (Nat.zero_le _) rfl).alloc _, ?_, fun b h1 h2 => ?_, ((Span.refl 0 0 w).alloc _).alloc _, rfl⟩
  · have h := World.ownsRow_made (base := w.heap.size) (e := 24) (size := 1) (w.alloc (.cells #[] 24)) #[] 0 (by simp) (Nat.zero_le _) rfl
    rw [show (w.alloc (.cells #[] 24)).heap.size = w.heap.size + 1 by simp] at h
    exact h
  · rw [ownBlock_slice] at h1 h2
    injection h1 with h1
    injection h2 with h2
    omega
section
variable {B : Nat} {w0 : World} {ub ut : Value} {n m : Nat} {bs ts : List Cx} {w : World}
theorem TwoL.keep (h : TwoL B w0 ub ut n m bs ts w) {w' : World} (s : Span 0 0 w w') : TwoL B w0 ub ut n m bs ts w' := ⟨ownsRow_keep h.ob s, ownsRow_keep h.ot s, h.ap, h.span.trans s, h.base⟩
theorem TwoL.both (h : TwoL B w0 ub ut n m bs ts w) (z : Cx) {o : Obj} {g cap : Nat} {w' : World} (ho : w'.ownsRow B 24 1 (.slice (some ⟨g, 0, none⟩) (n + 1) cap) (n + 1) (bs.map cxV ++ [cxV z])) (hgr : (w.alloc o).grownBy w' ub.ownBlock) (hat : ub.ownBlock = some g ∨ g = w.heap.size + 1) :
    TwoL B w0 (.slice (some ⟨g, 0, none⟩) (n + 1) cap) ut (n + 1) m (bs ++ [z]) ts w' := by
  have hb := h.base
  refine ⟨by rw [List.map_append]; exact ho, (h.ot.alloc _).kept hgr ?_, fun b h1 h2 => ?_, (h.span.alloc o).grown hgr (fun k hk => .inr (by have := (h.ob.lt k hk).1; omega)), hb⟩
  · cases e : ut.ownBlock with
    | none => exact .inl rfl
    | some b => exact .inr (fun e2 => h.ap b e2.symm e)
  · rw [ownBlock_slice] at h1
    injection h1 with h1
    subst h1
    rcases hat with h5 | h5
    · exact h.ap g h5 h2
    · have := (h.ot.lt g h2).2; omega
theorem TwoL.twice (h : TwoL B w0 ub ut n m bs ts w) (z : Cx) {o : Obj} {g cap : Nat} {w' : World} (ho : w'.ownsRow B 24 1 (.slice (some ⟨g, 0, none⟩) (m + 1) cap) (m + 1) (ts.map cxV ++ [cxV z])) (hgr : (w.alloc o).grownBy w' ut.ownBlock) (hat : ut.ownBlock = some g ∨ g = w.heap.size + 1) :
    TwoL B w0 ub (.slice (some ⟨g, 0, none⟩) (m + 1) cap) n (m + 1) bs (ts ++ [z]) w' := by
  have hb := h.base
  refine ⟨(h.ob.alloc _).kept hgr ?_, by rw [List.map_append]; exact ho, fun b h1 h2 => ?_, (h.span.alloc o).grown hgr (fun k hk => .inr (by have := (h.ot.lt k hk).1; omega)), hb⟩
  · cases e : ub.ownBlock with
    | none => exact .inl rfl
    | some b => exact .inr (fun e2 => h.ap b e e2.symm)
  · rw [ownBlock_slice] at h2
    injection h2 with h2
    subst h2
    rcases hat with h5 | h5
    · exact h.ap g h1 h5
    · have := (h.ob.lt g h1).2; omega
end
end
end Go.Proofs.Ytpiiflhdllpoiaa
