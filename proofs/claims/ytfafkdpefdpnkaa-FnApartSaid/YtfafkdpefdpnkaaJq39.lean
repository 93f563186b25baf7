/- Leases in memory: four cells each. Pools in memory. A pool that is copied by the model. -/
import Derived.Test.YtfafkdpefdpnkaaJq36
import Derived.Test.YtfafkdpefdpnkaaJq15
import Derived.Deep.AppendLies
namespace Go.Proofs.Ytfafkdpefdpnkaa
open Go.RowKit

/-- A lease's cells, and its value. -/
def lsC (x : Ls) : List Value := [.int .i64 (x.start : Int), .int .i64 (x.count : Int), .int .i64 (x.room : Int), .bool x.free]
def lsV (x : Ls) : Value := .agg #[.int .i64 (x.start : Int), .int .i64 (x.count : Int), .int .i64 (x.room : Int), .bool x.free]
def flat (L : List Ls) : List Value := L.flatMap lsC

theorem flat_cons (x : Ls) (L : List Ls) : flat (x :: L) = lsC x ++ flat L := rfl
theorem flat_append (L M : List Ls) : flat (L ++ M) = flat L ++ flat M := List.flatMap_append
theorem flat_one (x : Ls) : flat [x] = lsC x := by unfold flat; simp
theorem flat_length : ∀ L : List Ls, (flat L).length = L.length * 4
  | [] => rfl
  | x :: L => by rw [flat_cons, List.length_append, flat_length L, List.length_cons]; show 4 + _ = _; omega

theorem flat_get : ∀ (L : List Ls) (j : Nat) (x : Ls) (i : Nat), L[j]? = some x → i < 4 → (flat L)[j * 4 + i]? = (lsC x)[i]?
  | [], j, x, i, h, _ => by simp at h
  | y :: L, 0, x, i, h, hi => by
    simp at h; subst h
    rw [flat_cons, Nat.zero_mul, Nat.zero_add, List.getElem?_append_left (by show i < 4; exact hi)]
  | y :: L, j + 1, x, i, h, hi => by
    simp at h
    have := flat_get L j x i h hi
    rw [flat_cons, List.getElem?_append_right (by show 4 ≤ _; omega), show (j + 1) * 4 + i - (lsC y).length = j * 4 + i by show (j + 1) * 4 + i - 4 = _; omega]
    exact this

theorem flat_one' {L : List Ls} (u : Value) (h : u ∈ flat L) : u.oneCell' = true := by
  unfold flat at h
  obtain ⟨x, _, hx⟩ := List.mem_flatMap.1 h
  unfold lsC at hx
  simp only [List.mem_cons, List.not_mem_nil, or_false] at hx
  rcases hx with rfl | rfl | rfl | rfl <;> rfl

theorem flat_set : ∀ (L : List Ls) (j : Nat) (x : Ls), j < L.length →
    flat (L.set j x) = ((((flat L).set (j * 4) (.int .i64 (x.start : Int))).set (j * 4 + 1) (.int .i64 (x.count : Int))).set (j * 4 + 2) (.int .i64 (x.room : Int))).set (j * 4 + 3) (.bool x.free)
  | [], j, x, h => by simp at h
  | y :: L, 0, x, _ => by
    rw [List.set_cons_zero, flat_cons, flat_cons]
    rfl
  | y :: L, j + 1, x, h => by
    have ih := flat_set L j x (by simpa using h)
    rw [List.set_cons_succ, flat_cons, flat_cons, ih]
    have e : ∀ i (l : List Value) (v : Value), (lsC y ++ l).set ((j + 1) * 4 + i) v = lsC y ++ l.set (j * 4 + i) v := by
      intro i l v
      rw [List.set_append_right _ _ (by show 4 ≤ _; omega), show (j + 1) * 4 + i - (lsC y).length = j * 4 + i by show (j + 1) * 4 + i - 4 = _; omega]
    have e0 := e 0
    simp only [Nat.add_zero] at e0
    rw [e0, e 1, e 2, e 3]

/-- A slice that reads as a list of leases. -/
def HasL (b lo hi : Nat) (w : World) (v : Value) (L : List Ls) : Prop :=
  ∃ (A : Option Addr) (cap : Nat), v = .slice A L.length cap ∧ L.length ≤ cap ∧
    (0 < L.length → ∃ off, A = some ⟨b, off, none⟩ ∧ lo ≤ b ∧ b < hi ∧ b < w.heap.size ∧ ∀ j u, (flat L)[j]? = some u → w.cell? ⟨b, off + j, none⟩ = some u)

theorem HasL.span {b lo hi l r : Nat} {w w' : World} {v : Value} {L : List Ls} (h : HasL b lo hi w v L) (hs : Span l r w w') (hd : r ≤ l ∨ hi ≤ l ∨ r ≤ lo ∨ b < l ∨ r ≤ b) : HasL b lo hi w' v L := by
  obtain ⟨A, cap, rfl, hcap, hc⟩ := h
  refine ⟨A, cap, rfl, hcap, fun hp => ?_⟩
  obtain ⟨off, rfl, h1, h2, h3, h4⟩ := hc hp
  have g2 := hs.block b h3 (by omega)
  exact ⟨off, rfl, h1, h2, Nat.lt_of_lt_of_le h3 hs.size, fun j u hj => (World.cell?_of_block (w := w) g2).trans (h4 j u hj)⟩

theorem HasL.weak {b lo hi lo' hi' : Nat} {w : World} {v : Value} {L : List Ls} (h : HasL b lo hi w v L) (h1 : lo' ≤ lo) (h2 : hi ≤ hi' ∨ w.heap.size ≤ hi') : HasL b lo' hi' w v L := by
  obtain ⟨A, cap, rfl, hcap, hc⟩ := h
  refine ⟨A, cap, rfl, hcap, fun hp => ?_⟩
  obtain ⟨off, rfl, g1, g2, g3, g4⟩ := hc hp
  exact ⟨off, rfl, by omega, by omega, g3, g4⟩

theorem HasL.empty (b lo hi : Nat) (w : World) (A : Option Addr) (c : Nat) : HasL b lo hi w (.slice A 0 c) [] :=
  ⟨A, c, rfl, Nat.zero_le _, fun h => absurd h (by simp)⟩

/-- The cells of one lease. -/
def LsAt (w : World) (b o : Nat) (x : Ls) : Prop :=
  w.cell? ⟨b, o, none⟩ = some (.int .i64 (x.start : Int)) ∧ w.cell? ⟨b, o + 1, none⟩ = some (.int .i64 (x.count : Int)) ∧ w.cell? ⟨b, o + 2, none⟩ = some (.int .i64 (x.room : Int)) ∧ w.cell? ⟨b, o + 3, none⟩ = some (.bool x.free)

theorem HasL.at_ {b lo hi : Nat} {w : World} {A : Option Addr} {n c : Nat} {L : List Ls} (h : HasL b lo hi w (.slice A n c) L) {k : Nat} {x : Ls} (hk : L[k]? = some x) :
    n = L.length ∧ b < w.heap.size ∧ ∃ off, A = some ⟨b, off, none⟩ ∧ LsAt w b (off + k * 4) x := by
  obtain ⟨A', c', e, _, hc⟩ := h
  injection e with e1 e2 e3
  subst e1 e2 e3
  have hl := (List.getElem?_eq_some_iff.1 hk).1
  obtain ⟨off, rfl, _, _, hb, h4⟩ := hc (by omega)
  refine ⟨rfl, hb, off, rfl, ?_, ?_, ?_, ?_⟩
  · exact h4 (k * 4) _ (flat_get L k x 0 hk (by omega))
  · rw [Nat.add_assoc]; exact h4 (k * 4 + 1) _ (flat_get L k x 1 hk (by omega))
  · rw [Nat.add_assoc]; exact h4 (k * 4 + 2) _ (flat_get L k x 2 hk (by omega))
  · rw [Nat.add_assoc]; exact h4 (k * 4 + 3) _ (flat_get L k x 3 hk (by omega))

theorem LsAt.span {b o l r : Nat} {w w' : World} {x : Ls} (h : LsAt w b o x) (hs : Span l r w w') (hd : r ≤ l ∨ b < l ∨ r ≤ b) : LsAt w' b o x := by
  have hb := World.block_lt_of_cell? w _ h.1
  have g := hs.block b hb (by omega)
  exact ⟨(World.cell?_of_block (w := w) g).trans h.1, (World.cell?_of_block (w := w) g).trans h.2.1, (World.cell?_of_block (w := w) g).trans h.2.2.1, (World.cell?_of_block (w := w) g).trans h.2.2.2⟩

/-- What the call owns reads so. -/
theorem ownsRow_hasL {w : World} {base : Nat} {e : TypeId} {v : Value} {n : Nat} {L : List Ls} (h : w.ownsRow base e 4 v n (flat L)) :
    ∃ b, HasL b base w.heap.size w v L ∧ n = L.length ∧ (0 < L.length → v.ownBlock = some b) := by
  obtain ⟨hl, h | ⟨g, cap, cur, rfl, hg, hh, hn, hm, hc, ht⟩⟩ := h
  · obtain ⟨rfl, rfl⟩ := h
    have : L = [] := by cases L with | nil => rfl | cons a l => rw [flat_length] at hl; simp at hl
    subst this
    exact ⟨0, HasL.empty _ _ _ _ _ _, rfl, fun h => absurd h (by simp)⟩
  · rw [flat_length] at hl
    have hnl : n = L.length := by omega
    have hlt : g < w.heap.size := by
      by_cases hg : g < w.heap.size
      · exact hg
      · rw [Array.getElem?_eq_none (by omega)] at hh; cases hh
    refine ⟨g, ⟨_, cap, by rw [hnl], by omega, fun _ => ⟨0, rfl, hg, hlt, hlt, fun j u hj => ?_⟩⟩, hnl, fun _ => rfl⟩
    have hj' := (List.getElem?_eq_some_iff.1 hj).1
    rw [flat_length] at hj'
    rw [← ht, List.getElem?_take_of_lt (by omega)] at hj
    unfold World.cell?
    simp only [hh, Nat.zero_add]
    simpa using hj

theorem HasL.newsOf {b lo hi : Nat} {w : World} {A : Option Addr} {n c : Nat} {L : List Ls} (h : HasL b lo hi w (.slice A n c) L) :
    n = L.length ∧ (A = none → L = []) ∧ ∀ ad, A = some ad → ∀ j u, (flat L)[j]? = some u → w.cell? (ad.add j) = some u := by
  obtain ⟨A', cap, he, hcap, hc⟩ := h
  injection he with e1 e2 e3
  subst e1 e2 e3
  refine ⟨rfl, fun ha => ?_, fun ad had j u hu => ?_⟩
  · cases L with
    | nil => rfl
    | cons x l =>
      obtain ⟨off, h, _⟩ := hc (by simp)
      rw [ha] at h; cases h
  · have hj := (List.getElem?_eq_some_iff.1 hu).1
    rw [flat_length] at hj
    obtain ⟨off, h, _, _, _, hcell⟩ := hc (by omega)
    rw [had] at h; cases h
    rw [Addr.add_lit]
    exact hcell j u hu

theorem run_append_ls {P : Program} (w : World) (base : Nat) (t ty e : TypeId) (i : TypeInfo) (z : Value) (bytes : Nat) (ht : P.underlying t = some (.slice e)) (hi : P.info? e = some i) (hz : i.zero = some z)
    (hsize : i.size = 4) (hby : i.bytes = bytes) (hzs : z.cells.size = 4) (v : Value) (n : Nat) (ys : List Value) (hown : w.ownsRow base e 4 v n ys)
    {b lo hi' : Nat} {x : Value} {L : List Ls} (hx : HasL b lo hi' w x L) (h63 : n + L.length ≤ maxLen) (hbytes : (n + L.length) * bytes ≤ 140737488355328) (hbase : base ≤ w.heap.size) :
    ∃ v' w', (Builtin.append_ #[t, t] ty #[v, x]).run P w = .ok v' w' ∧ w'.ownsRow base e 4 v' (n + L.length) (ys ++ flat L) ∧ w.grownBy w' v.ownBlock ∧ (v'.ownBlock = v.ownBlock ∨ v'.ownBlock = some w.heap.size) := by
  obtain ⟨A, c, rfl, hc⟩ := id hx
  obtain ⟨_, hn, hnews⟩ := hx.newsOf
  cases A with
  | some ad =>
    obtain ⟨v', w', r1, r2, r3, _, r5⟩ := run_append_own_at (P := P) w base t ty e i z 4 bytes ht hi hz hsize hby hzs (by omega) v n ys hown ad L.length c (flat L) (flat_length L) (hnews ad rfl)
      (fun u hu => flat_one' u hu) h63 hbytes hbase
    exact ⟨v', w', r1, r2, r3, r5⟩
  | none =>
    have he := hn rfl
    subst he
    have hsrc := Src.ofNil (P := P) w (size := i.size) (tx := t) ht c
    rcases hown.2 with ⟨rfl, rfl⟩ | ⟨g, cap, cur, rfl, hb, hg, hnc, hr⟩
    · refine ⟨.slice none 0 0, w, ?_, by simpa [flat] using hown, World.grownBy.refl _ _, .inl rfl⟩
      simp [Builtin.append_, run_underlying ht, sizeOf, typeInfo, hi, Builtin.lenOf, Builtin.firstCells]
    · refine ⟨.slice (some ⟨g, 0, none⟩) n cap, w, ?_, by simpa [flat] using hown, World.grownBy.refl _ _, .inl rfl⟩
      have := run_append_room_src (P := P) w t t ty e i ht hi g 0 n cap (.slice none 0 c) 0 [] hsrc (by omega) (fun j hj => absurd hj (by simp)) (fun j hj => absurd hj (by simp))
      rw [setCells_nil] at this
      simpa using this

theorem own_lit4 {w : World} {B g : Nat} {e : TypeId} (h : w.heap[g]? = some (.cells #[] e (0, 0))) (hb : B ≤ g) : w.ownsRow B e 4 (.slice (some ⟨g, 0, none⟩) 0 0) 0 [] :=
  ⟨by simp, .inr ⟨g, 0, #[], rfl, hb, h, Nat.le_refl _, by unfold maxLen; omega, by simp, by simp⟩⟩

theorem step_append_ls {P : Program} {ops : Array Oper} {op : Oper} {a : Act} {w : World} {K : Act → World → Prop} {Q : Exit → Act → World → Prop} {E : Prop} (hgd : op.guard = none) (s x : Operand) (t : TypeId)
    (ho : op.op = .call { callee := .builtin .append, args := #[s, x], argTypes := #[t, t] })
    (e : TypeId) (i : TypeInfo) (z : Value) (bytes : Nat) (ht : P.underlying t = some (.slice e)) (hi : P.info? e = some i) (hz : i.zero = some z)
    (hsize : i.size = 4) (hby : i.bytes = bytes) (hzs : z.cells.size = 4) (hb8 : bytes ≤ 32)
    (w0 : World) {b lo hi' : Nat} {vx : Value} {L : List Ls} (hx : HasL b lo hi' w0 vx L) (hlen : L.length ≤ 4194304) (hxe : a.eval x = vx)
    (v : Value) (hs : a.eval s = v) (hown : w.ownsRow w0.heap.size e 4 v 0 []) (hS : Span 0 0 w0 w)
    (hK : ∀ A q w', w'.ownsRow w0.heap.size e 4 (.slice A L.length q) L.length (flat L) → Span 0 0 w0 w' → Keeps e w w' → K (a.put op.dst (.slice A L.length q)) w') :
    if Region.wanted op (yielded ops a.tmps) = true then Oper.wp P op a w K Q else E := by
  have hw : Region.wanted op (yielded ops a.tmps) = true := by simp [Region.wanted, hgd]
  rw [if_pos hw]
  have hx' : HasL b lo hi' w vx L := hx.span hS (.inl (Nat.le_refl _))
  obtain ⟨v', w', hr, h2, h3, _⟩ := run_append_ls (P := P) w w0.heap.size t op.type e i z bytes ht hi hz hsize hby hzs v 0 [] hown hx' (by unfold maxLen; omega) (by
    have : (0 + L.length) * bytes ≤ (0 + L.length) * 32 := Nat.mul_le_mul (Nat.le_refl _) hb8
    omega) hS.size
  rw [Nat.zero_add, List.nil_append] at h2
  have hsp : Span 0 0 w0 w' := hS.grown h3 (fun k hk => .inr (hown.lt k hk).1)
  have hkp : Keeps e w w' := fun B e' s' v0 n0 ys hne h0 => h0.kept h3 (by
    rcases owns_apart h0 hown hne with h | h
    · exact .inl h
    · exact .inr h)
  have hv : ∃ A q, v' = .slice A L.length q := by
    rcases h2.2 with ⟨rfl, h0⟩ | ⟨g, cap, cur, rfl, _⟩
    · rw [h0]; exact ⟨_, _, rfl⟩
    · exact ⟨_, _, rfl⟩
  obtain ⟨A, q, rfl⟩ := hv
  unfold Oper.wp execOp
  simp only [ho, resolve, invoke, builtin, Sem.run_bind, Sem.run_pure, Result.andThen_ok, List.map_toArray, List.map_cons, List.map_nil, hs, hxe, hr]
  exact hK A q w' h2 hsp hkp

theorem info_lease : (Try.prog.info? 68).map (fun i => (i.zero, i.size, i.bytes)) = some (some (.agg #[.int .i64 0, .int .i64 0, .int .i64 0, .bool false]), 4, 32) := by kernel_rfl

/-- A pool in memory. -/
def HasP (lo hi : Nat) (w : World) (v : Value) (p : Pl) : Prop :=
  ∃ b1 b2 vS vL, v = .agg #[vS, vL] ∧ HasS cxV false b1 lo hi w vS p.1 ∧ HasL b2 lo hi w vL p.2

theorem HasP.span {lo hi l r : Nat} {w w' : World} {v : Value} {p : Pl} (h : HasP lo hi w v p) (hs : Span l r w w') (hd : r ≤ l ∨ hi ≤ l ∨ r ≤ lo) : HasP lo hi w' v p := by
  obtain ⟨b1, b2, vS, vL, rfl, h1, h2⟩ := h
  exact ⟨b1, b2, vS, vL, rfl, h1.span hs (by omega), h2.span hs (by omega)⟩
theorem HasP.weak {lo hi lo' hi' : Nat} {w : World} {v : Value} {p : Pl} (h : HasP lo hi w v p) (h1 : lo' ≤ lo) (h2 : hi ≤ hi' ∨ w.heap.size ≤ hi') : HasP lo' hi' w v p := by
  obtain ⟨b1, b2, vS, vL, rfl, g1, g2⟩ := h
  exact ⟨b1, b2, vS, vL, rfl, g1.weak h1 h2, g2.weak h1 h2⟩
theorem HasP.form {lo hi : Nat} {w : World} {v : Value} {p : Pl} (h : HasP lo hi w v p) : ∃ A c A' c', v = .agg #[.slice A p.1.length c, .slice A' p.2.length c'] := by
  obtain ⟨b1, b2, vS, vL, rfl, h1, h2⟩ := h
  obtain ⟨A, c, rfl, _⟩ := h1
  obtain ⟨A', c', rfl, _⟩ := h2
  exact ⟨A, c, A', c', rfl⟩
theorem HasP.none_ (lo hi : Nat) (w : World) : HasP lo hi w (.agg #[.slice none 0 0, .slice none 0 0]) ([], []) :=
  ⟨0, 0, _, _, rfl, HasS.empty _ _ _ _ _ _ _ _, HasL.empty _ _ _ _ _ _⟩
theorem owned_pool {w : World} {B : Nat} {vS vL : Value} {S : List Cx} {L : List Ls} {n m : Nat} (hp : w.ownsRow B 35 1 vS n (S.map cxV)) (hl : w.ownsRow B 68 4 vL m (flat L)) : HasP B w.heap.size w (.agg #[vS, vL]) (S, L) := by
  obtain ⟨b1, h1, _⟩ := ownsRow_hasS hp
  obtain ⟨b2, h2, _⟩ := ownsRow_hasL hl
  exact ⟨b1, b2, _, _, rfl, h1.bare, h2⟩

/-- A pool that the call owns. -/
def OwnsP (p : Pl) (w : World) (e : Ending) (w' : World) : Prop :=
  ∃ A q A' q', e = .returned (.agg #[.slice A p.1.length q, .slice A' p.2.length q']) ∧ w'.ownsRow w.heap.size 35 1 (.slice A p.1.length q) p.1.length (p.1.map cxV) ∧
    w'.ownsRow w.heap.size 68 4 (.slice A' p.2.length q') p.2.length (flat p.2) ∧ Span 0 0 w w'

set_option maxRecDepth 100000 in
set_option maxHeartbeats 4000000 in
theorem l3Copy_any (p : Pl) (lo hi : Nat) (v : Value) (w : World) (hx : HasP lo hi w v p) (h1 : p.1.length ≤ 4194304) (h2 : p.2.length ≤ 4194304) :
    Calls Try.prog 72 #[v] w (OwnsP p w) := by
  obtain ⟨ip, hip, hzp, hsp, hbp⟩ := info_parts info_c64
  obtain ⟨il, hil, hzl, hsl, hbl⟩ := info_parts info_lease
  obtain ⟨b1, b2, vP, vL, rfl, g1, g2⟩ := hx
  have G1 := Lib.hid (g1.weak (Nat.le_refl _) (.inr (Nat.le_refl _)))
  have G2 := Lib.hid (g2.weak (Nat.le_refl _) (.inr (Nat.le_refl _)))
  obtain ⟨AP, cP, rfl, _, _⟩ := g1
  obtain ⟨AL, cL, rfl, _, _⟩ := g2
  obtain ⟨lp, hlp⟩ : ∃ n, n = p.1.length := ⟨_, rfl⟩
  obtain ⟨ll, hll⟩ : ∃ n, n = p.2.length := ⟨_, rfl⟩
  have HLP := Lib.hid hlp
  have HLL := Lib.hid hll
  rw [← hlp] at G1 ⊢
  rw [← hll] at G2 ⊢
  have M1 : Hid (p.1.length ≤ 4194304) := h1
  have M2 : Hid (p.2.length ≤ 4194304) := h2
  clear h1 h2 hlp hll
  go_enter Try.func72, Try.ntmps72
  go_wp2_with fail
  have X0 := Lib.hid ((Box.new w (.slice AP lp cP) (.slice AL ll cL) 45).alloc (.cells #[.slice none 0 0, .slice none 0 0] 45))
  have X1 := Lib.hid (Box.new (w.alloc (.cells #[.slice AP lp cP, .slice AL ll cL] 45)) (.slice none 0 0) (.slice none 0 0) 45)
  have HS := Lib.hid ((((Span.refl 0 0 w).alloc (.cells #[.slice AP lp cP, .slice AL ll cL] 45))).alloc (.cells #[.slice none 0 0, .slice none 0 0] 45))
  rw [show (w.alloc (.cells #[.slice AP lp cP, .slice AL ll cL] 45)).heap.size = w.heap.size + 1 by simp] at X1
  generalize (w.alloc (.cells #[.slice AP lp cP, .slice AL ll cL] 45)).alloc (.cells #[.slice none 0 0, .slice none 0 0] 45) = w0 at *
  have G1' := Lib.hid (G1.out.span HS.out (.inl (Nat.le_refl _)))
  have G2' := Lib.hid (G2.out.span HS.out (.inl (Nat.le_refl _)))
  clear G1 G2
  obtain ⟨R, hR⟩ : ∃ R, R = w.heap.size + 1 := ⟨_, rfl⟩
  have HR : Hid (w.heap.size < R) := by unfold Hid; omega
  have HR2 : Hid (w.heap.size ≤ R) := by unfold Hid; omega
  rw [← hR] at X1
  rw [← hR]
  have HRE := Lib.hid hR
  clear hR
  have B1 : Hid (R < w0.heap.size) := X1.out.1
  go_region_held3 (fun w' => w'.cell? ⟨w.heap.size, 0, none⟩ = some (.slice AP lp cP) ∧ w'.cell? ⟨w.heap.size, 1, none⟩ = some (.slice AL ll cL) ∧ Span R (R + 1) w0 w')
    (first
      | exact box_limbs X0.out HR.out ((Span.refl _ _ w0).drew)
      | exact box_limbs X0.out HR.out (sp2.wid0 _ _)
      | exact box_limbs X0.out HR.out (sp1.wid0 _ _)
      | (go_split_ands; exact box_limbs X0.out HR.out (Span.alloc (by assumption) _))
      | (exact box_limbs X0.out HR.out (((sp2.wid0 R (R + 1)).setCell (.inl ⟨Nat.le_refl _, Nat.lt_succ_self _⟩) _).setCell (.inl ⟨Nat.le_refl _, Nat.lt_succ_self _⟩) _)))
    ((go_split_ands
      first
      | (refine step_append_any cxV_one rfl (.tmp 3) (.tmp 5) 23 rfl 35 ip (.complex .f32 0 0) 8 Try.underlying23 hip hzp hsp hbp rfl (by omega) w0 G1'.out M1.out rfl _ rfl ?own ?sp ?_
         case own => first | exact own_lit (lit_at (by simp)) (by simp) | exact own_lit (lit_old (lit_at (by simp))) (by simp)
         case sp => first | exact (Span.refl 0 0 w0).drew.alloc _ | exact ((Span.refl 0 0 w0).drew.alloc _).alloc _
         rw [← HLP.out]
         intro A1 q1 w1 ho1 sp1 kp1)
      | (refine step_append_ls rfl (.tmp 7) (.tmp 9) 43 rfl 68 il (.agg #[.int .i64 0, .int .i64 0, .int .i64 0, .bool false]) 32 Try.underlying43 hil hzl hsl hbl rfl (by omega) w0 G2'.out M2.out rfl _ rfl ?own ?sp ?_
         case own => first | exact own_lit4 (lit_at (by simp)) (by first | exact sp1.size | simp) | exact kp1 _ _ _ _ _ _ (by decide) (own_lit4 (lit_at (by simp)) (by simp)) | exact kp1 _ _ _ _ _ _ (by decide) (own_lit4 (lit_old (lit_at (by simp))) (by simp))
         case sp => first | exact sp1 | exact sp1.alloc _
         rw [← HLL.out]
         intro A2 q2 w2 ho2 sp2 kp2
         have X2 := X1.out.span sp2 (.inl (Nat.le_refl _))
         obtain ⟨_, r0, r1, r2, r3⟩ := id X2
         have HB := Lib.hid (box_stored (u' := .slice A1 lp q1) (v' := .slice A2 ll q2) X2)
         clear X2)))
  all_goals
    have hp : w2.ownsRow w0.heap.size 35 1 (.slice A1 lp q1) lp (p.1.map cxV) := by
      first | exact kp2 _ _ _ _ _ _ (by decide) ho1 | exact kp2 _ _ _ _ _ _ (by decide) (ho1.alloc _)
    have HP := Lib.hid (ownsRow_setCell_below (ownsRow_setCell_below hp (a := ⟨R, 0, none⟩) B1.out (.slice A1 lp q1)) (a := ⟨R, 1, none⟩) B1.out (.slice A2 ll q2))
    have HL := Lib.hid (ownsRow_setCell_below (ownsRow_setCell_below ho2 (a := ⟨R, 0, none⟩) B1.out (.slice A1 lp q1)) (a := ⟨R, 1, none⟩) B1.out (.slice A2 ll q2))
    have HW := Lib.hid (((sp2.after HS.out).setCell (p := ⟨R, 0, none⟩) (.inr HR2.out) (.slice A1 lp q1)).setCell (p := ⟨R, 1, none⟩) (.inr HR2.out) (.slice A2 ll q2))
    have HZ : Hid (w.heap.size ≤ w0.heap.size) := HS.out.size
    clear hp ho1 ho2 kp1 kp2 sp1 sp2
    go_wp2_with fail
    refine bodyPost_ret (v := .agg #[.slice A1 lp q1, .slice A2 ll q2]) (by simp [results, Try.results72, go_sem, HB.out.1, HB.out.2]) rfl ⟨A1, q1, A2, q2, by rw [← HLP.out, ← HLL.out], ?_, ?_, HW.out⟩
    · rw [← HLP.out]; exact ownsRow_lower HP.out HZ.out
    · rw [← HLL.out]; exact ownsRow_lower HL.out HZ.out
end Go.Proofs.Ytfafkdpefdpnkaa
