/- A new circuit of any modules but slicers. -/
import Derived.Test.YtkjlodoppmipfaaGreatJh26
import Derived.Test.YtkjlodoppmipfaaGreatJh27
import Derived.Outline
namespace Go.Proofs.YtkjlodoppmipfaaGreat
open Go.RowKit

theorem ownsRow_reads {α : Type} {val : α → Value} {w : World} {base : Nat} {e : TypeId} {v : Value} {n : Nat} {xs : List α} (h : w.ownsRow base e 1 v n (xs.map val)) (B : Nat) :
    ∃ b, ((v.ownBlock = none ∧ b = B) ∨ v.ownBlock = some b) ∧ HasS val false b 0 w.heap.size w v xs := by
  have hl : xs.length = n := by have := h.1; rw [List.length_map, Nat.mul_one] at this; exact this
  rcases h.2 with ⟨rfl, h0⟩ | ⟨g, cap, cur, rfl, hg, hh, hc, _⟩
  · have : xs = [] := List.eq_nil_of_length_eq_zero (by omega)
    subst this
    exact ⟨B, .inl ⟨rfl, rfl⟩, HasS.empty ..⟩
  · have hg2 := (Array.getElem?_eq_some_iff.1 hh).1
    refine ⟨g, .inr rfl, some ⟨g, 0, none⟩, cap, by rw [hl], by omega, fun _ => ⟨0, rfl, Nat.zero_le _, hg2, hg2, fun j x hj => ?_, fun hf => by cases hf⟩⟩
    have := h.cells (g := g) rfl j (val x) (by rw [List.getElem?_map, hj]; rfl)
    rw [Addr.add_lit] at this
    exact this

/-- A kind whose units are their boxes, and read nothing else. -/
def Kd.plain (k : Kd) : Prop := k ≠ .delay ∧ k ≠ .slicer
theorem uC_plain {k : Kd} (h : k.plain) (m : Mw) (S : Option Addr) (sp : Nat) (P : Option Addr) (pp : Nat) (L : Option Addr) (lp : Nat) : uC k { m with S := S, sp := sp, P := P, pp := pp, L := L, lp := lp } = uC k m := by
  cases k
  · rfl
  · rfl
  · rfl
  · exact absurd rfl h.1
  · rfl
  · exact absurd rfl h.2
  · rfl
  · rfl
theorem Kd.num_inj : ∀ {a b : Kd}, a.num = b.num → a = b := by
  intro a b h
  cases a <;> cases b <;> first | rfl | (simp [Kd.num] at h)

/-- The stations of a rack, without its memory: module, feeds, kind. -/
def stOf (kds : List Kd) (fd : List (List Nat)) (i : Nat) (t : Nat × List Nat × (Kd × Nat)) : Prop := t.1 = i ∧ fd[i]? = some t.2.1 ∧ kds[i]? = some t.2.2.1
/-- The unit of a module whose ring holds a list. -/
def unM (k : Kd) (m : Mw) (r : List Cx × Tab) : Un := match k with
  | .delay => .ring r.1 m.a.toNat
  | k => .box (uC k m)
theorem unM_box {k : Kd} (h : k ≠ .delay) (m : Mw) (r : List Cx × Tab) : unM k m r = .box (uC k m) := by
  cases k <;> first | rfl | exact absurd rfl h
/-- The units of modules. -/
def unOf (kds : List Kd) (Ms : List Mw) (Rs : List (List Cx × Tab)) : List Un := ((kds.zip Ms).zip Rs).map fun p => unM p.1.1 p.1.2 p.2
/-- A module that is no slicer; a delay's ring is full. -/
def GoodM (k : Kd) (x : Mw) (r : List Cx × Tab) : Prop := x.k = k.num ∧ k ≠ .slicer ∧ (k = .delay → 0 < r.1.length ∧ 0 ≤ x.a ∧ x.cnt = (r.1.length : Int))

/-- A circuit of a rack without slicers. -/
def MixC (n m : Nat) (kds : List Kd) (Ms : List Mw) (Rs : List (List Cx × Tab)) (Cs : List (Nat × Nat)) (os : List Int) (w : World) (e : Ending) (w' : World) : Prop :=
  ∃ (W : List Nat) (Q O bU bS bC : Nat) (A : Option Addr) (q : Nat) (us : List (Kd × Nat)) (ss : List (Nat × List Nat × (Kd × Nat))) (fs : List (List Nat)),
    e = .returned (.tuple #[.pointer (some ⟨Q, 0, none⟩), .bool true]) ∧ Span 0 0 w w' ∧ (∀ b ∈ W, w.heap.size ≤ b) ∧ HasC 2 cabC bC w.heap.size w'.heap.size w' (.slice A m q) Cs ∧ bC ∉ W ∧
    us.map (·.1) = kds ∧ ss.length = os.length ∧ (∀ (j i : Nat) t, os[j]? = some (i : Int) → ss[j]? = some t → stOf kds (feedsC n Cs) i t) ∧
    CircAt W W Q O n w'.heap.size bU bS (.slice A m q) us ss fs (unOf kds Ms Rs, List.replicate n (0, 0)) w'

theorem feedsC_lt (n : Nat) (Cs : List (Nat × Nat)) (h : ∀ c ∈ Cs, c.1 < n) : ∀ l ∈ feedsC n Cs, ∀ f ∈ l, f < n := by
  have key : ∀ (Cs : List (Nat × Nat)) (L : List (List Nat)), (∀ c ∈ Cs, c.1 < n) → (∀ l ∈ L, ∀ f ∈ l, f < n) → ∀ l ∈ Cs.foldl feedOne L, ∀ f ∈ l, f < n := by
    intro Cs
    induction Cs with
    | nil => intro L _ h l hl; exact h l hl
    | cons c Cs ih =>
      intro L hc h
      refine ih (feedOne L c) (fun d hd => hc d (List.mem_cons_of_mem _ hd)) (fun l hl f hf => ?_)
      unfold feedOne at hl
      rcases List.mem_or_eq_of_mem_set hl with hl | rfl
      · exact h l hl f hf
      · rcases List.mem_append.1 hf with hf | hf
        · rw [List.getD_eq_getElem?_getD] at hf
          cases hx : L[c.2]? with
          | none => rw [hx] at hf; simp at hf
          | some x => rw [hx] at hf; exact h x (List.mem_of_getElem? hx) f hf
        · simp at hf; subst hf; exact hc c (List.mem_cons_self ..)
  exact key Cs _ h (fun l hl f hf => by rw [List.eq_of_mem_replicate hl] at hf; simp at hf)

theorem NewC.mix {n m : Nat} {Ms : List Mw} {Rs : List (List Cx × Tab)} {Cs : List (Nat × Nat)} {os : List Int} {w w' : World} {e : Ending} (h : NewC n m Ms Rs Cs os w e w') (kds : List Kd) (hk : ∀ (i : Nat) (kd : Kd) (x : Mw) (r : List Cx × Tab), kds[i]? = some kd → Ms[i]? = some x → Rs[i]? = some r → GoodM kd x r) (hkl : kds.length = n) (hml : Ms.length = n) (hrl : Rs.length = n) (hn : 0 < n ∧ n ≤ 16) (hos : os.length = n ∧ ∀ i ∈ os, ∃ t : Nat, i = (t : Int) ∧ t < n) (hcs : ∀ c ∈ Cs, c.1 < n) (hc40 : Cs.length ≤ 40) : MixC n m kds Ms Rs Cs os w e w' := by
  obtain ⟨Q, O, F, Z, b, A, q, bC, U, V, Ns, us, vs, sts, w2, rfl, s2, hbb, hcp, hNs, hcab, sW, hO, hQ, hF, hZ, hq, hout, hun, hux, huo, hfd, hst⟩ := h
  have kin : ∀ (i : Nat) (x : Kd × Nat), us[i]? = some x → kds[i]? = some x.1 ∧ ∃ m' r, Ms[i]? = some m' ∧ Rs[i]? = some r ∧ ∀ W : List Nat, (∀ b ∈ W, w2.heap.size ≤ b) → HasU W (unM x.1 m' r) x [x.2] w' := fun i x hx => by
    obtain ⟨_, nm, h1, h2, h3⟩ := hun.box i x hx
    obtain ⟨m', r, bs, lo', mid', hi', g1, g2, g3, _, _, g4⟩ := hcp i nm h1
    obtain ⟨kd, hkd⟩ := getElem?_some (xs := kds) (j := i) (by rw [hkl, ← hml]; exact (List.getElem?_eq_some_iff.1 g1).1)
    obtain ⟨g5, g6, g7⟩ := hk i kd m' r hkd g1 g2
    have : nm.k = m'.k := by rw [g3]
    have hkx : kd = x.1 := Kd.num_inj (by rw [← g5, ← this, h2])
    subst hkx
    refine ⟨hkd, m', r, g1, g2, fun W hW => ?_⟩
    by_cases hd : x.1 = .delay
    · obtain ⟨e1, e2, e3⟩ := g7 hd
      have hr := g4.1
      obtain ⟨A', c', e4, _, hc⟩ := id hr
      injection e4 with e5 e6 e7
      obtain ⟨off, _, _, _, hbs, _⟩ := hc e1
      rw [hd] at h3 ⊢
      have ha : nm.a = ((m'.a.toNat : Nat) : Int) := by
        have : nm.a = m'.a := by rw [g3]
        rw [this]; omega
      have hcn : nm.cnt = (r.1.length : Int) := by
        have : nm.cnt = m'.cnt := by rw [g3]
        rw [this, e3]
      refine ⟨hd, rfl, e1, nm.S, nm.sp, bs, fun hm => by have := hW bs hm; omega, ?_, ?_⟩
      · have h4 : uC .delay nm = #[.slice nm.S r.1.length nm.sp, .int .i64 ((m'.a.toNat : Nat) : Int), .int .i64 (r.1.length : Int)] := by
          show #[Value.slice nm.S nm.sn nm.sp, .int .i64 nm.a, .int .i64 nm.cnt] = _
          rw [e6, ha, hcn]
        rw [← h4]; exact h3
      · have h5 := (hr.bare.span sW (.inl (Nat.le_refl _))).weak (lo' := 0) (hi' := w'.heap.size) (Nat.zero_le _) (.inr (Nat.le_refl _))
        rw [← e6]; exact h5
    · rw [unM_box hd]
      refine ⟨hd, rfl, ?_⟩
      rw [g3, uC_plain ⟨hd, g6⟩] at h3
      exact h3
  have hNb := hfd.box.1
  obtain ⟨bU, hbU, hU⟩ := ownsRow_reads hun.own Q
  have hfl : ∀ (i : Nat) (v : Value) (l : List Nat), vs[i]? = some v → (feedsC n Cs)[i]? = some l → ∃ bF, F ≤ bF ∧ bF < w'.heap.size ∧ HasS nV false bF 0 w'.heap.size w' v l := fun i v l hv hl => by
    have ho := hfd.own i v l hv hl
    obtain ⟨bF, hb1, hb2⟩ := ownsRow_reads ho F
    rcases hb1 with ⟨_, rfl⟩ | hb1
    · exact ⟨_, Nat.le_refl _, hNb, hb2⟩
    · have := ho.lt bF hb1
      exact ⟨bF, by omega, this.2, hb2⟩
  obtain ⟨bS, hS, hSl, hSb⟩ := ownsRow_hasC (by decide) stC_len hst.own
  have hstl := hst.len
  have hSown := hSb (by rw [hstl, hos.1]; exact hn.1)
  have hbS := hst.own.lt bS hSown
  have hul := hun.len
  have hub := hun.own.lt
  have hUown : U.ownBlock = some bU := by
    rcases hbU with ⟨h1, _⟩ | h1
    · obtain ⟨g, c, rfl, _⟩ := hun.own.form hn.1
      cases h1
    · exact h1
  have hbU2 := hub bU hUown
  have hWmem : ∀ x ∈ us, Q < x.2 ∧ x.2 < F ∧ x.2 < w'.heap.size := fun x hx => by
    obtain ⟨i, hi⟩ := List.getElem?_of_mem hx
    obtain ⟨h1, _, _, _, h4⟩ := hun.box i x hi
    exact ⟨h1, hux x hx, h4.1⟩
  have inW : ∀ k, k ∈ O :: us.map (·.2) → k = O ∨ ∃ x ∈ us, x.2 = k := fun k hk => by
    rcases List.mem_cons.1 hk with h | h
    · exact .inl h
    · obtain ⟨x, hx, he⟩ := List.mem_map.1 h
      exact .inr ⟨x, hx, he⟩
  have nin : ∀ k, (k = Q ∨ F ≤ k ∨ k = bU) → k ∉ O :: us.map (·.2) := fun k hk hm => by
    rcases inW k hm with rfl | ⟨x, hx, rfl⟩
    · omega
    · have := hWmem x hx
      have := hun.off bU hUown x hx
      omega
  have hw2 := s2.size
  have hsw := sW.size
  have hsl : (flatG stC sts).length = sts.length * 3 := flatG_length stC_len sts
  have hkus : us.map (·.1) = kds := by
    apply List.ext_getElem?
    intro i
    rw [List.getElem?_map]
    cases hx : us[i]? with
    | none =>
      have : us.length ≤ i := List.getElem?_eq_none_iff.1 hx
      rw [List.getElem?_eq_none (by omega)]; rfl
    | some x => rw [(kin i x hx).1]; rfl
  have hfl2 : (feedsC n Cs).length = n := hfd.len.2
  -- the stations
  have hss : ∀ (j : Nat) (s : Nat × Value × (Kd × Nat)), sts[j]? = some s → s.1 < n ∧ os[j]? = some (s.1 : Int) ∧ ∃ l, (feedsC n Cs)[s.1]? = some l ∧ us[s.1]? = some s.2.2 ∧ vs[s.1]? = some s.2.1 := fun j s hs => by
    obtain ⟨h1, h2, h3⟩ := hst.is j s hs
    obtain ⟨t, h4, h5⟩ := hos.2 _ (List.mem_of_getElem? h1)
    have h6 : s.1 < n := by omega
    obtain ⟨l, hl⟩ := getElem?_some (xs := feedsC n Cs) (j := s.1) (by omega)
    exact ⟨h6, h1, l, hl, h3, h2⟩
  obtain ⟨bC2, hC1, hC2⟩ : ∃ bC2, bC2 ∉ O :: us.map (·.2) ∧ HasC 2 cabC bC2 w.heap.size w'.heap.size w' (.slice A m q) Cs := by
    by_cases hp : 0 < Cs.length
    · refine ⟨bC, fun hm => ?_, (hcab.keep sW).weak (by omega) (.inl hsw)⟩
      obtain ⟨A', c', e', _, hcc⟩ := hcab
      obtain ⟨off, _, _, h2, _⟩ := hcc hp
      rcases inW _ hm with rfl | ⟨x, hx, hxe⟩
      · omega
      · have := hWmem x hx; omega
    · have h0 : Cs = [] := List.eq_nil_of_length_eq_zero (by omega)
      have hm0 := hcab.len.1
      subst h0
      simp at hm0
      subst hm0
      exact ⟨Q, nin Q (.inl rfl), HasC.empty ..⟩
  refine ⟨O :: us.map (·.2), Q, O, bU, bS, bC2, A, q, us, sts.map (fun s => (s.1, (feedsC n Cs).getD s.1 [], s.2.2)), us.map (fun x => [x.2]), rfl, s2.trans sW, ?_, hC2, hC1, hkus, by rw [List.length_map, hstl], ?_, ⟨⟨?_, ?_, ?_, ?_, ?_⟩, ⟨?_, ?_, ?_, ?_, ?_, ?_⟩, by simp, hout⟩⟩
  · intro k hk
    rcases inW k hk with rfl | ⟨x, hx, rfl⟩
    · omega
    · have := hWmem x hx; omega
  · intro j i t hoj hsj
    rw [List.getElem?_map, Option.map_eq_some_iff] at hsj
    obtain ⟨s, hs, rfl⟩ := hsj
    obtain ⟨h1, h2, l, h3, h4, h5⟩ := hss j s hs
    rw [hoj] at h2
    injection h2 with h2
    have h2 : i = s.1 := by omega
    subst h2
    exact ⟨rfl, by simp [List.getD_eq_getElem?_getD, h3], (kin _ _ h4).1⟩
  · exact ⟨nin Q (.inl rfl), nin bU (.inr (.inr rfl)), nin bS (.inr (.inl (by omega))), List.mem_cons_self ..⟩
  · exact ⟨hn.2, by rw [List.length_map, hstl, hos.1]; exact hn.2, hul⟩
  · refine ⟨U, V, sts, hq, hU, by rw [List.length_map], hS.weak (Nat.zero_le _) (.inl (Nat.le_refl _)), fun j s t hs ht => ?_⟩
    rw [List.getElem?_map, hs] at ht
    cases ht
    obtain ⟨h1, h2, l, h3, h4, h5⟩ := hss j s hs
    obtain ⟨bF, hb1, hb2, hb3⟩ := hfl s.1 s.2.1 l h5 h3
    refine ⟨rfl, rfl, bF, nin bF (.inr (.inl hb1)), hb2, ?_⟩
    simp only [List.getD_eq_getElem?_getD, h3, Option.getD_some]
    exact hb3
  · refine ⟨fun k hk => ?_, Nat.le_refl _, hq.1, hbU2.2, hbS.2⟩
    rcases inW k hk with rfl | ⟨x, hx, rfl⟩
    · omega
    · exact (hWmem x hx).2.2
  · intro j t ht
    rw [List.getElem?_map, Option.map_eq_some_iff] at ht
    obtain ⟨s, hs, rfl⟩ := ht
    obtain ⟨h1, h2, l, h3, h4, h5⟩ := hss j s hs
    simp only [List.getD_eq_getElem?_getD, h3, Option.getD_some]
    refine ⟨h1, h4, ?_, feedsC_lt n Cs hcs l (List.mem_of_getElem? h3)⟩
    have := feedsC_most n Cs l (List.mem_of_getElem? h3)
    omega
  · exact ⟨by simp, by simp [unOf, hkl, hml, hul, hrl]⟩
  · intro i x f u hx hf hu
    rw [List.getElem?_map, hx] at hf
    cases hf
    obtain ⟨h1, m', r, h2, h3, h4⟩ := kin i x hx
    unfold unOf at hu
    rw [List.getElem?_map] at hu
    have hz : ((kds.zip Ms).zip Rs)[i]? = some ((x.1, m'), r) := by rw [List.getElem?_zip_eq_some, List.getElem?_zip_eq_some]; exact ⟨⟨h1, h2⟩, h3⟩
    rw [hz] at hu
    cases hu
    exact h4 _ (fun k hk => by
      rcases inW k hk with rfl | ⟨y, hy, rfl⟩
      · omega
      · have := hWmem y hy; omega)
  · intro i f hf b' hb'
    rw [List.getElem?_map, Option.map_eq_some_iff] at hf
    obtain ⟨x, hx, rfl⟩ := hf
    simp at hb'
    subst hb'
    refine ⟨List.mem_cons_of_mem _ (List.mem_map.2 ⟨x, List.mem_of_getElem? hx, rfl⟩), ?_⟩
    have := hWmem x (List.mem_of_getElem? hx)
    omega
  · intro i j f f' hf hf' b' hb' hb2
    rw [List.getElem?_map, Option.map_eq_some_iff] at hf hf'
    obtain ⟨x, hx, rfl⟩ := hf
    obtain ⟨y, hy, rfl⟩ := hf'
    simp at hb' hb2
    exact hun.inj i j x y hx hy (by rw [← hb', ← hb2])
  · exact fun b hb => hb
  · intro k hk
    rcases inW k hk with rfl | ⟨x, hx, rfl⟩
    · have := hq.1; omega
    · exact (hWmem x hx).2.2
end Go.Proofs.YtkjlodoppmipfaaGreat
