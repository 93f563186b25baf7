/- Pools without leases: made, compared, marked, looked at. Pools, plain mathematics: leases, which samples they cover, what keeps a pool valid. -/
import Derived.Test.YtfafkdpefdpnkaaJq12
import Derived.Test.YtfafkdpefdpnkaaJq13
import Derived.Outline
namespace Go.Proofs.Ytfafkdpefdpnkaa
section
open Go.RowKit

/-- A pool without leases. -/
def HasP0 (own : Bool) (lo hi : Nat) (w : World) (v : Value) (xs : List Cx) : Prop :=
  ∃ b vS, v = .agg #[vS, .slice none 0 0] ∧ HasS cxV own b lo hi w vS xs

theorem HasP0.span {own : Bool} {lo hi l r : Nat} {w w' : World} {v : Value} {t : List Cx} (h : HasP0 own lo hi w v t) (hs : Span l r w w') (hd : r ≤ l ∨ hi ≤ l ∨ r ≤ lo) : HasP0 own lo hi w' v t := by
  obtain ⟨b1, vS, rfl, h1⟩ := h
  exact ⟨b1, vS, rfl, h1.span hs (by omega)⟩
theorem HasP0.weak {own : Bool} {lo hi lo' hi' : Nat} {w : World} {v : Value} {t : List Cx} (h : HasP0 own lo hi w v t) (h1 : lo' ≤ lo) (h2 : hi ≤ hi' ∨ w.heap.size ≤ hi') : HasP0 own lo' hi' w v t := by
  obtain ⟨b1, vS, rfl, g1⟩ := h
  exact ⟨b1, vS, rfl, g1.weak h1 h2⟩
theorem HasP0.form {own : Bool} {lo hi : Nat} {w : World} {v : Value} {t : List Cx} (h : HasP0 own lo hi w v t) : ∃ A c, v = .agg #[.slice A t.length c, .slice none 0 0] := by
  obtain ⟨b1, vS, rfl, h1⟩ := h
  obtain ⟨A, c, rfl, _⟩ := h1
  exact ⟨A, c, rfl⟩
theorem HasP0.none_ (own : Bool) (lo hi : Nat) (w : World) : HasP0 own lo hi w (.agg #[.slice none 0 0, .slice none 0 0]) [] :=
  ⟨0, _, rfl, HasS.empty _ _ _ _ _ _ _ _⟩

/-- A pool that is made, or none. -/
def GivesP0 (o : Option (List Cx)) (w : World) (e : Ending) (w' : World) : Prop :=
  ∃ v, e = .returned (.tuple #[v, .bool o.isSome]) ∧ HasP0 true w.heap.size w'.heap.size w' v (o.getD []) ∧ Span 0 0 w w'

def poolO (n : Int) : Option (List Cx) := if 0 ≤ n ∧ n ≤ 256 then some (List.replicate n.toNat (0, 0)) else none

theorem poolO_len (n : Int) : ((poolO n).getD []).length ≤ 256 := by
  unfold poolO
  by_cases h : 0 ≤ n ∧ n ≤ 256
  · rw [if_pos h]; simp; omega
  · rw [if_neg h]; simp

theorem zeros_hasS (w : World) (m lo hi : Nat) (h1 : lo ≤ w.heap.size) (h2 : w.heap.size < hi) : HasS cxV true w.heap.size lo hi (w.alloc (.cells (zerosV (.complex .f32 0 0) m) 35)) (.slice (some ⟨w.heap.size, 0, none⟩) m m) (List.replicate m (0, 0)) := by
  have hF : Filled (w.alloc (.cells (zerosV (.complex .f32 0 0) m) 35)) w.heap.size 35 m m (fun _ => .complex .f32 0 0) :=
    ⟨zerosV (.complex .f32 0 0) m, heap_alloc_new _ _, by simp [zerosV], fun j hj => by simp [zerosV, hj]⟩
  have := Filled.hasS (val := cxV) (xs := List.replicate m ((0, 0) : Cx)) (lo := lo) (hi := hi) (w := w.alloc (.cells (zerosV (.complex .f32 0 0) m) 35)) (g := w.heap.size) (e := 35) (f := fun _ => .complex .f32 0 0) (by rw [List.length_replicate]; exact hF)
    (fun j x hj => by obtain ⟨_, h⟩ := List.getElem?_eq_some_iff.1 hj; simp at h; rw [← h]; rfl) h1 h2
  rw [List.length_replicate] at this
  exact this

set_option maxRecDepth 100000 in
theorem spec_newPool (n : Int) (w : World) : Calls Try.prog 49 #[.int .i64 n] w (GivesP0 (poolO n) w) := by
  unfold poolO
  by_cases h1 : 0 ≤ n ∧ n ≤ 256
  · obtain ⟨m, rfl⟩ := Int.eq_ofNat_of_zero_le (show 0 ≤ n by omega)
    rw [if_pos (by omega)]
    have i0 : Hid (decide ((0 : Int) ≤ (m : Int) ∧ (m : Int) ≤ 256) = true) := by unfold Hid; rw [decide_eq_true_iff]; omega
    have hmk := run_make_zeros (P := Try.prog) (w.alloc (.cells #[.slice none 0 0, .slice none 0 0] 45)) 23 35 (.complex .f32 0 0) 8 Try.underlying23 info_c64 rfl m (by omega) (by omega)
    go_enter Try.func49, Try.ntmps49
    go_wp2_with fail
    refine (l1In_any _ _ _ _).mono ?_
    rintro _ _ ⟨rfl, rfl⟩
    rw [i0.out]
    go_wp2_with fail
    have HZ := Lib.hid (zeros_hasS (w.alloc (.cells #[.slice (some ⟨w.heap.size + 1, 0, none⟩) m m, .slice none 0 0] 45)) m (w.heap.size + 1) (w.heap.size + 2) (by simp) (by simp))
    have HX := (Box.new w (.slice (some ⟨w.heap.size + 1, 0, none⟩) m m) (.slice none 0 0) 45).alloc (.cells (zerosV (.complex .f32 0 0) m) 35)
    rw [show (w.alloc (.cells #[.slice (some ⟨w.heap.size + 1, 0, none⟩) m m, .slice none 0 0] 45)).heap.size = w.heap.size + 1 by simp] at HZ
    refine bodyPost_ret (v := .tuple #[.agg #[.slice (some ⟨w.heap.size + 1, 0, none⟩) m m, .slice none 0 0], .bool true]) (by simp [results, Try.results49, go_sem, HX.2.1, HX.2.2.1]) rfl ⟨_, rfl, ?_, ((Span.refl 0 0 w).alloc _).alloc _⟩
    exact HasP0.weak (lo := w.heap.size + 1) (hi := w.heap.size + 2) ⟨w.heap.size + 1, _, rfl, HZ.out⟩ (by omega) (.inl (by simp))
  · rw [if_neg h1]
    have b3 : Hid (decide ((0 : Int) ≤ n ∧ n ≤ 256) = false) := by unfold Hid; rw [decide_eq_false_iff_not]; omega
    clear h1
    go_enter Try.func49, Try.ntmps49
    go_wp2_with fail
    refine (l1In_any _ _ _ _).mono ?_
    rintro _ _ ⟨rfl, rfl⟩
    rw [b3.out]
    go_wp2
    exact bodyPost_ret (v := .tuple #[.agg #[.slice none 0 0, .slice none 0 0], .bool false]) (by simp [results, Try.results49, go_sem]) rfl ⟨_, rfl, HasP0.none_ _ _ _ _, (Span.refl _ _ _).alloc _⟩

/-- What marking a pool gives. -/
def MarksP0 (lo hi : Nat) (v : Value) (xs : List Cx) (n k : Nat) (w : World) (e : Ending) (w' : World) : Prop :=
  e = .returned (.int .i64 ((k + n : Nat) : Int)) ∧ HasP0 true lo hi w' v xs ∧ Span lo hi w w'
end
section
open Go.RowKit

/-- A lease of a valid pool. -/
structure Ls where
  start : Nat
  count : Nat
  room : Nat
  free : Bool

abbrev Pl := List Cx × List Ls

def freeL : Ls := ⟨0, 0, 0, true⟩

/-- Does a lent lease have the sample i in its room? -/
def covers (x : Ls) (i : Nat) : Bool := !x.free && (decide (x.start ≤ i) && decide (i < x.start + x.room))

/-- How many rooms have the sample i. -/
def cnt (L : List Ls) (i : Nat) : Nat := L.countP (covers · i)

structure OkL (n : Nat) (x : Ls) : Prop where
  fr : x.free = true → x.start = 0 ∧ x.count = 0 ∧ x.room = 0
  lent : x.free = false → 1 ≤ x.room ∧ x.count ≤ x.room ∧ x.start + x.room ≤ n

structure VP (p : Pl) : Prop where
  size : p.1.length ≤ 256
  most : p.2.length ≤ 16
  ok : ∀ x ∈ p.2, OkL p.1.length x
  one : ∀ i, cnt p.2 i ≤ 1

theorem OkL.bounds {n : Nat} {x : Ls} (h : OkL n x) : x.start ≤ n ∧ x.count ≤ x.room ∧ x.start + x.room ≤ n := by
  cases hf : x.free with
  | true => obtain ⟨a, b, c⟩ := h.fr hf; omega
  | false => obtain ⟨a, b, c⟩ := h.lent hf; omega

theorem covers_free {x : Ls} (h : x.free = true) (i : Nat) : covers x i = false := by unfold covers; rw [h]; rfl

theorem covers_lent {x : Ls} (h : x.free = false) (i : Nat) : covers x i = true ↔ x.start ≤ i ∧ i < x.start + x.room := by
  unfold covers; rw [h]; simp

theorem cnt_nil (i : Nat) : cnt [] i = 0 := rfl

theorem cnt_append (L M : List Ls) (i : Nat) : cnt (L ++ M) i = cnt L i + cnt M i := by unfold cnt; exact List.countP_append

theorem cnt_one (x : Ls) (i : Nat) : cnt [x] i = (covers x i).toNat := by
  unfold cnt
  rw [List.countP_cons, List.countP_nil]
  cases covers x i <;> rfl

theorem cnt_cons (x : Ls) (L : List Ls) (i : Nat) : cnt (x :: L) i = (covers x i).toNat + cnt L i := by
  rw [← List.singleton_append, cnt_append, cnt_one]

theorem cnt_set : ∀ (L : List Ls) (id : Nat) (old x : Ls) (i : Nat), L[id]? = some old → cnt (L.set id x) i + (covers old i).toNat = cnt L i + (covers x i).toNat
  | [], id, old, x, i, h => by simp at h
  | y :: L, 0, old, x, i, h => by
    simp at h; subst h
    rw [List.set_cons_zero, cnt_cons, cnt_cons]; omega
  | y :: L, id + 1, old, x, i, h => by
    simp at h
    have := cnt_set L id old x i h
    rw [List.set_cons_succ, cnt_cons, cnt_cons]; omega

theorem cnt_take {L : List Ls} {k : Nat} {x : Ls} (h : L[k]? = some x) (i : Nat) : cnt (L.take (k + 1)) i = cnt (L.take k) i + (covers x i).toNat := by
  rw [take_snoc_of h, cnt_append, cnt_one]

theorem cnt_pos {L : List Ls} {i : Nat} : 0 < cnt L i ↔ ∃ x ∈ L, covers x i = true := List.countP_pos_iff

theorem cnt_le {L : List Ls} (k : Nat) (i : Nat) : cnt (L.take k) i ≤ cnt L i := by
  have h : cnt L i = cnt (L.take k) i + cnt (L.drop k) i := by rw [← cnt_append, List.take_append_drop]
  omega

/-- Beyond the store there is no room. -/
theorem VP.beyond {p : Pl} (h : VP p) {i : Nat} (hi : p.1.length ≤ i) : cnt p.2 i = 0 := by
  rcases Nat.eq_zero_or_pos (cnt p.2 i) with e | e
  · exact e
  · obtain ⟨x, hx, hc⟩ := cnt_pos.1 e
    have := (h.ok x hx).bounds
    cases hf : x.free with
    | true => rw [covers_free hf] at hc; cases hc
    | false => rw [covers_lent hf] at hc; omega

/-- A lease is put in the first place that is free, or behind all. -/
def putL (L : List Ls) (x : Ls) : Option (List Ls × Nat) :=
  match L.findIdx? (·.free) with
  | some i => some (L.set i x, i)
  | none => if L.length < 16 then some (L ++ [x], L.length) else none

theorem putL_some {L L' : List Ls} {x : Ls} {id : Nat} (h : putL L x = some (L', id)) :
    (∀ i, cnt L' i = cnt L i + (covers x i).toNat) ∧ (∀ y ∈ L', y ∈ L ∨ y = x) ∧ (L.length ≤ 16 → L'.length ≤ 16) ∧ L.length ≤ L'.length ∧ L'.length ≤ L.length + 1 ∧ L'[id]? = some x := by
  unfold putL at h
  cases hf : L.findIdx? (·.free) with
  | some i =>
    rw [hf] at h
    simp only [Option.some.injEq, Prod.mk.injEq] at h
    obtain ⟨rfl, rfl⟩ := h
    obtain ⟨hi, hp, _⟩ := List.findIdx?_eq_some_iff_getElem.1 hf
    have hg : L[i]? = some L[i] := List.getElem?_eq_getElem hi
    refine ⟨fun j => ?_, fun y hy => ?_, fun hl => by rw [List.length_set]; exact hl, by rw [List.length_set]; exact Nat.le_refl _, by rw [List.length_set]; omega, by rw [List.getElem?_set_self hi]⟩
    · have := cnt_set L i L[i] x j hg
      rw [covers_free hp] at this
      simpa using this
    · rcases List.mem_or_eq_of_mem_set hy with g | g
      · exact .inl g
      · exact .inr g
  | none =>
    rw [hf] at h
    simp only at h
    split at h
    · rename_i hlt
      simp only [Option.some.injEq, Prod.mk.injEq] at h
      obtain ⟨rfl, rfl⟩ := h
      refine ⟨fun j => by rw [cnt_append, cnt_one], fun y hy => ?_, fun _ => by simp; omega, by simp, by simp, by simp⟩
      rcases List.mem_append.1 hy with g | g
      · exact .inl g
      · exact .inr (List.mem_singleton.1 g)
    · cases h

theorem VP.put {S : List Cx} {L L' : List Ls} {x : Ls} {id : Nat} (h : VP (S, L)) (hx : OkL S.length x) (hc : ∀ i, covers x i = true → cnt L i = 0) (hp : putL L x = some (L', id)) : VP (S, L') := by
  obtain ⟨h1, h2, h3, _⟩ := putL_some hp
  refine ⟨h.size, h3 h.most, fun y hy => ?_, fun i => ?_⟩
  · rcases h2 y hy with g | g
    · exact h.ok y g
    · rw [g]; exact hx
  · have := h.one i
    show cnt L' i ≤ 1
    rw [h1]
    cases hci : covers x i with
    | false => simpa using this
    | true => rw [hc i hci]; simp

/-- Of another store of the same size. -/
theorem VP.store {S S' : List Cx} {L : List Ls} (h : VP (S, L)) (hl : S'.length = S.length) : VP (S', L) :=
  ⟨by rw [show (S', L).1.length = S.length from hl]; exact h.size, h.most, fun x hx => by rw [show (S', L).1.length = S.length from hl]; exact h.ok x hx, h.one⟩

theorem VP.set {S : List Cx} {L : List Ls} {id : Nat} {old x : Ls} (h : VP (S, L)) (hid : L[id]? = some old) (hx : OkL S.length x) (hc : ∀ i, covers x i = true → covers old i = true) : VP (S, L.set id x) := by
  refine ⟨h.size, by show (L.set id x).length ≤ 16; rw [List.length_set]; exact h.most, fun y hy => ?_, fun i => ?_⟩
  · rcases List.mem_or_eq_of_mem_set hy with g | g
    · exact h.ok y g
    · rw [g]; exact hx
  · have h1 := cnt_set L id old x i hid
    have h2 := h.one i
    show cnt (L.set id x) i ≤ 1
    have h2' : cnt L i ≤ 1 := h2
    cases hci : covers x i with
    | false => rw [hci] at h1; simp at h1; omega
    | true => rw [hci, hc i hci] at h1; simp at h1; omega

/-- The lease id, if it is lent. -/
def lentAt (p : Pl) (id : Nat) : Option Ls := (p.2[id]?).bind fun x => if x.free then none else some x

theorem lentAt_some {p : Pl} {id : Nat} {x : Ls} (h : lentAt p id = some x) : p.2[id]? = some x ∧ x.free = false := by
  unfold lentAt at h
  cases hg : p.2[id]? with
  | none => rw [hg] at h; cases h
  | some y =>
    rw [hg] at h
    simp only [Option.bind_some] at h
    split at h
    · cases h
    · rename_i hf
      injection h with h
      subst h
      exact ⟨rfl, by simpa using hf⟩

/-- What is given back. -/
def giveP (p : Pl) (id : Nat) : Option Pl := (lentAt p id).map fun _ => (p.1, p.2.set id freeL)

theorem freeL_ok (n : Nat) : OkL n freeL := ⟨fun _ => ⟨rfl, rfl, rfl⟩, fun h => by cases h⟩

theorem VP.give {p q : Pl} (h : VP p) {id : Nat} (hq : giveP p id = some q) : VP q ∧ q.1.length = p.1.length ∧ q.2.length = p.2.length := by
  unfold giveP at hq
  cases hl : lentAt p id with
  | none => rw [hl] at hq; cases hq
  | some x =>
    rw [hl] at hq
    injection hq with hq
    subst hq
    exact ⟨VP.set (S := p.1) h (lentAt_some hl).1 (freeL_ok _) (fun i hi => by rw [covers_free rfl] at hi; cases hi), rfl, List.length_set ..⟩

/-- A lease that is cut in two. -/
def cutP (p : Pl) (id at' : Nat) : Option (Pl × Nat) :=
  (lentAt p id).bind fun x => if 1 ≤ at' ∧ at' ≤ min x.count (x.room - 1) then
    (putL (p.2.set id ⟨x.start, at', at', false⟩) ⟨x.start + at', x.count - at', x.room - at', false⟩).map fun q => ((p.1, q.1), q.2) else none

theorem VP.cut {p q : Pl} {id at' r : Nat} (h : VP p) (hq : cutP p id at' = some (q, r)) : VP q ∧ q.1.length = p.1.length ∧ q.2.length ≤ p.2.length + 1 := by
  unfold cutP at hq
  cases hl : lentAt p id with
  | none => rw [hl] at hq; cases hq
  | some x =>
    rw [hl] at hq
    simp only [Option.bind_some] at hq
    split at hq
    · rename_i hc
      obtain ⟨hx, hf⟩ := lentAt_some hl
      obtain ⟨o1, o2, o3⟩ := (h.ok x (List.mem_of_getElem? hx)).lent hf
      have hm := hc.2
      rw [Nat.min_def] at hm
      cases hp : putL (p.2.set id ⟨x.start, at', at', false⟩) ⟨x.start + at', x.count - at', x.room - at', false⟩ with
      | none => rw [hp] at hq; cases hq
      | some L' =>
        obtain ⟨L', id'⟩ := L'
        rw [hp] at hq
        simp only [Option.map_some, Option.some.injEq, Prod.mk.injEq] at hq
        obtain ⟨rfl, rfl⟩ := hq
        have h1 : VP (p.1, p.2.set id ⟨x.start, at', at', false⟩) := VP.set (S := p.1) h hx ⟨(fun e => by cases e), fun _ => ⟨hc.1, Nat.le_refl _, by show x.start + at' ≤ p.1.length; split at hm <;> omega⟩⟩ (fun i hi => by
          rw [covers_lent rfl] at hi
          rw [covers_lent hf]
          simp only at hi
          split at hm <;> omega)
        refine ⟨h1.put ⟨(fun e => by cases e), fun _ => ⟨by show 1 ≤ x.room - at'; split at hm <;> omega, by show x.count - at' ≤ x.room - at'; split at hm <;> omega, by show x.start + at' + (x.room - at') ≤ p.1.length; split at hm <;> omega⟩⟩ (fun i hi => ?_) hp, rfl, ?_⟩
        · rw [covers_lent rfl] at hi
          simp only at hi
          have e := cnt_set p.2 id x ⟨x.start, at', at', false⟩ i hx
          have c1 : covers x i = true := by rw [covers_lent hf]; split at hm <;> omega
          have c2 : covers ⟨x.start, at', at', false⟩ i = false := by
            rw [← Bool.not_eq_true, covers_lent rfl]; simp only; omega
          rw [c1, c2] at e
          have := h.one i
          simp at e
          omega
        · have h5 := (putL_some hp).2.2.2.2.1
          rw [List.length_set] at h5
          exact h5
    · cases hq

/-- A list in place of what stands from i on. -/
def overlay (S : List Cx) (i : Nat) (xs : List Cx) : List Cx := S.take i ++ xs ++ S.drop (i + xs.length)

theorem overlay_length {S : List Cx} {i : Nat} {xs : List Cx} (h : i + xs.length ≤ S.length) : (overlay S i xs).length = S.length := by
  simp [overlay]; omega

/-- What is appended to a lease. -/
def appP (p : Pl) (id : Nat) (xs : List Cx) : Option Pl :=
  (lentAt p id).bind fun x => if xs.length ≤ x.room - x.count then some (overlay p.1 (x.start + x.count) xs, p.2.set id ⟨x.start, x.count + xs.length, x.room, false⟩) else none

theorem VP.app {p q : Pl} {id : Nat} {xs : List Cx} (h : VP p) (hq : appP p id xs = some q) : VP q ∧ q.1.length = p.1.length ∧ q.2.length = p.2.length := by
  unfold appP at hq
  cases hl : lentAt p id with
  | none => rw [hl] at hq; cases hq
  | some x =>
    rw [hl] at hq
    simp only [Option.bind_some] at hq
    split at hq
    · rename_i hc
      injection hq with hq
      subst hq
      obtain ⟨hx, hf⟩ := lentAt_some hl
      obtain ⟨o1, o2, o3⟩ := (h.ok x (List.mem_of_getElem? hx)).lent hf
      have ho : (overlay p.1 (x.start + x.count) xs).length = p.1.length := overlay_length (by omega)
      refine ⟨VP.store (S := p.1) (VP.set (S := p.1) h hx ⟨(fun e => by cases e), fun _ => ⟨o1, by show x.count + xs.length ≤ x.room; omega, o3⟩⟩ (fun i hi => ?_)) ho, ho, List.length_set ..⟩
      rw [covers_lent rfl] at hi
      rw [covers_lent hf]
      exact hi
    · cases hq

/-- The length of the run of free samples that ends ahead of i. -/
def runTo (L : List Ls) : Nat → Nat
  | 0 => 0
  | i + 1 => if 0 < cnt L i then 0 else runTo L i + 1

theorem runTo_le (L : List Ls) : ∀ i, runTo L i ≤ i
  | 0 => Nat.le_refl _
  | i + 1 => by unfold runTo; split <;> have := runTo_le L i <;> omega

theorem runTo_free (L : List Ls) : ∀ i j, i - runTo L i ≤ j → j < i → cnt L j = 0
  | 0, j, _, h => by omega
  | i + 1, j, h1, h2 => by
    unfold runTo at h1
    split at h1
    · omega
    · rename_i hc
      by_cases e : j = i
      · rw [e]; omega
      · exact runTo_free L i j (by omega) (by omega)

/-- Where a room is found: the index of its last sample. -/
def roomAt (p : Pl) (room : Nat) : Option Nat := (List.range p.1.length).find? fun i => runTo p.2 (i + 1) == room

/-- A room that is lent. -/
def lendP (p : Pl) (room : Nat) : Option (Pl × Nat) :=
  (roomAt p room).bind fun i => (putL p.2 ⟨i + 1 - room, 0, room, false⟩).map fun q => ((overlay p.1 (i + 1 - room) (List.replicate room (0, 0)), q.1), q.2)

theorem VP.lend {p q : Pl} {room r : Nat} (h : VP p) (hr : 1 ≤ room) (hq : lendP p room = some (q, r)) : VP q ∧ q.1.length = p.1.length ∧ q.2.length ≤ p.2.length + 1 := by
  unfold lendP at hq
  cases hl : roomAt p room with
  | none => rw [hl] at hq; cases hq
  | some i =>
    rw [hl] at hq
    simp only [Option.bind_some] at hq
    have hi1 := List.find?_some hl
    have hi2 := List.mem_of_find?_eq_some hl
    rw [List.mem_range] at hi2
    have hi3 : runTo p.2 (i + 1) = room := by simpa using hi1
    have hi4 := runTo_le p.2 (i + 1)
    cases hp : putL p.2 ⟨i + 1 - room, 0, room, false⟩ with
    | none => rw [hp] at hq; cases hq
    | some L' =>
      obtain ⟨L', id'⟩ := L'
      rw [hp] at hq
      simp only [Option.map_some, Option.some.injEq, Prod.mk.injEq] at hq
      obtain ⟨rfl, rfl⟩ := hq
      have ho : (overlay p.1 (i + 1 - room) (List.replicate room (0, 0))).length = p.1.length := overlay_length (by rw [List.length_replicate]; omega)
      refine ⟨VP.store (S := p.1) (VP.put (S := p.1) h ⟨(fun e => by cases e), fun _ => ⟨hr, Nat.zero_le _, by show i + 1 - room + room ≤ p.1.length; omega⟩⟩ (fun j hj => ?_) hp) ho, ho, (putL_some hp).2.2.2.2.1⟩
      rw [covers_lent rfl] at hj
      simp only at hj
      exact runTo_free p.2 (i + 1) j (by omega) (by omega)
end
end Go.Proofs.Ytfafkdpefdpnkaa
