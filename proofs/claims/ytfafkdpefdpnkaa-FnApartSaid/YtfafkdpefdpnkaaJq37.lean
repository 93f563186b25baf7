/- Pools, plain mathematics: lent leases in order, gaps, where a room is found. -/
import Derived.Test.YtfafkdpefdpnkaaJq36
namespace Go.Proofs.Ytfafkdpefdpnkaa
open Go.RowKit

/-- The indices below k of the leases that are lent. -/
def lentTo (L : List Ls) (k : Nat) : List Nat := (List.range k).filter fun i => (L[i]?).elim false (!·.free)
def lentIds (L : List Ls) : List Nat := lentTo L L.length
def lentL (L : List Ls) : List Ls := L.filter (!·.free)
/-- The leases with these indices. -/
def pickL (L : List Ls) (o : List Nat) : List Ls := o.filterMap (L[·]?)

theorem lentTo_zero (L : List Ls) : lentTo L 0 = [] := rfl
theorem lentTo_succ {L : List Ls} {k : Nat} {x : Ls} (h : L[k]? = some x) : lentTo L (k + 1) = lentTo L k ++ (if x.free = true then [] else [k]) := by
  unfold lentTo
  rw [List.range_succ, List.filter_append]
  congr 1
  cases hf : x.free <;> simp [h, hf]

theorem lentTo_mem {L : List Ls} {k i : Nat} : i ∈ lentTo L k ↔ i < k ∧ ∃ x, L[i]? = some x ∧ x.free = false := by
  unfold lentTo
  rw [List.mem_filter, List.mem_range]
  cases L[i]? with
  | none => simp
  | some x => simp

theorem lentIds_mem {L : List Ls} {i : Nat} : i ∈ lentIds L ↔ ∃ x, L[i]? = some x ∧ x.free = false := by
  unfold lentIds
  rw [lentTo_mem]
  constructor
  · exact fun h => h.2
  · rintro ⟨x, hx, hf⟩
    exact ⟨(List.getElem?_eq_some_iff.1 hx).1, x, hx, hf⟩

theorem lentIds_nodup (L : List Ls) : (lentIds L).Nodup := List.Pairwise.filter _ List.nodup_range

theorem pick_lentTo (L : List Ls) : ∀ k, k ≤ L.length → pickL L (lentTo L k) = lentL (L.take k)
  | 0, _ => by simp [lentTo_zero, pickL, lentL]
  | k + 1, h => by
    obtain ⟨x, hx⟩ : ∃ x, L[k]? = some x := ⟨L[k], List.getElem?_eq_getElem (by omega)⟩
    have ih := pick_lentTo L k (by omega)
    rw [lentTo_succ hx, take_snoc_of hx]
    unfold pickL lentL at ih ⊢
    rw [List.filterMap_append, ih, List.filter_append]
    congr 1
    cases hf : x.free <;> simp [hf, hx]

theorem pick_lentIds (L : List Ls) : pickL L (lentIds L) = lentL L := by
  have := pick_lentTo L L.length (Nat.le_refl _)
  rw [List.take_length] at this
  exact this

/-- Where the room of a lease starts. -/
def startOf (L : List Ls) (i : Nat) : Nat := ((L[i]?).map (·.start)).getD 0

/-- The indices of the lent leases, in the order of their starts. -/
structure IsOrd (L : List Ls) (o : List Nat) : Prop where
  perm : o.Perm (lentIds L)
  asc : o.Pairwise fun a b => startOf L a ≤ startOf L b

theorem IsOrd.mem {L : List Ls} {o : List Nat} (h : IsOrd L o) {i : Nat} : i ∈ o ↔ ∃ x, L[i]? = some x ∧ x.free = false := by
  rw [h.perm.mem_iff, lentIds_mem]
theorem IsOrd.nodup {L : List Ls} {o : List Nat} (h : IsOrd L o) : o.Nodup := h.perm.nodup_iff.2 (lentIds_nodup L)
theorem IsOrd.pick {L : List Ls} {o : List Nat} (h : IsOrd L o) : (pickL L o).Perm (lentL L) := by
  rw [← pick_lentIds]
  exact h.perm.filterMap _

def roomsOf : List Ls → Nat
  | [] => 0
  | x :: X => x.room + roomsOf X

theorem roomsOf_append : ∀ X Y : List Ls, roomsOf (X ++ Y) = roomsOf X + roomsOf Y
  | [], Y => by simp [roomsOf]
  | x :: X, Y => by rw [List.cons_append, roomsOf, roomsOf_append X Y, roomsOf]; omega

theorem roomsOf_perm {X Y : List Ls} (h : X.Perm Y) : roomsOf X = roomsOf Y := by
  induction h with
  | nil => rfl
  | cons x _ ih => rw [roomsOf, roomsOf, ih]
  | swap x y l => simp only [roomsOf]; omega
  | trans _ _ i1 i2 => exact i1.trans i2

theorem roomsOf_lent : ∀ (L : List Ls), (∀ x ∈ L, x.free = true → x.room = 0) → roomsOf (lentL L) = roomsOf L
  | [], _ => rfl
  | x :: L, h => by
    have ih := roomsOf_lent L (fun y hy => h y (List.mem_cons_of_mem _ hy))
    unfold lentL at ih ⊢
    cases hf : x.free with
    | true => simp [hf, roomsOf, h x (by simp) hf, ih]
    | false => simp [hf, roomsOf, ih]

theorem cnt_perm {X Y : List Ls} (h : X.Perm Y) (i : Nat) : cnt X i = cnt Y i := by
  unfold cnt
  exact h.countP_eq _

theorem cnt_lentL : ∀ (L : List Ls) (i : Nat), cnt (lentL L) i = cnt L i
  | [], i => rfl
  | x :: L, i => by
    have ih := cnt_lentL L i
    unfold lentL at ih ⊢
    cases hf : x.free with
    | true => simp only [List.filter_cons, hf, Bool.not_true, Bool.false_eq_true, if_false, cnt_cons, ih, covers_free hf]; simp
    | false => simp only [List.filter_cons, hf, Bool.not_false, if_true, cnt_cons, ih]

/-- Rooms that stand in order, from e on, in a store of n samples. -/
def Asc : Nat → List Ls → Nat → Prop
  | e, [], n => e ≤ n
  | e, x :: X, n => e ≤ x.start ∧ 1 ≤ x.room ∧ x.count ≤ x.room ∧ x.free = false ∧ Asc (x.start + x.room) X n

theorem Asc.le : ∀ {X : List Ls} {e n : Nat}, Asc e X n → e ≤ n
  | [], _, _, h => h
  | x :: X, e, n, h => by
    obtain ⟨h1, h2, h3, h4, h5⟩ := h
    have := Asc.le h5
    omega

theorem Asc.before : ∀ {X : List Ls} {e n : Nat}, Asc e X n → ∀ j, j < e → cnt X j = 0
  | [], _, _, _, j, _ => rfl
  | x :: X, e, n, h, j, hj => by
    obtain ⟨h1, h2, h3, h4, h5⟩ := h
    rw [cnt_cons, Asc.before h5 j (by omega)]
    have : covers x j = false := by rw [← Bool.not_eq_true, covers_lent h4]; omega
    rw [this]; rfl

theorem Asc.head {x : Ls} {X : List Ls} {e n : Nat} (h : Asc e (x :: X) n) (j : Nat) :
    (j < x.start → cnt (x :: X) j = 0) ∧ (x.start ≤ j → j < x.start + x.room → cnt (x :: X) j = 1) ∧ (x.start + x.room ≤ j → cnt (x :: X) j = cnt X j) := by
  obtain ⟨h1, h2, h3, h4, h5⟩ := h
  refine ⟨fun hj => ?_, fun a b => ?_, fun hj => ?_⟩
  · rw [cnt_cons, h5.before j (by omega), show covers x j = false by rw [← Bool.not_eq_true, covers_lent h4]; omega]; rfl
  · rw [cnt_cons, h5.before j b, (covers_lent h4 j).2 ⟨a, b⟩]; rfl
  · rw [cnt_cons, show covers x j = false by rw [← Bool.not_eq_true, covers_lent h4]; omega]; simp

theorem asc_of {n : Nat} : ∀ (X : List Ls) (e : Nat), (∀ x ∈ X, OkL n x ∧ x.free = false) → X.Pairwise (fun x y => x.start ≤ y.start) → (∀ i, cnt X i ≤ 1) → e ≤ n → (∀ x ∈ X, e ≤ x.start) → Asc e X n
  | [], e, _, _, _, h, _ => h
  | x :: X, e, h1, h2, h3, h4, h5 => by
    obtain ⟨o1, o2⟩ := h1 x (by simp)
    obtain ⟨a1, a2, a3⟩ := o1.lent o2
    rw [List.pairwise_cons] at h2
    refine ⟨h5 x (by simp), a1, a2, o2, asc_of X _ (fun y hy => h1 y (List.mem_cons_of_mem _ hy)) h2.2 (fun i => ?_) a3 (fun y hy => ?_)⟩
    · have := h3 i
      rw [cnt_cons] at this
      omega
    · have hs := h2.1 y hy
      rcases Nat.lt_or_ge y.start (x.start + x.room) with g | g
      · have c := h3 y.start
        obtain ⟨b1, b2, b3⟩ := (h1 y (List.mem_cons_of_mem _ hy)).1.lent (h1 y (List.mem_cons_of_mem _ hy)).2
        rw [cnt_cons, (covers_lent o2 _).2 ⟨hs, g⟩] at c
        have : 0 < cnt X y.start := cnt_pos.2 ⟨y, hy, (covers_lent (h1 y (List.mem_cons_of_mem _ hy)).2 _).2 ⟨Nat.le_refl _, by omega⟩⟩
        simp at c
        omega
      · exact g

theorem VP.asc {p : Pl} (h : VP p) {o : List Nat} (ho : IsOrd p.2 o) : Asc 0 (pickL p.2 o) p.1.length := by
  refine asc_of _ _ (fun x hx => ?_) ?_ (fun i => ?_) (Nat.zero_le _) (fun _ _ => Nat.zero_le _)
  · have := ho.pick.mem_iff.1 hx
    unfold lentL at this
    rw [List.mem_filter] at this
    exact ⟨h.ok x this.1, by simpa using this.2⟩
  · unfold pickL
    rw [List.pairwise_filterMap]
    refine ho.asc.imp ?_
    intro a b hab x hx y hy
    unfold startOf at hab
    rw [hx, hy] at hab
    exact hab
  · rw [cnt_perm ho.pick, cnt_lentL]; exact h.one i

theorem pick_cnt {L : List Ls} {o : List Nat} (ho : IsOrd L o) (i : Nat) : cnt (pickL L o) i = cnt L i := by rw [cnt_perm ho.pick, cnt_lentL]

theorem VP.rooms {p : Pl} (h : VP p) {o : List Nat} (ho : IsOrd p.2 o) : roomsOf (pickL p.2 o) = roomsOf p.2 := by
  rw [roomsOf_perm ho.pick, roomsOf_lent]
  exact fun x hx hf => ((h.ok x hx).fr hf).2.2

/-- The gaps: where each starts, and how many samples it has. -/
def gapsX : Nat → List Ls → Nat → List (Nat × Nat)
  | e, [], n => [(e, n - e)]
  | e, x :: X, n => (e, x.start - e) :: gapsX (x.start + x.room) X n

def sumG : List (Nat × Nat) → Nat
  | [] => 0
  | g :: G => g.2 + sumG G
def maxG : List (Nat × Nat) → Nat
  | [] => 0
  | g :: G => max g.2 (maxG G)

theorem sumG_append : ∀ G H, sumG (G ++ H) = sumG G + sumG H
  | [], H => by simp [sumG]
  | g :: G, H => by rw [List.cons_append, sumG, sumG_append G H, sumG]; omega
theorem maxG_append : ∀ G H, maxG (G ++ H) = max (maxG G) (maxG H)
  | [], H => by simp [maxG]
  | g :: G, H => by rw [List.cons_append, maxG, maxG_append G H, maxG]; omega
theorem maxG_le_sumG : ∀ G, maxG G ≤ sumG G
  | [] => Nat.le_refl _
  | g :: G => by have := maxG_le_sumG G; rw [maxG, sumG]; omega

theorem gaps_sum : ∀ {X : List Ls} {e n : Nat}, Asc e X n → sumG (gapsX e X n) + roomsOf X = n - e
  | [], e, n, h => by simp [gapsX, sumG, roomsOf]
  | x :: X, e, n, h => by
    obtain ⟨h1, h2, h3, h4, h5⟩ := h
    have ih := gaps_sum h5
    have := h5.le
    rw [gapsX, sumG, roomsOf]
    simp only
    omega

/-- Where all rooms stand at the front, all that is free stands in one gap. -/
theorem gaps_full : ∀ {X : List Ls} {e n R : Nat}, Asc e X n → (∀ i, e ≤ i → (0 < cnt X i ↔ i < R)) → maxG (gapsX e X n) = sumG (gapsX e X n)
  | [], e, n, R, h, _ => by simp [gapsX, sumG, maxG]
  | x :: X, e, n, R, h, hR => by
    have hd := h.head
    obtain ⟨h1, h2, h3, h4, h5⟩ := h
    have he : e = x.start := by
      have a := (hR x.start h1).1 (by rw [(hd x.start).2.1 (Nat.le_refl _) (by omega)]; omega)
      rcases Nat.lt_or_ge e x.start with g | g
      · have b := (hR e (Nat.le_refl _)).2 (by omega)
        rw [(hd e).1 g] at b
        omega
      · omega
    have ih := gaps_full (R := R) h5 (fun i hi => by rw [← hR i (by omega), (hd i).2.2 hi])
    rw [gapsX, maxG, sumG, ih]
    simp only
    omega

theorem gaps_one {p : Pl} {o : List Nat} (ho : IsOrd p.2 o) (hn : ∀ x ∈ p.2, x.free = true) : gapsX 0 (pickL p.2 o) p.1.length = [(0, p.1.length)] := by
  have : o = [] := by
    rw [List.eq_nil_iff_forall_not_mem]
    intro i hi
    obtain ⟨x, hx, hf⟩ := ho.mem.1 hi
    rw [hn x (List.mem_of_getElem? hx)] at hf
    cases hf
  subst this
  rfl

/-- The first gap that is great enough. -/
def findG (G : List (Nat × Nat)) (room : Nat) : Option Nat := (G.find? fun g => decide (room ≤ g.2)).map (·.1)

theorem findG_cons_pos {g : Nat × Nat} {G : List (Nat × Nat)} {room : Nat} (h : room ≤ g.2) : findG (g :: G) room = some g.1 := by
  unfold findG; rw [List.find?_cons_of_pos (by simpa using h)]; rfl
theorem findG_cons_neg {g : Nat × Nat} {G : List (Nat × Nat)} {room : Nat} (h : ¬ room ≤ g.2) : findG (g :: G) room = findG G room := by
  unfold findG; rw [List.find?_cons_of_neg (by simpa using h)]
theorem findG_nil (room : Nat) : findG [] room = none := rfl

theorem findG_max : ∀ (G : List (Nat × Nat)) (room : Nat), 1 ≤ room → (findG G room).isSome = decide (room ≤ maxG G)
  | [], room, h => by rw [findG_nil]; simp [maxG]; omega
  | g :: G, room, h => by
    by_cases hg : room ≤ g.2
    · rw [findG_cons_pos hg, maxG]; simp; omega
    · rw [findG_cons_neg hg, findG_max G room h, maxG]
      have : room ≤ maxG G ↔ room ≤ max g.2 (maxG G) := by omega
      simp [this]

theorem run_free {Y : List Ls} {e : Nat} (he : runTo Y e = 0) : ∀ d, (∀ j, e ≤ j → j < e + d → cnt Y j = 0) → runTo Y (e + d) = d
  | 0, _ => he
  | d + 1, h => by
    have ih := run_free he d (fun j a b => h j a (by omega))
    rw [← Nat.add_assoc, runTo, if_neg (by rw [h (e + d) (by omega) (by omega)]; omega), ih]

theorem run_cov {Y : List Ls} {i : Nat} (h : 0 < cnt Y i) : runTo Y (i + 1) = 0 := by rw [runTo, if_pos h]

/-- The first place for a room, from e on. -/
def FirstRun (Y : List Ls) (e n room : Nat) : Option Nat → Prop
  | some s => e ≤ s ∧ s + room ≤ n ∧ runTo Y (s + room) = room ∧ ∀ i, e ≤ i → i + 1 < s + room → runTo Y (i + 1) ≠ room
  | none => ∀ i, e ≤ i → i < n → runTo Y (i + 1) ≠ room

theorem find_gaps {Y : List Ls} {n room : Nat} (hr : 1 ≤ room) : ∀ (X : List Ls) (e : Nat), Asc e X n → (∀ i, e ≤ i → cnt Y i = cnt X i) → runTo Y e = 0 → FirstRun Y e n room (findG (gapsX e X n) room)
  | [], e, h, hc, h0 => by
    have hf : ∀ d, runTo Y (e + d) = d := fun d => run_free h0 d (fun j a _ => by rw [hc j a, cnt_nil])
    rw [gapsX]
    by_cases hg : room ≤ n - e
    · rw [findG_cons_pos hg]
      refine ⟨Nat.le_refl _, by show e + room ≤ n; omega, hf room, fun i a b => ?_⟩
      rw [show i + 1 = e + (i + 1 - e) by omega, hf]
      simp only at b
      omega
    · rw [findG_cons_neg hg, findG_nil]
      intro i a b
      rw [show i + 1 = e + (i + 1 - e) by omega, hf]
      omega
  | x :: X, e, h, hc, h0 => by
    have hd := h.head
    obtain ⟨h1, h2, h3, h4, h5⟩ := h
    have hf : ∀ d, e + d ≤ x.start → runTo Y (e + d) = d := fun d hd' => run_free h0 d (fun j a b => by rw [hc j a, (hd j).1 (by omega)])
    rw [gapsX]
    by_cases hg : room ≤ x.start - e
    · rw [findG_cons_pos hg]
      have hle := h5.le
      refine ⟨Nat.le_refl _, by show e + room ≤ n; omega, hf room (by omega), fun i a b => ?_⟩
      simp only at b
      rw [show i + 1 = e + (i + 1 - e) by omega, hf _ (by omega)]
      omega
    · rw [findG_cons_neg hg]
      have key : ∀ i, e ≤ i → i < x.start + x.room → runTo Y (i + 1) ≠ room := by
        intro i a b
        rcases Nat.lt_or_ge i x.start with g | g
        · rw [show i + 1 = e + (i + 1 - e) by omega, hf _ (by omega)]; omega
        · rw [run_cov (by rw [hc i a, (hd i).2.1 g b]; omega)]; omega
      have ih := find_gaps hr X (x.start + x.room) h5 (fun i hi => by rw [hc i (by omega), (hd i).2.2 hi]) (by
        rw [show x.start + x.room = (x.start + x.room - 1) + 1 by omega]
        exact run_cov (by rw [hc _ (by omega), (hd _).2.1 (by omega) (by omega)]; omega))
      cases hG : findG (gapsX (x.start + x.room) X n) room with
      | some s =>
        rw [hG] at ih
        obtain ⟨i1, i2, i3, i4⟩ := ih
        refine ⟨by omega, i2, i3, fun i a b => ?_⟩
        rcases Nat.lt_or_ge i (x.start + x.room) with g | g
        · exact key i a g
        · exact i4 i g b
      | none =>
        rw [hG] at ih
        intro i a b
        rcases Nat.lt_or_ge i (x.start + x.room) with g | g
        · exact key i a g
        · exact ih i g b

theorem roomAt_eq {p : Pl} {room : Nat} {o : Option Nat} (h : FirstRun p.2 0 p.1.length room o) (hr : 1 ≤ room) : roomAt p room = o.map fun s => s + room - 1 := by
  unfold roomAt
  cases o with
  | none =>
    rw [Option.map_none, List.find?_eq_none]
    intro i hi
    rw [List.mem_range] at hi
    have := h i (Nat.zero_le _) hi
    simpa using this
  | some s =>
    obtain ⟨h1, h2, h3, h4⟩ := h
    rw [Option.map_some]
    rw [List.find?_range_eq_some]
    refine ⟨by simp; rw [show s + room - 1 + 1 = s + room by omega]; exact h3, by simp; omega, fun j hj => ?_⟩
    have := h4 j (Nat.zero_le _) (by omega)
    simpa using this

theorem VP.place {p : Pl} (h : VP p) {o : List Nat} (ho : IsOrd p.2 o) {room : Nat} (hr : 1 ≤ room) : roomAt p room = (findG (gapsX 0 (pickL p.2 o) p.1.length) room).map fun s => s + room - 1 :=
  roomAt_eq (find_gaps hr _ _ (h.asc ho) (fun i _ => (pick_cnt ho i).symm) rfl) hr

theorem findG_mem {G : List (Nat × Nat)} {room s : Nat} (h : findG G room = some s) : ∃ g ∈ G, room ≤ g.2 ∧ g.1 = s := by
  unfold findG at h
  rw [Option.map_eq_some_iff] at h
  obtain ⟨g, h1, h2⟩ := h
  exact ⟨g, List.mem_of_find?_eq_some h1, by simpa using List.find?_some h1, h2⟩

theorem VP.found {p : Pl} (h : VP p) {o : List Nat} (ho : IsOrd p.2 o) {room s : Nat} (hr : 1 ≤ room) (hf : findG (gapsX 0 (pickL p.2 o) p.1.length) room = some s) : s + room ≤ p.1.length := by
  have := find_gaps (Y := p.2) hr _ _ (h.asc ho) (fun i _ => (pick_cnt ho i).symm) rfl
  rw [hf] at this
  exact this.2.1

/-- LendRoom by gaps. -/
theorem VP.lend_eq {p : Pl} (h : VP p) {o : List Nat} (ho : IsOrd p.2 o) {room : Nat} (hr : 1 ≤ room) :
    lendP p room = (findG (gapsX 0 (pickL p.2 o) p.1.length) room).bind fun s => (putL p.2 ⟨s, 0, room, false⟩).map fun q => ((overlay p.1 s (List.replicate room (0, 0)), q.1), q.2) := by
  unfold lendP
  rw [h.place ho hr]
  cases findG (gapsX 0 (pickL p.2 o) p.1.length) room with
  | none => rfl
  | some s =>
    simp only [Option.map_some, Option.bind_some]
    rw [show s + room - 1 + 1 - room = s by omega]
end Go.Proofs.Ytfafkdpefdpnkaa
