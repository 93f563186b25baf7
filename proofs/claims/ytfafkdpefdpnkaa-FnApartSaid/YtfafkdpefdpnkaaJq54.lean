/- The model's pools: AppendTo. -/
import Derived.Test.YtfafkdpefdpnkaaJq46
namespace Go.Proofs.Ytfafkdpefdpnkaa
open Go.RowKit

theorem overlay_nil6 (S : List Cx) (i : Nat) : overlay S i [] = S := by
  unfold overlay
  rw [List.append_nil, List.length_nil, Nat.add_zero, List.take_append_drop]

theorem overlay_step {S ys : List Cx} {i : Nat} {z : Cx} (h : i + ys.length < S.length) : (overlay S i ys).set (i + ys.length) z = overlay S i (ys ++ [z]) := by
  unfold overlay
  have hl : (S.take i ++ ys).length = i + ys.length := by rw [List.length_append, List.length_take]; omega
  rw [List.set_append_right _ _ (by omega), hl, Nat.sub_self]
  obtain ⟨a, ha⟩ := getElem?_some (xs := S) (j := i + ys.length) h
  have hd : S.drop (i + ys.length) = a :: S.drop (i + ys.length + 1) := by
    obtain ⟨h1, h2⟩ := List.getElem?_eq_some_iff.1 ha
    rw [← h2]
    exact List.drop_eq_getElem_cons h1
  rw [hd, List.set_cons_zero, List.length_append]
  simp only [List.append_assoc, List.cons_append, List.nil_append, List.length_cons, List.length_nil]
  rfl

theorem flat_count : ∀ (L : List Ls) (k : Nat) (x : Ls) (n : Nat), L[k]? = some x → flat (L.set k ⟨x.start, n, x.room, x.free⟩) = (flat L).set (k * 4 + 1) (.int .i64 (n : Int))
  | [], k, x, n, h => by simp at h
  | y :: L, 0, x, n, h => by
    simp at h; subst h
    rw [List.set_cons_zero, flat_cons, flat_cons]
    rfl
  | y :: L, k + 1, x, n, h => by
    simp at h
    rw [List.set_cons_succ, flat_cons, flat_cons, flat_count L k x n h, List.set_append_right _ _ (by show 4 ≤ _; omega), show (k + 1) * 4 + 1 - (lsC y).length = k * 4 + 1 by show (k + 1) * 4 + 1 - 4 = _; omega]

theorem Own.setC {R T B : Nat} {w : World} {S : List Cx} {L : List Ls} {A : Option Addr} {q g q' : Nat} {wr : World} (h : Own R T B w S L A q (some ⟨g, 0, none⟩) q' wr) (hR : R < B) (hw : w.heap.size ≤ B) {k : Nat} {x : Ls} (hk : L[k]? = some x) (n : Nat) :
    Own R T B w S (L.set k ⟨x.start, n, x.room, x.free⟩) A q (some ⟨g, 0, none⟩) q' (wr.setCell ⟨g, k * 4 + 1, none⟩ (.int .i64 (n : Int))) := by
  have sp : Span g (g + 1) wr (wr.setCell ⟨g, k * 4 + 1, none⟩ (.int .i64 (n : Int))) := (Span.refl g (g + 1) wr).setCell (.inl ⟨Nat.le_refl _, Nat.lt_succ_self _⟩) _
  have hgB : B ≤ g := (h.hl.lt g rfl).1
  have hgT : g ≠ T := h.ll g rfl
  have hl := (h.hl.stored (k * 4 + 1) (.int .i64 (n : Int))).1
  refine ⟨h.r.span sp (by omega), ?_, ownsRow_spanV h.hs sp (fun j hj => ?_), ?_, ?_, h.ls, ?_⟩
  · rw [List.length_set]; exact h.t.span sp (by omega)
  · rcases h.apart with e | e
    · rw [e] at hj; cases hj
    · intro hc
      have : j = g := by omega
      subst this
      exact e hj
  · rw [List.length_set, flat_count L k x n hk]; exact hl
  · exact ⟨sp.os.trans h.s.os, sp.tape.trans h.s.tape, sp.output.trans h.s.output, Nat.le_trans h.s.size sp.size, fun i hi hn => (sp.block i (Nat.lt_of_lt_of_le hi h.s.size) (by omega)).trans (h.s.block i hi hn)⟩
  · rw [List.length_set]; exact h.ll

theorem appP_some6 {p q : Pl} {id : Nat} {xs : List Cx} (h : appP p id xs = some q) : ∃ x, lentAt p id = some x ∧ xs.length ≤ x.room - x.count ∧ q = (overlay p.1 (x.start + x.count) xs, p.2.set id ⟨x.start, x.count + xs.length, x.room, false⟩) := by
  unfold appP at h
  cases hl : lentAt p id with
  | none => rw [hl] at h; cases h
  | some x =>
    rw [hl] at h
    simp only [Option.bind_some] at h
    split at h
    · rename_i hc
      injection h with h
      exact ⟨x, rfl, hc, h.symm⟩
    · cases h

theorem take_len {xs : List Cx} {k : Nat} (h : k ≤ xs.length) : (xs.take k).length = k := by rw [List.length_take]; omega

theorem cell_keptV {w : World} {p : Addr} {v : Value} (h : w.cell? p = some v) (w' : World) (s : Span 0 0 w w') : w'.cell? p = some v := by
  rw [World.cell?_of_block (w := w) (s.block p.block (World.block_lt_of_cell? w p h) (by omega))]
  exact h

set_option maxRecDepth 100000 in
set_option maxHeartbeats 4000000 in
theorem spec_appendTo (p : Pl) (id : Nat) (xs : List Cx) (lo hi b3 lo3 hi3 : Nat) (v vl : Value) (w : World) (hx : HasP lo hi w v p) (hp : VP p) (hid : id ≤ 4194304) (hl : HasS cxV false b3 lo3 hi3 w vl xs) (hlen : xs.length ≤ 4194304) :
    Calls Try.prog 54 #[v, .int .i64 (id : Int), vl] w (GivesQ (appP p id xs) w) := by
  have HX := Lib.hid hx
  have HV := Lib.hid hp
  have HXS := Lib.hid hl
  obtain ⟨b1, b2, vS, vL, rfl, g1, g2⟩ := hx
  obtain ⟨AS, cS, rfl, _, _⟩ := g1
  have G2 := Lib.hid g2
  obtain ⟨AL, cL, rfl, _, _⟩ := g2
  obtain ⟨AX, cX, rfl, _, _⟩ := hl
  obtain ⟨m, hm⟩ : ∃ m, m = xs.length := ⟨_, rfl⟩
  have HMX := Lib.hid hm
  rw [← hm] at HXS hlen ⊢
  clear hm
  have HID : Hid (id ≤ 4194304) := hid
  have X0 := Lib.hid ((Box.new w (.slice AS p.1.length cS) (.slice AL p.2.length cL) 45).alloc (.cells #[.slice none 0 0, .slice none 0 0] 45))
  have X1 := Lib.hid (Box.new (w.alloc (.cells #[.slice AS p.1.length cS, .slice AL p.2.length cL] 45)) (.slice none 0 0) (.slice none 0 0) 45)
  rw [show (w.alloc (.cells #[.slice AS p.1.length cS, .slice AL p.2.length cL] 45)).heap.size = w.heap.size + 1 by simp] at X1
  have HS := Lib.hid (((Span.refl 0 0 w).alloc (.cells #[.slice AS p.1.length cS, .slice AL p.2.length cL] 45)).alloc (.cells #[.slice none 0 0, .slice none 0 0] 45))
  clear hp
  go_enter Try.func54, Try.ntmps54
  go_wp2_with fail
  generalize (w.alloc (.cells #[.slice AS p.1.length cS, .slice AL p.2.length cL] 45)).alloc (.cells #[.slice none 0 0, .slice none 0 0] 45) = w0 at *
  go_cut [33] (fun s33 wx => s33 = .bool (appP p id xs).isNone ∧ Box w.heap.size (.slice AS p.1.length cS) (.slice AL p.2.length cL) wx ∧ Box (w.heap.size + 1) (.slice none 0 0) (.slice none 0 0) wx ∧ Span 0 0 w wx)
  case first =>
    cases hla : lentAt p id with
    | none =>
      have HG : Hid (appP p id xs = none) := by unfold Hid appP; rw [hla]; rfl
      have C := fun (w' : World) (s : Span 0 0 w0 w') => l3Lent_any p id lo hi (.agg #[.slice AS p.1.length cS, .slice AL p.2.length cL]) w' (HX.out.span (Span.after s HS.out) (.inl (Nat.le_refl _))) HV.out HID.out
      rw [hla] at C
      have HC := Lib.hid C
      obtain ⟨_, x0, x1, _, _⟩ := X0.out
      clear hla C
      refine wp_region_held_drew (S := fun w' => w'.cell? ⟨w.heap.size, 0, none⟩ = some (.slice AS p.1.length cS) ∧ w'.cell? ⟨w.heap.size, 1, none⟩ = some (.slice AL p.2.length cL)) (by kernel_rfl) ⟨x0, x1⟩ (fun hHeld => ?_)
      refine wpAnyH_take (i := 0) (oi := { dst := some 12, op := _, type := _, pos := _, after := _, guard := _ }) (v := .agg #[.slice AS p.1.length cS, .slice AL p.2.length cL]) rfl (by kernel_rfl) (by kernel_rfl) (by kernel_rfl) (fun _ _ _ h => h) (Or.inl ⟨by rfl, fun w hS => by dsimp only at hS; obtain ⟨h1, h2⟩ := hS; go_simp⟩) hHeld ?_
      try simp only [Act.put, List.setIfInBounds_toArray, List.set_cons_zero, List.set_cons_succ]
      refine wpAnyH_take (i := 1) (oi := { dst := some 13, op := _, type := _, pos := _, after := _, guard := _ }) (v := .int .i64 (id : Int)) rfl (by kernel_rfl) (by kernel_rfl) (by kernel_rfl) (fun _ _ _ h => h) (Or.inl ⟨by rfl, fun w hS => by go_simp⟩) hHeld ?_
      try simp only [Act.put, List.setIfInBounds_toArray, List.set_cons_zero, List.set_cons_succ]
      refine wpAnyH_ready (rs := [2]) (by kernel_rfl) (by simp) ?_
      refine AllReadyH.cons (o := { dst := some 14, op := Op.call { callee := Callee.value (Operand.func 74), args := #[Operand.tmp 12, Operand.tmp 13], argTypes := #[45, 3] }, type := 4, pos := _, after := _, guard := none }) rfl (fun K hK => ?_) AllReadyH.nil
      go_simp
      refine (HC.out _ (Span.refl 0 0 w0).drew).mono ?_
      rintro _ w1 ⟨rfl, s1⟩
      simp only [Option.isSome_none]
      have Y0 := Lib.hid ((X0.out.drewN 1).span s1 (.inl (Nat.le_refl _)))
      obtain ⟨_, y0, y1, _, _⟩ := Y0.out
      have Y1 := Lib.hid ((X1.out.drewN 1).span s1 (.inl (Nat.le_refl _)))
      have S1 := Lib.hid (s1.after (HS.out.drewN 1))
      refine hK.out _ _ ⟨y0, y1⟩ (fun hHeld => ?_)
      clear hK K s1
      try simp only [Act.put, List.setIfInBounds_toArray, List.set_cons_zero, List.set_cons_succ]
      refine wpAnyH_take (i := 3) (oi := { dst := some 15, op := _, type := _, pos := _, after := _, guard := _ }) (v := .bool true) rfl (by kernel_rfl) (by kernel_rfl) (by kernel_rfl) (fun _ _ _ h => h) (Or.inl ⟨by rfl, fun w hS => by go_simp⟩) hHeld ?_
      try simp only [Act.put, List.setIfInBounds_toArray, List.set_cons_zero, List.set_cons_succ]
      refine wpAnyH_take (i := 4) (oi := { dst := some 16, op := _, type := _, pos := _, after := _, guard := _ }) (v := .bool true) rfl (by kernel_rfl) (by kernel_rfl) (by kernel_rfl) (fun _ _ _ h => h) (Or.inl ⟨by rfl, fun w hS => by go_simp⟩) hHeld ?_
      try simp only [Act.put, List.setIfInBounds_toArray, List.set_cons_zero, List.set_cons_succ]
      refine wpAnyH_take (i := 5) (oi := { dst := some 17, op := _, type := _, pos := _, after := _, guard := _ }) (v := undef) rfl (by kernel_rfl) (by kernel_rfl) (by kernel_rfl) (fun _ _ _ h => h) (Or.inr ⟨by rfl, rfl⟩) hHeld ?_
      try simp only [Act.put, List.setIfInBounds_toArray, List.set_cons_zero, List.set_cons_succ]
      refine wpAnyH_take (i := 6) (oi := { dst := some 18, op := _, type := _, pos := _, after := _, guard := _ }) (v := undef) rfl (by kernel_rfl) (by kernel_rfl) (by kernel_rfl) (fun _ _ _ h => h) (Or.inr ⟨by rfl, rfl⟩) hHeld ?_
      try simp only [Act.put, List.setIfInBounds_toArray, List.set_cons_zero, List.set_cons_succ]
      refine wpAnyH_take (i := 7) (oi := { dst := some 19, op := _, type := _, pos := _, after := _, guard := _ }) (v := undef) rfl (by kernel_rfl) (by kernel_rfl) (by kernel_rfl) (fun _ _ _ h => h) (Or.inr ⟨by rfl, rfl⟩) hHeld ?_
      try simp only [Act.put, List.setIfInBounds_toArray, List.set_cons_zero, List.set_cons_succ]
      refine wpAnyH_take (i := 8) (oi := { dst := some 20, op := _, type := _, pos := _, after := _, guard := _ }) (v := undef) rfl (by kernel_rfl) (by kernel_rfl) (by kernel_rfl) (fun _ _ _ h => h) (Or.inr ⟨by rfl, rfl⟩) hHeld ?_
      try simp only [Act.put, List.setIfInBounds_toArray, List.set_cons_zero, List.set_cons_succ]
      refine wpAnyH_take (i := 9) (oi := { dst := some 21, op := _, type := _, pos := _, after := _, guard := _ }) (v := undef) rfl (by kernel_rfl) (by kernel_rfl) (by kernel_rfl) (fun _ _ _ h => h) (Or.inr ⟨by rfl, rfl⟩) hHeld ?_
      try simp only [Act.put, List.setIfInBounds_toArray, List.set_cons_zero, List.set_cons_succ]
      refine wpAnyH_take (i := 10) (oi := { dst := some 22, op := _, type := _, pos := _, after := _, guard := _ }) (v := undef) rfl (by kernel_rfl) (by kernel_rfl) (by kernel_rfl) (fun _ _ _ h => h) (Or.inr ⟨by rfl, rfl⟩) hHeld ?_
      try simp only [Act.put, List.setIfInBounds_toArray, List.set_cons_zero, List.set_cons_succ]
      refine wpAnyH_take (i := 11) (oi := { dst := some 23, op := _, type := _, pos := _, after := _, guard := _ }) (v := undef) rfl (by kernel_rfl) (by kernel_rfl) (by kernel_rfl) (fun _ _ _ h => h) (Or.inr ⟨by rfl, rfl⟩) hHeld ?_
      try simp only [Act.put, List.setIfInBounds_toArray, List.set_cons_zero, List.set_cons_succ]
      refine wpAnyH_take (i := 12) (oi := { dst := some 24, op := _, type := _, pos := _, after := _, guard := _ }) (v := undef) rfl (by kernel_rfl) (by kernel_rfl) (by kernel_rfl) (fun _ _ _ h => h) (Or.inr ⟨by rfl, rfl⟩) hHeld ?_
      try simp only [Act.put, List.setIfInBounds_toArray, List.set_cons_zero, List.set_cons_succ]
      refine wpAnyH_take (i := 13) (oi := { dst := some 25, op := _, type := _, pos := _, after := _, guard := _ }) (v := undef) rfl (by kernel_rfl) (by kernel_rfl) (by kernel_rfl) (fun _ _ _ h => h) (Or.inr ⟨by rfl, rfl⟩) hHeld ?_
      try simp only [Act.put, List.setIfInBounds_toArray, List.set_cons_zero, List.set_cons_succ]
      refine wpAnyH_take (i := 14) (oi := { dst := some 26, op := _, type := _, pos := _, after := _, guard := _ }) (v := undef) rfl (by kernel_rfl) (by kernel_rfl) (by kernel_rfl) (fun _ _ _ h => h) (Or.inr ⟨by rfl, rfl⟩) hHeld ?_
      try simp only [Act.put, List.setIfInBounds_toArray, List.set_cons_zero, List.set_cons_succ]
      refine wpAnyH_take (i := 15) (oi := { dst := some 27, op := _, type := _, pos := _, after := _, guard := _ }) (v := undef) rfl (by kernel_rfl) (by kernel_rfl) (by kernel_rfl) (fun _ _ _ h => h) (Or.inr ⟨by rfl, rfl⟩) hHeld ?_
      try simp only [Act.put, List.setIfInBounds_toArray, List.set_cons_zero, List.set_cons_succ]
      refine wpAnyH_take (i := 16) (oi := { dst := some 28, op := _, type := _, pos := _, after := _, guard := _ }) (v := undef) rfl (by kernel_rfl) (by kernel_rfl) (by kernel_rfl) (fun _ _ _ h => h) (Or.inr ⟨by rfl, rfl⟩) hHeld ?_
      try simp only [Act.put, List.setIfInBounds_toArray, List.set_cons_zero, List.set_cons_succ]
      refine wpAnyH_take (i := 17) (oi := { dst := some 29, op := _, type := _, pos := _, after := _, guard := _ }) (v := undef) rfl (by kernel_rfl) (by kernel_rfl) (by kernel_rfl) (fun _ _ _ h => h) (Or.inr ⟨by rfl, rfl⟩) hHeld ?_
      try simp only [Act.put, List.setIfInBounds_toArray, List.set_cons_zero, List.set_cons_succ]
      refine wpAnyH_take (i := 18) (oi := { dst := some 30, op := _, type := _, pos := _, after := _, guard := _ }) (v := undef) rfl (by kernel_rfl) (by kernel_rfl) (by kernel_rfl) (fun _ _ _ h => h) (Or.inr ⟨by rfl, rfl⟩) hHeld ?_
      try simp only [Act.put, List.setIfInBounds_toArray, List.set_cons_zero, List.set_cons_succ]
      refine wpAnyH_take (i := 19) (oi := { dst := some 31, op := _, type := _, pos := _, after := _, guard := _ }) (v := undef) rfl (by kernel_rfl) (by kernel_rfl) (by kernel_rfl) (fun _ _ _ h => h) (Or.inr ⟨by rfl, rfl⟩) hHeld ?_
      try simp only [Act.put, List.setIfInBounds_toArray, List.set_cons_zero, List.set_cons_succ]
      refine wpAnyH_take (i := 20) (oi := { dst := some 32, op := _, type := _, pos := _, after := _, guard := _ }) (v := undef) rfl (by kernel_rfl) (by kernel_rfl) (by kernel_rfl) (fun _ _ _ h => h) (Or.inr ⟨by rfl, rfl⟩) hHeld ?_
      try simp only [Act.put, List.setIfInBounds_toArray, List.set_cons_zero, List.set_cons_succ]
      refine wpAnyH_take (i := 21) (oi := { dst := some 33, op := _, type := _, pos := _, after := _, guard := _ }) (v := .bool true) rfl (by kernel_rfl) (by kernel_rfl) (by kernel_rfl) (fun _ _ _ h => h) (Or.inl ⟨by rfl, fun w hS => by go_simp⟩) hHeld ?_
      try simp only [Act.put, List.setIfInBounds_toArray, List.set_cons_zero, List.set_cons_succ]
      refine wpAnyH_done (by kernel_rfl) ?_ _
      go_wp2_with fail
      go_meet
      rw [HG.out]
      exact ⟨rfl, Y0.out, Y1.out, S1.out⟩
    | some x =>
      have HL := Lib.hid (lentAt_some hla)
      have HIL : Hid (id < p.2.length) := (List.getElem?_eq_some_iff.1 HL.out.1).1
      obtain ⟨s, c, r, fr⟩ := x
      have hfr : fr = false := HL.out.2
      subst hfr
      have HG : Hid ((appP p id xs).isNone = decide ((r : Int) - (c : Int) < (m : Int))) := by
        obtain ⟨o1, o2, o3⟩ := (HV.out.ok _ (List.mem_of_getElem? HL.out.1)).lent rfl
        simp only at o1 o2 o3
        unfold Hid appP
        rw [hla]
        simp only [Option.bind_some]
        rw [← HMX.out]
        by_cases h : m ≤ r - c
        · rw [if_pos h, decide_eq_false (by omega)]; rfl
        · rw [if_neg h, decide_eq_true (by omega)]; rfl
      have C := fun (w' : World) (s : Span 0 0 w0 w') => l3Lent_any p id lo hi (.agg #[.slice AS p.1.length cS, .slice AL p.2.length cL]) w' (HX.out.span (Span.after s HS.out) (.inl (Nat.le_refl _))) HV.out HID.out
      rw [hla] at C
      have HC := Lib.hid C
      obtain ⟨o1, o2, o3⟩ := (HV.out.ok _ (List.mem_of_getElem? HL.out.1)).lent rfl
      have hsz := HV.out.size
      simp only at o1 o2 o3
      obtain ⟨-, hb2, off, rfl, l0, l1, l2, l3⟩ := (G2.out.span HS.out (.inl (Nat.le_refl _))).at_ HL.out.1
      simp only at l0 l1 l2 l3
      have HL1 := Lib.hid (cell_keptV l1)
      have HL2 := Lib.hid (cell_keptV l2)
      have i0 : (0 : Int) ≤ (id : Int) := by omega
      have i1 : (id : Int) < (p.2.length : Int) := by have := HIL.out; omega
      have hwr : IntKind.i64.wrap ((r : Int) - (c : Int)) = (r : Int) - (c : Int) := IntWalk.i64_in _ (by omega)
      obtain ⟨_, x0, x1, _, _⟩ := X0.out
      clear hla C
      go_region_held3 (fun w' => w'.cell? ⟨w.heap.size, 0, none⟩ = some (.slice AS p.1.length cS) ∧ w'.cell? ⟨w.heap.size, 1, none⟩ = some (.slice (some ⟨b2, off, none⟩) p.2.length cL) ∧ w'.cell? ⟨b2, off + id * 4 + 1, none⟩ = some (.int .i64 (c : Int)) ∧ w'.cell? ⟨b2, off + id * 4 + 2, none⟩ = some (.int .i64 (r : Int)))
        (first
          | exact ⟨x0, x1, l1, l2⟩
          | exact ⟨y0, y1, z1, z2⟩)
        ((first
          | (go_at_call 74; (with_reducible refine (HC.out _ (Span.refl 0 0 w0).drew).mono ?_); rintro _ w1 ⟨rfl, s1⟩; simp only [Option.isSome_some]; have Y0 := Lib.hid ((X0.out.drewN 1).span s1 (.inl (Nat.le_refl _))); obtain ⟨_, y0, y1, _, _⟩ := Y0.out; have Y1 := Lib.hid ((X1.out.drewN 1).span s1 (.inl (Nat.le_refl _))); have S1 := Lib.hid (s1.after (HS.out.drewN 1)); have z1 := HL1.out w1 ⟨s1.os, s1.tape, s1.output, s1.size, s1.block⟩; have z2 := HL2.out w1 ⟨s1.os, s1.tape, s1.output, s1.size, s1.block⟩)))
      all_goals
        go_wp2_with fail
        go_meet
        rw [HG.out]
        exact ⟨rfl, Y0.out, Y1.out, S1.out⟩
  case rest =>
    obtain ⟨rfl, y0b, y1b, s1⟩ := hcut
    have Y0 := Lib.hid y0b
    have Y1 := Lib.hid y1b
    have S1 := Lib.hid s1
    clear y0b y1b s1 X0 X1 HS
    cases hq : appP p id xs with
    | none =>
      have HQ := Lib.hid hq
      simp only [Option.isNone_none]
      obtain ⟨_, y0, y1, y2, y3⟩ := Y1.out
      have HB := Lib.hid (box_stored (u' := .slice none 0 0) (v' := .slice none 0 0) Y1.out)
      have HSF := Lib.hid ((S1.out.setCell (p := ⟨w.heap.size + 1, 0, none⟩) (.inr (by simp only; omega)) (.slice none 0 0)).setCell (p := ⟨w.heap.size + 1, 1, none⟩) (.inr (by simp only; omega)) (.slice none 0 0))
      clear hq
      go_wp2_with fail
      refine bodyPost_ret (v := .tuple #[.agg #[.slice none 0 0, .slice none 0 0], .bool false]) (by simp [results, Try.results54, go_sem, HB.out.1, HB.out.2]) rfl ?_
      rw [HQ.out]
      exact ⟨rfl, HSF.out⟩
    | some Q =>
      have HQ := Lib.hid hq
      obtain ⟨x, hla, hle, rfl⟩ := appP_some6 hq
      simp only [Option.isNone_some]
      have HL := Lib.hid (lentAt_some hla)
      have HIL : Hid (id < p.2.length) := (List.getElem?_eq_some_iff.1 HL.out.1).1
      obtain ⟨s, c, r, fr⟩ := x
      have hfr : fr = false := HL.out.2
      subst hfr
      obtain ⟨o1, o2, o3⟩ := (HV.out.ok _ (List.mem_of_getElem? HL.out.1)).lent rfl
      have hsz := HV.out.size
      have hm16 := HV.out.most
      simp only at o1 o2 o3 hle
      rw [← HMX.out] at hle
      have hle2 : c + m ≤ r := by omega
      clear hle
      have HOL : Hid (∀ k, k ≤ m → (overlay p.1 (s + c) (xs.take k)).length = p.1.length) := by
        intro k hk
        rw [overlay_length (by rw [take_len (by rw [← HMX.out]; exact hk)]; omega)]
      clear hla hq hlen
      obtain ⟨_, x0, x1, _, _⟩ := Y0.out
      go_wp2_with fail
      refine (l3Copy_any p lo hi _ _ (HX.out.span S1.out (.inl (Nat.le_refl _))) (by omega) (by omega)).mono ?_
      rintro _ w3 ⟨A1, q1, A2, q2, rfl, ho1, ho2, s3⟩
      have HRB : Hid (w.heap.size + 1 < wc.heap.size) := Y1.out.1
      have HO := Lib.hid (Own.new (Y1.out.span s3 (.inl (Nat.le_refl _))) ho1 ho2 (s3.after S1.out))
      have Z0 := Lib.hid ((Y0.out.span s3 (.inl (Nat.le_refl _))).alloc (.cells #[.slice A1 p.1.length q1, .slice A2 p.2.length q2] 45))
      have HB3 : Hid (wc.heap.size ≤ w3.heap.size) := s3.size
      have HLT1 : Hid (∀ j, (Value.slice A1 p.1.length q1).ownBlock = some j → j < w3.heap.size) := fun j hj => (ho1.lt j hj).2
      clear ho1 ho2 s3 Y0 Y1 S1 x0 x1
      obtain ⟨g1, cap1, hv1, -, -⟩ := HO.out.hs.form (by omega)
      injection hv1 with e1 e2 e3
      clear e2
      subst e1 e3
      obtain ⟨_, x0, x1, _, _⟩ := Z0.out
      obtain ⟨-, hb2, off, rfl, l0, l1, l2, l3⟩ := (G2.out.span HO.out.s (.inl (Nat.le_refl _))).at_ HL.out.1
      simp only at l0 l1 l2 l3
      have i0 : (0 : Int) ≤ (id : Int) := by omega
      have i1 : (id : Int) < (p.2.length : Int) := by have := HIL.out; omega
      clear hb2
      have HB9 := Lib.hid (lsBox (w3.alloc (.cells #[.slice (some ⟨g1, 0, none⟩) p.1.length q1, .slice A2 p.2.length q2] 45)) ⟨s, c, r, false⟩ 68)
      have HO2 := Lib.hid (HO.out.span ((Span.refl 0 0 _).alloc (.cells #[.int .i64 (s : Int), .int .i64 (c : Int), .int .i64 (r : Int), .bool false] 68)))
      rw [show (w3.alloc (.cells #[.slice (some ⟨g1, 0, none⟩) p.1.length q1, .slice A2 p.2.length q2] 45)).heap.size = w3.heap.size + 1 by simp] at HB9
      go_wp2_with fail
      clear l0 l1 l2 l3 x0 x1
      go_loopw [44] (fun q wr => ∃ k : Nat, k ≤ m ∧ q = .int .i64 k ∧ Own (w.heap.size + 1) w3.heap.size wc.heap.size w (overlay p.1 (s + c) (xs.take k)) p.2 (some ⟨g1, 0, none⟩) q1 A2 q2 wr ∧ LsAt wr (w3.heap.size + 1) 0 ⟨s, c, r, false⟩) (fun q _ => m - (intOf q).toNat)
      case atStart => exact ⟨0, Nat.zero_le _, rfl, by rw [List.take_zero, overlay_nil6]; exact HO2.out, HB9.out⟩
      case round =>
        clear HO HO2 HB9 Z0
        obtain ⟨k, hk, rfl, ho, hb9⟩ := hrel
        have HO := Lib.hid ho
        have HB9 := Lib.hid hb9
        obtain ⟨l0, l1, l2, l3⟩ := hb9
        simp only [Nat.zero_add] at l0 l1 l2 l3
        by_cases hlt : k < m
        · obtain ⟨z, hz⟩ := getElem?_some (xs := xs) (j := k) (by rw [← HMX.out]; exact hlt)
          obtain ⟨_, _, e3, _, hc⟩ := HXS.out.span ho.s (.inl (Nat.le_refl _))
          injection e3 with e3 el eq
          clear el eq
          subst e3
          obtain ⟨offx, rfl, _, _, _, hcx, _⟩ := hc (by rw [← HMX.out]; omega)
          have ck : wr.cell? ⟨b3, offx + k, none⟩ = some (.complex .f32 z.1 z.2) := hcx k z hz
          obtain ⟨_, t0, t1, _, _⟩ := ho.t
          rw [HOL.out k hk] at t0
          have hs := ho.hs
          have sc := hs.cellAt (s + c + k) (by rw [HOL.out k hk]; omega)
          obtain ⟨y, hy⟩ := getElem?_some (xs := overlay p.1 (s + c) (xs.take k)) (j := s + c + k) (by rw [HOL.out k hk]; omega)
          rw [List.getElem?_map, hy] at sc
          have sf := hs.frozenAt (s + c + k)
          have hset := ho.setS HRB.out (by have := HRB.out; omega) (s + c + k) z
          have hst : (overlay p.1 (s + c) (xs.take k)).set (s + c + k) z = overlay p.1 (s + c) (xs.take (k + 1)) := by
            rw [take_snoc_of hz, ← overlay_step (by rw [take_len (by rw [← HMX.out]; exact hk)]; omega), take_len (by rw [← HMX.out]; exact hk)]
          rw [hst] at hset
          have HSET := Lib.hid hset
          have hgT : g1 < w3.heap.size := HLT1.out g1 (by simp [Value.ownBlock])
          have HB92 := Lib.hid (HB9.out.span ((Span.refl g1 (g1 + 1) wr).setCell (p := ⟨g1, s + c + k, none⟩) (.inl ⟨Nat.le_refl _, Nat.lt_succ_self _⟩) (cxV z)) (.inr (.inr (by omega))))
          have k0 : (0 : Int) ≤ (k : Int) := by omega
          have k1 : (k : Int) < (m : Int) := by omega
          have HKL : Hid (k < m) := hlt
          obtain ⟨z1, z2⟩ := z
          unfold cxV at HSET HB92
          simp only at ck HSET HB92
          have hi1 : (0 : Int) ≤ (s : Int) + (c : Int) + (k : Int) := by omega
          have hi2 : (s : Int) + (c : Int) + (k : Int) < (p.1.length : Int) := by omega
          clear ho hc hcx hz hy hs hset hst
          go_wp2_with fail
          go_roundw
          case rel => exact ⟨k + 1, HKL.out, by go_num, HSET.out, HB92.out⟩
          case measure => have := HKL.out; simp [intOf]; omega
        · have hke : m = k := by omega
          subst hke
          have hxt : xs.take m = xs := by rw [HMX.out]; exact List.take_length
          rw [hxt] at HO ho
          have HLO : Hid ((overlay p.1 (s + c) xs).length = p.1.length) := by
            have := HOL.out m (Nat.le_refl _)
            rw [hxt] at this
            exact this
          obtain ⟨g2, rfl, ⟨n0, n1, n2, n3⟩, hfz⟩ := ho.lease HL.out.1
          have f1 := hfz (id * 4 + 1)
          obtain ⟨_, t0, t1, _, _⟩ := ho.t
          rw [HLO.out] at t0
          have HSC := Lib.hid (ho.setC HRB.out (by have := HRB.out; omega) HL.out.1 (c + m))
          have hcast : ((c + m : Nat) : Int) = (c : Int) + (m : Int) := by omega
          rw [hcast] at HSC
          have HLS : Hid ((p.2.set id ⟨s, c + m, r, false⟩).length = p.2.length) := List.length_set ..
          simp only at HSC
          clear ho hfz hcast hxt hlt hk
          go_upto_region 11 with fail
          clear n0 n1 n2 n3 l0 l1 l2 l3 f1 t0 t1
          generalize wr.setCell ⟨g2, id * 4 + 1, none⟩ (.int .i64 ((c : Int) + (m : Int))) = wS at *
          obtain ⟨_, t0, t1, _, _⟩ := HSC.out.t
          obtain ⟨_, y0, y1, y2, y3⟩ := HSC.out.r
          have HB := Lib.hid (box_stored (u' := .slice (some ⟨g1, 0, none⟩) (overlay p.1 (s + c) xs).length q1) (v' := .slice (some ⟨g2, 0, none⟩) (p.2.set id ⟨s, c + m, r, false⟩).length q2) HSC.out.r)
          have HR := Lib.hid (HSC.out.result HRB.out (by omega))
          rw [HLO.out] at t0
          rw [HLS.out] at t1
          rw [HLO.out, HLS.out] at HB HR
          go_wp2_with fail
          refine bodyPost_ret (v := .tuple #[.agg #[.slice (some ⟨g1, 0, none⟩) p.1.length q1, .slice (some ⟨g2, 0, none⟩) p.2.length q2], .bool true]) (by simp [results, Try.results54, go_sem, HB.out.1, HB.out.2]) rfl ?_
          rw [HQ.out, ← HMX.out]
          exact ⟨⟨_, rfl, HR.out.1⟩, HR.out.2⟩
end Go.Proofs.Ytfafkdpefdpnkaa
