/-  -/
import Derived.WalkKit
import Derived.WalkLawsBesides
import Derived.Deep.Draws
import Derived.Test.YtpiiflhdllpoiaaJq1
namespace Go.Proofs.Ytpiiflhdllpoiaa
/-- The bits that an operation on floats gives in this world: of a result that is a number they are fixed, of NaN they are asked. -/
def fAr (op : BinOp) (k : FloatKind) (x y : Nat) (w : World) : Nat :=
  match floatBits op k x y with
  | some r => r
  | none => (Question.nanBits k x y).cut (w.tape w.drawn (.nanBits k x y))

def fDr (op : BinOp) (k : FloatKind) (x y : Nat) : Nat := if (floatBits op k x y).isSome then 0 else 1

/-- Float to float: of a number that the narrower kind has not, and of NaN, the bits are asked. -/
def fCv (s k : FloatKind) (b : Nat) (w : World) : Nat :=
  match floatToFloatBits s b k with
  | some r => r
  | none => if (s.decode b).isNaN then (Question.nanConv k b).cut (w.tape w.drawn (.nanConv k b)) else (Question.floatToFloat b).cut (w.tape w.drawn (.floatToFloat b))

def fCd (s k : FloatKind) (b : Nat) : Nat := if (floatToFloatBits s b k).isSome then 0 else 1

section
variable {P : Program} (w : World)

theorem run_fAr (op : BinOp) (t : TypeId) (k : FloatKind) (x y : Nat) (h : op = .add ∨ op = .sub ∨ op = .mul ∨ op = .quo) :
    (binOp op t (.float k x) (.float k y)).run P w = .ok (.float k (fAr op k x y w)) (w.drewN (fDr op k x y)) := by
  cases hf : floatBits op k x y with
  | some r =>
    rw [run_float_arith w op t k x y r hf]
    simp [fAr, fDr, hf, World.drewN_zero]
  | none =>
    simp only [fAr, fDr, hf]
    rcases h with rfl | rfl | rfl | rfl <;>
    · simp only [floatBits] at hf
      simp [binOp, Op.floatArith, hf, Question.forced, World.drewN]

@[go_sem] theorem run_fAr_add (t : TypeId) (k : FloatKind) (x y : Nat) :
    (binOp .add t (.float k x) (.float k y)).run P w = .ok (.float k (fAr .add k x y w)) (w.drewN (fDr .add k x y)) := run_fAr w .add t k x y (by simp)
@[go_sem] theorem run_fAr_sub (t : TypeId) (k : FloatKind) (x y : Nat) :
    (binOp .sub t (.float k x) (.float k y)).run P w = .ok (.float k (fAr .sub k x y w)) (w.drewN (fDr .sub k x y)) := run_fAr w .sub t k x y (by simp)
@[go_sem] theorem run_fAr_mul (t : TypeId) (k : FloatKind) (x y : Nat) :
    (binOp .mul t (.float k x) (.float k y)).run P w = .ok (.float k (fAr .mul k x y w)) (w.drewN (fDr .mul k x y)) := run_fAr w .mul t k x y (by simp)
@[go_sem] theorem run_fAr_quo (t : TypeId) (k : FloatKind) (x y : Nat) :
    (binOp .quo t (.float k x) (.float k y)).run P w = .ok (.float k (fAr .quo k x y w)) (w.drewN (fDr .quo k x y)) := run_fAr w .quo t k x y (by simp)

@[go_sem] theorem run_fCv (src dst : TypeId) (s k : FloatKind) (b : Nat) (hs : (P.underlying src).isSome = true) (hd : P.underlying dst = some (.float k)) :
    (convert src dst (.float s b)).run P w = .ok (.float k (fCv s k b w)) (w.drewN (fCd s k b)) := by
  cases hf : floatToFloatBits s b k with
  | some r =>
    rw [run_convert_float_float w src dst s k b r hs hd hf]
    simp [fCv, fCd, hf, World.drewN_zero]
  | none =>
    obtain ⟨u, hs'⟩ := Option.isSome_iff_exists.1 hs
    simp only [fCv, fCd, hf]
    unfold floatToFloatBits at hf
    split at hf
    · cases hf
    · rename_i ne
      split at hf
      · rename_i sg fr he
        cases u <;> simp [convert, run_underlying hs', run_underlying hd, Conv.floatToFloat, ne, he, Question.forced, World.drewN, Ieee.Datum.isNaN]
      · cases hf
      · rename_i sg m e he
        split at hf
        · rename_i ho
          cases u <;> simp [convert, run_underlying hs', run_underlying hd, Conv.floatToFloat, ne, he, ho, Question.forced, World.drewN, Ieee.Datum.isNaN]
        · cases hf

@[simp, go_sem] theorem fCv_self (k : FloatKind) (b : Nat) (w : World) : fCv k k b w = b := by simp [fCv, floatToFloatBits]
@[simp, go_sem] theorem fCd_self (k : FloatKind) (b : Nat) : fCd k k b = 0 := by simp [fCd, floatToFloatBits]
@[simp, go_sem] theorem drewN_nought (w : World) : w.drewN 0 = w := rfl

@[go_sem] theorem run_store_float {P : Program} (w : World) (a : Addr) (m : Mode) (k : FloatKind) (b : Nat) : (store a (.float k b) m).run P w = stored P w a (.float k b) m := run_store P w a _ m rfl
@[go_sem] theorem run_store_complex {P : Program} (w : World) (a : Addr) (m : Mode) (k : FloatKind) (x y : Nat) : (store a (.complex k x y) m).run P w = stored P w a (.complex k x y) m := run_store P w a _ m rfl

@[go_sem] theorem unary_neg_float (k : FloatKind) (b : Nat) : Op.unary .neg (.float k b) = pure (.float k (Op.negFloat k b)) := rfl
end

/-! EQUAL BUT FOR THE BITS OF NaN -/
def nanB (k : FloatKind) (b : Nat) : Bool := (k.decode b).isNaN

def FE (k : FloatKind) (a b : Nat) : Prop := a = b ∨ (nanB k a = true ∧ nanB k b = true)

theorem FE.refl (k : FloatKind) (a : Nat) : FE k a a := Or.inl rfl
theorem FE.symm {k : FloatKind} {a b : Nat} (h : FE k a b) : FE k b a := by
  rcases h with rfl | ⟨h1, h2⟩
  · exact .inl rfl
  · exact .inr ⟨h2, h1⟩
theorem FE.trans {k : FloatKind} {a b c : Nat} (h : FE k a b) (g : FE k b c) : FE k a c := by
  rcases h with rfl | ⟨h1, h2⟩
  · exact g
  · rcases g with rfl | ⟨g1, g2⟩
    · exact .inr ⟨h1, h2⟩
    · exact .inr ⟨h1, g2⟩

theorem nanB_cut32 (t : Nat) : nanB .f32 ((t % 2) * 2 ^ 31 + 0x7f800000 + 1 + (t / 2) % (2 ^ 23 - 1)) = true := by
  have h1 : t % 2 < 2 := Nat.mod_lt _ (by decide)
  have h2 : (t / 2) % (2 ^ 23 - 1) < 2 ^ 23 - 1 := Nat.mod_lt _ (by decide)
  generalize t % 2 = a at *
  generalize (t / 2) % (2 ^ 23 - 1) = b at *
  unfold nanB FloatKind.decode FloatKind.format Ieee.single Ieee.Format.read Ieee.Format.signWeight Ieee.Format.binade Ieee.Format.infRung Ieee.Format.binade
  simp only []
  have hr : (a * 2 ^ 31 + 0x7f800000 + 1 + b) % 2 ^ (8 + 23) = 0x7f800000 + 1 + b := by omega
  rw [hr]
  rw [if_neg (by omega), if_neg (by omega), if_neg (by omega)]
  rfl

theorem nanB_cut64 (t : Nat) : nanB .f64 ((t % 2) * 2 ^ 63 + 0x7ff0000000000000 + 1 + (t / 2) % (2 ^ 52 - 1)) = true := by
  have h1 : t % 2 < 2 := Nat.mod_lt _ (by decide)
  have h2 : (t / 2) % (2 ^ 52 - 1) < 2 ^ 52 - 1 := Nat.mod_lt _ (by decide)
  generalize t % 2 = a at *
  generalize (t / 2) % (2 ^ 52 - 1) = b at *
  unfold nanB FloatKind.decode FloatKind.format Ieee.double Ieee.Format.read Ieee.Format.signWeight Ieee.Format.binade Ieee.Format.infRung Ieee.Format.binade
  simp only []
  have hr : (a * 2 ^ 63 + 0x7ff0000000000000 + 1 + b) % 2 ^ (11 + 52) = 0x7ff0000000000000 + 1 + b := by omega
  rw [hr]
  rw [if_neg (by omega), if_neg (by omega), if_neg (by omega)]
  rfl

theorem nanB_nanBits (k : FloatKind) (x y t : Nat) : nanB k ((Question.nanBits k x y).cut t) = true := by
  cases k
  · exact nanB_cut32 t
  · exact nanB_cut64 t
theorem nanB_nanConv (k : FloatKind) (b t : Nat) : nanB k ((Question.nanConv k b).cut t) = true := by
  cases k
  · exact nanB_cut32 t
  · exact nanB_cut64 t

theorem isNaN_cases (d : Ieee.Datum) : d.isNaN = true ↔ ∃ s t, d = .nan s t := by
  cases d <;> simp [Ieee.Datum.isNaN]

/-- An operation with a NaN gives NaN. -/
theorem floatBits_nan_left {op : BinOp} {k : FloatKind} {x y : Nat} (h : nanB k x = true) : floatBits op k x y = none := by
  obtain ⟨s, t, h⟩ := (isNaN_cases _).1 h
  unfold FloatKind.decode at h
  unfold floatBits
  split <;> simp [Ieee.Format.add, Ieee.Format.sub, Ieee.Format.mul, Ieee.Format.div, h, Ieee.Datum.sum, Ieee.Datum.product, Ieee.Datum.quotient]
theorem floatBits_nan_right {op : BinOp} {k : FloatKind} {x y : Nat} (h : nanB k y = true) : floatBits op k x y = none := by
  obtain ⟨s, t, h⟩ := (isNaN_cases _).1 h
  unfold FloatKind.decode at h
  unfold floatBits
  split <;> simp only [Ieee.Format.add, Ieee.Format.sub, Ieee.Format.mul, Ieee.Format.div, h, Ieee.Datum.opposite] <;> cases k.format.read x <;> simp [Ieee.Datum.sum, Ieee.Datum.product, Ieee.Datum.quotient]

theorem fAr_nan {op : BinOp} {k : FloatKind} {x y : Nat} (w : World) (h : floatBits op k x y = none) : nanB k (fAr op k x y w) = true := by
  unfold fAr; rw [h]; exact nanB_nanBits ..

/-- THE SAME OPERATION ON THE SAME NUMBERS GIVES THE SAME NUMBER, in whatever worlds. -/
theorem FE.ar {op : BinOp} {k : FloatKind} {x x' y y' : Nat} (w w' : World) (hx : FE k x x') (hy : FE k y y') : FE k (fAr op k x y w) (fAr op k x' y' w') := by
  rcases hx with rfl | ⟨h1, h2⟩
  · rcases hy with rfl | ⟨h1, h2⟩
    · cases hf : floatBits op k x y with
      | some r => left; simp [fAr, hf]
      | none => right; exact ⟨fAr_nan _ hf, fAr_nan _ hf⟩
    · right; exact ⟨fAr_nan _ (floatBits_nan_right h1), fAr_nan _ (floatBits_nan_right h2)⟩
  · right; exact ⟨fAr_nan _ (floatBits_nan_left h1), fAr_nan _ (floatBits_nan_left h2)⟩

/-- The operation with one NaN of our own, for specifications. -/
def fC (op : BinOp) (k : FloatKind) (x y : Nat) : Nat :=
  match floatBits op k x y with
  | some r => r
  | none => match k with | .f32 => 0x7fc00000 | .f64 => 0x7ff8000000000000

theorem nanB_own (k : FloatKind) : nanB k (match k with | .f32 => 0x7fc00000 | .f64 => 0x7ff8000000000000) = true := by
  cases k <;> decide +kernel

theorem fC_nan {op : BinOp} {k : FloatKind} {x y : Nat} (h : floatBits op k x y = none) : nanB k (fC op k x y) = true := by
  unfold fC; rw [h]; exact nanB_own k

theorem FE.arC {op : BinOp} {k : FloatKind} {x x' y y' : Nat} (w : World) (hx : FE k x x') (hy : FE k y y') : FE k (fAr op k x y w) (fC op k x' y') := by
  refine FE.trans (FE.ar w w hx hy) ?_
  cases hf : floatBits op k x' y' with
  | some r => left; simp [fAr, fC, hf]
  | none => right; exact ⟨fAr_nan _ hf, fC_nan hf⟩

theorem order_nan_left {k : FloatKind} {x y : Nat} (h : nanB k x = true) : k.format.order x y = none := by
  obtain ⟨s, t, h⟩ := (isNaN_cases _).1 h
  unfold FloatKind.decode at h
  simp [Ieee.Format.order, h, Ieee.Datum.order]
theorem order_nan_right {k : FloatKind} {x y : Nat} (h : nanB k y = true) : k.format.order x y = none := by
  obtain ⟨s, t, h⟩ := (isNaN_cases _).1 h
  unfold FloatKind.decode at h
  simp only [Ieee.Format.order, h]
  cases k.format.read x <;> simp [Ieee.Datum.order]

theorem FE.order {k : FloatKind} {x x' y y' : Nat} (hx : FE k x x') (hy : FE k y y') : k.format.order x y = k.format.order x' y' := by
  rcases hx with rfl | ⟨h1, h2⟩
  · rcases hy with rfl | ⟨h1, h2⟩
    · rfl
    · rw [order_nan_right h1, order_nan_right h2]
  · rw [order_nan_left h1, order_nan_left h2]

/-- A number is equal to itself, if it is no NaN. -/
theorem order_self (k : FloatKind) (x : Nat) : k.format.order x x = if nanB k x then none else some .eq := by
  unfold nanB FloatKind.decode Ieee.Format.order
  cases k.format.read x with
  | number s m e => simp [Ieee.Datum.order, Ieee.Datum.isNaN]
  | infinity s => simp [Ieee.Datum.order, Ieee.Datum.isNaN]
  | nan s t => simp [Ieee.Datum.order, Ieee.Datum.isNaN]

theorem nanB_of_cv {s k : FloatKind} {b : Nat} (w : World) (hk : s ≠ k) (h : nanB s b = true) : nanB k (fCv s k b w) = true := by
  obtain ⟨sg, t, he⟩ := (isNaN_cases _).1 h
  have : floatToFloatBits s b k = none := by simp [floatToFloatBits, hk, he]
  unfold fCv; rw [this]; simp only [nanB] at h; rw [if_pos h]; exact nanB_nanConv ..

theorem read_single_number {b m : Nat} {s : Bool} {p : Int} (h : Ieee.single.read b = .number s m p) : ∃ e : Nat, e ≤ 253 ∧ p = -149 + (e : Int) ∧ m < 16777216 := by
  have hi : Ieee.single.infRung = 2139095040 := by decide +kernel
  have hb : Ieee.single.binade = 8388608 := by decide +kernel
  have hl : Ieee.single.leastPlace = -149 := by decide +kernel
  unfold Ieee.Format.read at h
  rw [hi, hb, hl] at h
  simp only [] at h
  generalize b % Ieee.single.signWeight = r at h
  split at h
  · cases h; exact ⟨0, by omega, by omega, by omega⟩
  · split at h
    · cases h
      have h1 : r % 8388608 < 8388608 := Nat.mod_lt _ (by decide)
      exact ⟨r / 8388608 - 1, by omega, by omega, by omega⟩
    · split at h <;> cases h

/-- Widening: what single precision has, double precision has. -/
theorem wide_isU {m : Nat} (s : Bool) {e : Nat} (he : e ≤ 253) (hm : m < 16777216) :
    isU Ieee.double (Ieee.double.nearest s m (-149 + (e : Int))) s (m * 2 ^ (e + 925)) := by
  have hd : Ieee.double.binade = 4503599627370496 := by decide +kernel
  have hl : Ieee.double.leastPlace = -1074 := by decide +kernel
  refine isU_of_nearest s (a := e + 925) (b := 0) (rep_of _ (by rw [hd]; omega) ?_) (by rw [Nat.pow_zero, Nat.mul_one]) (by rw [hl]; omega)
  have h : Ieee.double.exponentBits = 11 := rfl
  rw [h]
  omega

theorem widen_some {b : Nat} (h : nanB .f32 b = false) : ∃ r, floatToFloatBits .f32 b .f64 = some r := by
  unfold nanB FloatKind.decode FloatKind.format at h
  simp only [] at h
  unfold floatToFloatBits FloatKind.decode FloatKind.encode FloatKind.format
  rw [if_neg (by simp)]
  simp only []
  cases hd : Ieee.single.read b with
  | infinity s => exact ⟨_, rfl⟩
  | nan s t => rw [hd] at h; simp [Ieee.Datum.isNaN] at h
  | number s m p =>
    obtain ⟨e, he, rfl, hm⟩ := read_single_number hd
    obtain ⟨m', e', hr, _⟩ := read_isU (wide_isU s he hm)
    simp only [Ieee.Format.write, hr]
    exact ⟨_, rfl⟩

/-- Widened, the same numbers are the same. -/
theorem FE.widen {a b : Nat} (w w' : World) (h : FE .f32 a b) : FE .f64 (fCv .f32 .f64 a w) (fCv .f32 .f64 b w') := by
  rcases h with rfl | ⟨h1, h2⟩
  · cases hn : nanB .f32 a with
    | true => exact .inr ⟨nanB_of_cv _ (by simp) hn, nanB_of_cv _ (by simp) hn⟩
    | false =>
      obtain ⟨r, hr⟩ := widen_some hn
      left; simp [fCv, hr]
  · exact .inr ⟨nanB_of_cv _ (by simp) h1, nanB_of_cv _ (by simp) h2⟩
/-- Float to float with one NaN of our own, where nothing is too great. -/
def widC (b : Nat) : Nat :=
  match floatToFloatBits .f32 b .f64 with
  | some r => r
  | none => 0x7ff8000000000000

theorem FE.widC {a b : Nat} (w : World) (h : FE .f32 a b) : FE .f64 (fCv .f32 .f64 a w) (widC b) := by
  refine FE.trans (FE.widen w w h) ?_
  cases hn : nanB .f32 b with
  | true =>
    right
    refine ⟨nanB_of_cv _ (by simp) hn, ?_⟩
    obtain ⟨sg, t, he⟩ := (isNaN_cases _).1 hn
    have : floatToFloatBits .f32 b .f64 = none := by simp [floatToFloatBits, he]
    unfold Ytpiiflhdllpoiaa.widC; rw [this]; exact nanB_own .f64
  | false =>
    obtain ⟨r, hr⟩ := widen_some hn
    left; simp [fCv, hr, Ytpiiflhdllpoiaa.widC]
end Go.Proofs.Ytpiiflhdllpoiaa
