/-  -/
import Derived.WalkKit
import Derived.WalkLawsBesides
import Derived.Deep.Draws
import Derived.Test.YtkjlodoppmipfaaGreatJg1
import Derived.Test.YtkjlodoppmipfaaGreatRows
import Derived.WalkSpells
import Derived.Lib.Hide
import Derived.ProofKit
namespace Go.Proofs.YtkjlodoppmipfaaGreat
section

/-- The bits that an operation on floats gives in this world: of a result that is a number they are fixed, of NaN they are asked. -/
def fAr (op : BinOp) (k : FloatKind) (x y : Nat) (w : World) : Nat :=
  match floatBits op k x y with
  | some r => r
  | none => (Question.nanBits k x y).cut (w.tape w.drawn (.nanBits k x y))

def fDr (op : BinOp) (k : FloatKind) (x y : Nat) : Nat := if (floatBits op k x y).isSome then 0 else 1

/-- Float to float: of a number that the narrower kind has not, and of NaN, the bits are asked. -/
def fCv (s k : FloatKind) (b : Nat) (w : World) : Nat :=
  match floatToFloatBits s b k with
  | some r => r
  | none => if (s.decode b).isNaN then (Question.nanConv k b).cut (w.tape w.drawn (.nanConv k b)) else (Question.floatToFloat b).cut (w.tape w.drawn (.floatToFloat b))

def fCd (s k : FloatKind) (b : Nat) : Nat := if (floatToFloatBits s b k).isSome then 0 else 1

section
variable {P : Program} (w : World)

theorem run_fAr (op : BinOp) (t : TypeId) (k : FloatKind) (x y : Nat) (h : op = .add ∨ op = .sub ∨ op = .mul ∨ op = .quo) :
    (binOp op t (.float k x) (.float k y)).run P w = .ok (.float k (fAr op k x y w)) (w.drewN (fDr op k x y)) := by
  cases hf : floatBits op k x y with
  | some r =>
    rw [run_float_arith w op t k x y r hf]
    simp [fAr, fDr, hf, World.drewN_zero]
  | none =>
    simp only [fAr, fDr, hf]
    rcases h with rfl | rfl | rfl | rfl <;>
    · simp only [floatBits] at hf
      simp [binOp, Op.floatArith, hf, Question.forced, World.drewN]

@[go_sem] theorem run_fAr_add (t : TypeId) (k : FloatKind) (x y : Nat) :
    (binOp .add t (.float k x) (.float k y)).run P w = .ok (.float k (fAr .add k x y w)) (w.drewN (fDr .add k x y)) := run_fAr w .add t k x y (by simp)
@[go_sem] theorem run_fAr_sub (t : TypeId) (k : FloatKind) (x y : Nat) :
    (binOp .sub t (.float k x) (.float k y)).run P w = .ok (.float k (fAr .sub k x y w)) (w.drewN (fDr .sub k x y)) := run_fAr w .sub t k x y (by simp)
@[go_sem] theorem run_fAr_mul (t : TypeId) (k : FloatKind) (x y : Nat) :
    (binOp .mul t (.float k x) (.float k y)).run P w = .ok (.float k (fAr .mul k x y w)) (w.drewN (fDr .mul k x y)) := run_fAr w .mul t k x y (by simp)
@[go_sem] theorem run_fAr_quo (t : TypeId) (k : FloatKind) (x y : Nat) :
    (binOp .quo t (.float k x) (.float k y)).run P w = .ok (.float k (fAr .quo k x y w)) (w.drewN (fDr .quo k x y)) := run_fAr w .quo t k x y (by simp)

@[go_sem] theorem run_fCv (src dst : TypeId) (s k : FloatKind) (b : Nat) (hs : (P.underlying src).isSome = true) (hd : P.underlying dst = some (.float k)) :
    (convert src dst (.float s b)).run P w = .ok (.float k (fCv s k b w)) (w.drewN (fCd s k b)) := by
  cases hf : floatToFloatBits s b k with
  | some r =>
    rw [run_convert_float_float w src dst s k b r hs hd hf]
    simp [fCv, fCd, hf, World.drewN_zero]
  | none =>
    obtain ⟨u, hs'⟩ := Option.isSome_iff_exists.1 hs
    simp only [fCv, fCd, hf]
    unfold floatToFloatBits at hf
    split at hf
    · cases hf
    · rename_i ne
      split at hf
      · rename_i sg fr he
        cases u <;> simp [convert, run_underlying hs', run_underlying hd, Conv.floatToFloat, ne, he, Question.forced, World.drewN, Ieee.Datum.isNaN]
      · cases hf
      · rename_i sg m e he
        split at hf
        · rename_i ho
          cases u <;> simp [convert, run_underlying hs', run_underlying hd, Conv.floatToFloat, ne, he, ho, Question.forced, World.drewN, Ieee.Datum.isNaN]
        · cases hf

@[simp, go_sem] theorem fCv_self (k : FloatKind) (b : Nat) (w : World) : fCv k k b w = b := by simp [fCv, floatToFloatBits]
@[simp, go_sem] theorem fCd_self (k : FloatKind) (b : Nat) : fCd k k b = 0 := by simp [fCd, floatToFloatBits]
@[simp, go_sem] theorem drewN_nought (w : World) : w.drewN 0 = w := rfl

@[go_sem] theorem run_store_float {P : Program} (w : World) (a : Addr) (m : Mode) (k : FloatKind) (b : Nat) : (store a (.float k b) m).run P w = stored P w a (.float k b) m := run_store P w a _ m rfl
@[go_sem] theorem run_store_complex {P : Program} (w : World) (a : Addr) (m : Mode) (k : FloatKind) (x y : Nat) : (store a (.complex k x y) m).run P w = stored P w a (.complex k x y) m := run_store P w a _ m rfl

@[go_sem] theorem unary_neg_float (k : FloatKind) (b : Nat) : Op.unary .neg (.float k b) = pure (.float k (Op.negFloat k b)) := rfl
end

/-! EQUAL BUT FOR THE BITS OF NaN -/
def nanB (k : FloatKind) (b : Nat) : Bool := (k.decode b).isNaN

def FE (k : FloatKind) (a b : Nat) : Prop := a = b ∨ (nanB k a = true ∧ nanB k b = true)

theorem FE.refl (k : FloatKind) (a : Nat) : FE k a a := Or.inl rfl
theorem FE.symm {k : FloatKind} {a b : Nat} (h : FE k a b) : FE k b a := by
  rcases h with rfl | ⟨h1, h2⟩
  · exact .inl rfl
  · exact .inr ⟨h2, h1⟩
theorem FE.trans {k : FloatKind} {a b c : Nat} (h : FE k a b) (g : FE k b c) : FE k a c := by
  rcases h with rfl | ⟨h1, h2⟩
  · exact g
  · rcases g with rfl | ⟨g1, g2⟩
    · exact .inr ⟨h1, h2⟩
    · exact .inr ⟨h1, g2⟩

theorem nanB_cut32 (t : Nat) : nanB .f32 ((t % 2) * 2 ^ 31 + 0x7f800000 + 1 + (t / 2) % (2 ^ 23 - 1)) = true := by
  have h1 : t % 2 < 2 := Nat.mod_lt _ (by decide)
  have h2 : (t / 2) % (2 ^ 23 - 1) < 2 ^ 23 - 1 := Nat.mod_lt _ (by decide)
  generalize t % 2 = a at *
  generalize (t / 2) % (2 ^ 23 - 1) = b at *
  unfold nanB FloatKind.decode FloatKind.format Ieee.single Ieee.Format.read Ieee.Format.signWeight Ieee.Format.binade Ieee.Format.infRung Ieee.Format.binade
  simp only []
  have hr : (a * 2 ^ 31 + 0x7f800000 + 1 + b) % 2 ^ (8 + 23) = 0x7f800000 + 1 + b := by omega
  rw [hr]
  rw [if_neg (by omega), if_neg (by omega), if_neg (by omega)]
  rfl

theorem nanB_cut64 (t : Nat) : nanB .f64 ((t % 2) * 2 ^ 63 + 0x7ff0000000000000 + 1 + (t / 2) % (2 ^ 52 - 1)) = true := by
  have h1 : t % 2 < 2 := Nat.mod_lt _ (by decide)
  have h2 : (t / 2) % (2 ^ 52 - 1) < 2 ^ 52 - 1 := Nat.mod_lt _ (by decide)
  generalize t % 2 = a at *
  generalize (t / 2) % (2 ^ 52 - 1) = b at *
  unfold nanB FloatKind.decode FloatKind.format Ieee.double Ieee.Format.read Ieee.Format.signWeight Ieee.Format.binade Ieee.Format.infRung Ieee.Format.binade
  simp only []
  have hr : (a * 2 ^ 63 + 0x7ff0000000000000 + 1 + b) % 2 ^ (11 + 52) = 0x7ff0000000000000 + 1 + b := by omega
  rw [hr]
  rw [if_neg (by omega), if_neg (by omega), if_neg (by omega)]
  rfl

theorem nanB_nanBits (k : FloatKind) (x y t : Nat) : nanB k ((Question.nanBits k x y).cut t) = true := by
  cases k
  · exact nanB_cut32 t
  · exact nanB_cut64 t
theorem nanB_nanConv (k : FloatKind) (b t : Nat) : nanB k ((Question.nanConv k b).cut t) = true := by
  cases k
  · exact nanB_cut32 t
  · exact nanB_cut64 t

theorem isNaN_cases (d : Ieee.Datum) : d.isNaN = true ↔ ∃ s t, d = .nan s t := by
  cases d <;> simp [Ieee.Datum.isNaN]

/-- An operation with a NaN gives NaN. -/
theorem floatBits_nan_left {op : BinOp} {k : FloatKind} {x y : Nat} (h : nanB k x = true) : floatBits op k x y = none := by
  obtain ⟨s, t, h⟩ := (isNaN_cases _).1 h
  unfold FloatKind.decode at h
  unfold floatBits
  split <;> simp [Ieee.Format.add, Ieee.Format.sub, Ieee.Format.mul, Ieee.Format.div, h, Ieee.Datum.sum, Ieee.Datum.product, Ieee.Datum.quotient]
theorem floatBits_nan_right {op : BinOp} {k : FloatKind} {x y : Nat} (h : nanB k y = true) : floatBits op k x y = none := by
  obtain ⟨s, t, h⟩ := (isNaN_cases _).1 h
  unfold FloatKind.decode at h
  unfold floatBits
  split <;> simp only [Ieee.Format.add, Ieee.Format.sub, Ieee.Format.mul, Ieee.Format.div, h, Ieee.Datum.opposite] <;> cases k.format.read x <;> simp [Ieee.Datum.sum, Ieee.Datum.product, Ieee.Datum.quotient]

theorem fAr_nan {op : BinOp} {k : FloatKind} {x y : Nat} (w : World) (h : floatBits op k x y = none) : nanB k (fAr op k x y w) = true := by
  unfold fAr; rw [h]; exact nanB_nanBits ..

/-- THE SAME OPERATION ON THE SAME NUMBERS GIVES THE SAME NUMBER, in whatever worlds. -/
theorem FE.ar {op : BinOp} {k : FloatKind} {x x' y y' : Nat} (w w' : World) (hx : FE k x x') (hy : FE k y y') : FE k (fAr op k x y w) (fAr op k x' y' w') := by
  rcases hx with rfl | ⟨h1, h2⟩
  · rcases hy with rfl | ⟨h1, h2⟩
    · cases hf : floatBits op k x y with
      | some r => left; simp [fAr, hf]
      | none => right; exact ⟨fAr_nan _ hf, fAr_nan _ hf⟩
    · right; exact ⟨fAr_nan _ (floatBits_nan_right h1), fAr_nan _ (floatBits_nan_right h2)⟩
  · right; exact ⟨fAr_nan _ (floatBits_nan_left h1), fAr_nan _ (floatBits_nan_left h2)⟩

/-- The operation with one NaN of our own, for specifications. -/
def fC (op : BinOp) (k : FloatKind) (x y : Nat) : Nat :=
  match floatBits op k x y with
  | some r => r
  | none => match k with | .f32 => 0x7fc00000 | .f64 => 0x7ff8000000000000

theorem nanB_own (k : FloatKind) : nanB k (match k with | .f32 => 0x7fc00000 | .f64 => 0x7ff8000000000000) = true := by
  cases k <;> decide +kernel

theorem fC_nan {op : BinOp} {k : FloatKind} {x y : Nat} (h : floatBits op k x y = none) : nanB k (fC op k x y) = true := by
  unfold fC; rw [h]; exact nanB_own k

theorem FE.arC {op : BinOp} {k : FloatKind} {x x' y y' : Nat} (w : World) (hx : FE k x x') (hy : FE k y y') : FE k (fAr op k x y w) (fC op k x' y') := by
  refine FE.trans (FE.ar w w hx hy) ?_
  cases hf : floatBits op k x' y' with
  | some r => left; simp [fAr, fC, hf]
  | none => right; exact ⟨fAr_nan _ hf, fC_nan hf⟩

theorem order_nan_left {k : FloatKind} {x y : Nat} (h : nanB k x = true) : k.format.order x y = none := by
  obtain ⟨s, t, h⟩ := (isNaN_cases _).1 h
  unfold FloatKind.decode at h
  simp [Ieee.Format.order, h, Ieee.Datum.order]
theorem order_nan_right {k : FloatKind} {x y : Nat} (h : nanB k y = true) : k.format.order x y = none := by
  obtain ⟨s, t, h⟩ := (isNaN_cases _).1 h
  unfold FloatKind.decode at h
  simp only [Ieee.Format.order, h]
  cases k.format.read x <;> simp [Ieee.Datum.order]

theorem FE.order {k : FloatKind} {x x' y y' : Nat} (hx : FE k x x') (hy : FE k y y') : k.format.order x y = k.format.order x' y' := by
  rcases hx with rfl | ⟨h1, h2⟩
  · rcases hy with rfl | ⟨h1, h2⟩
    · rfl
    · rw [order_nan_right h1, order_nan_right h2]
  · rw [order_nan_left h1, order_nan_left h2]

/-- A number is equal to itself, if it is no NaN. -/
theorem order_self (k : FloatKind) (x : Nat) : k.format.order x x = if nanB k x then none else some .eq := by
  unfold nanB FloatKind.decode Ieee.Format.order
  cases k.format.read x with
  | number s m e => simp [Ieee.Datum.order, Ieee.Datum.isNaN]
  | infinity s => simp [Ieee.Datum.order, Ieee.Datum.isNaN]
  | nan s t => simp [Ieee.Datum.order, Ieee.Datum.isNaN]

theorem nanB_of_cv {s k : FloatKind} {b : Nat} (w : World) (hk : s ≠ k) (h : nanB s b = true) : nanB k (fCv s k b w) = true := by
  obtain ⟨sg, t, he⟩ := (isNaN_cases _).1 h
  have : floatToFloatBits s b k = none := by simp [floatToFloatBits, hk, he]
  unfold fCv; rw [this]; simp only [nanB] at h; rw [if_pos h]; exact nanB_nanConv ..

theorem read_single_number {b m : Nat} {s : Bool} {p : Int} (h : Ieee.single.read b = .number s m p) : ∃ e : Nat, e ≤ 253 ∧ p = -149 + (e : Int) ∧ m < 16777216 := by
  have hi : Ieee.single.infRung = 2139095040 := by decide +kernel
  have hb : Ieee.single.binade = 8388608 := by decide +kernel
  have hl : Ieee.single.leastPlace = -149 := by decide +kernel
  unfold Ieee.Format.read at h
  rw [hi, hb, hl] at h
  simp only [] at h
  generalize b % Ieee.single.signWeight = r at h
  split at h
  · cases h; exact ⟨0, by omega, by omega, by omega⟩
  · split at h
    · cases h
      have h1 : r % 8388608 < 8388608 := Nat.mod_lt _ (by decide)
      exact ⟨r / 8388608 - 1, by omega, by omega, by omega⟩
    · split at h <;> cases h

/-- Widening: what single precision has, double precision has. -/
theorem wide_isU {m : Nat} (s : Bool) {e : Nat} (he : e ≤ 253) (hm : m < 16777216) :
    isU Ieee.double (Ieee.double.nearest s m (-149 + (e : Int))) s (m * 2 ^ (e + 925)) := by
  have hd : Ieee.double.binade = 4503599627370496 := by decide +kernel
  have hl : Ieee.double.leastPlace = -1074 := by decide +kernel
  refine isU_of_nearest s (a := e + 925) (b := 0) (rep_of _ (by rw [hd]; omega) ?_) (by rw [Nat.pow_zero, Nat.mul_one]) (by rw [hl]; omega)
  have h : Ieee.double.exponentBits = 11 := rfl
  rw [h]
  omega

theorem widen_some {b : Nat} (h : nanB .f32 b = false) : ∃ r, floatToFloatBits .f32 b .f64 = some r := by
  unfold nanB FloatKind.decode FloatKind.format at h
  simp only [] at h
  unfold floatToFloatBits FloatKind.decode FloatKind.encode FloatKind.format
  rw [if_neg (by simp)]
  simp only []
  cases hd : Ieee.single.read b with
  | infinity s => exact ⟨_, rfl⟩
  | nan s t => rw [hd] at h; simp [Ieee.Datum.isNaN] at h
  | number s m p =>
    obtain ⟨e, he, rfl, hm⟩ := read_single_number hd
    obtain ⟨m', e', hr, _⟩ := read_isU (wide_isU s he hm)
    simp only [Ieee.Format.write, hr]
    exact ⟨_, rfl⟩

/-- Widened, the same numbers are the same. -/
theorem FE.widen {a b : Nat} (w w' : World) (h : FE .f32 a b) : FE .f64 (fCv .f32 .f64 a w) (fCv .f32 .f64 b w') := by
  rcases h with rfl | ⟨h1, h2⟩
  · cases hn : nanB .f32 a with
    | true => exact .inr ⟨nanB_of_cv _ (by simp) hn, nanB_of_cv _ (by simp) hn⟩
    | false =>
      obtain ⟨r, hr⟩ := widen_some hn
      left; simp [fCv, hr]
  · exact .inr ⟨nanB_of_cv _ (by simp) h1, nanB_of_cv _ (by simp) h2⟩
/-- Float to float with one NaN of our own, where nothing is too great. -/
def widC (b : Nat) : Nat :=
  match floatToFloatBits .f32 b .f64 with
  | some r => r
  | none => 0x7ff8000000000000

theorem FE.widC {a b : Nat} (w : World) (h : FE .f32 a b) : FE .f64 (fCv .f32 .f64 a w) (widC b) := by
  refine FE.trans (FE.widen w w h) ?_
  cases hn : nanB .f32 b with
  | true =>
    right
    refine ⟨nanB_of_cv _ (by simp) hn, ?_⟩
    obtain ⟨sg, t, he⟩ := (isNaN_cases _).1 hn
    have : floatToFloatBits .f32 b .f64 = none := by simp [floatToFloatBits, he]
    unfold YtkjlodoppmipfaaGreat.widC; rw [this]; exact nanB_own .f64
  | false =>
    obtain ⟨r, hr⟩ := widen_some hn
    left; simp [fCv, hr, YtkjlodoppmipfaaGreat.widC]
end
section
open Go.RowKit

def SumTwo (a b : Nat) (w : World) (e : Ending) (w' : World) : Prop :=
  ∃ s r n, e = .returned (.tuple #[.float .f32 s, .float .f32 r]) ∧ w' = w.drewN n ∧ FE .f32 s (fC .add .f32 a b) ∧
    FE .f32 r (fC .add .f32 (fC .sub .f32 a (fC .sub .f32 (fC .add .f32 a b) (fC .sub .f32 (fC .add .f32 a b) a))) (fC .sub .f32 b (fC .sub .f32 (fC .add .f32 a b) a)))

/-- 1 divided by what is no NaN. -/
theorem quo_one {a : Nat} (h : nanB .f64 a = false) : ∃ r, floatBits .quo .f64 4607182418800017408 a = some r := by
  have h1 : Ieee.double.read 4607182418800017408 = .number false 4503599627370496 (-52) := by decide +kernel
  simp only [floatBits, Ieee.Format.div, FloatKind.format, h1]
  unfold nanB FloatKind.decode FloatKind.format at h
  simp only [] at h
  cases hd : Ieee.double.read a with
  | number t n j =>
    simp only [Ieee.Datum.quotient]
    by_cases hn : n = 0
    · subst hn; exact ⟨_, rfl⟩
    · rw [if_neg hn]; exact ⟨_, rfl⟩
  | infinity s => exact ⟨_, rfl⟩
  | nan s t => rw [hd] at h; simp [Ieee.Datum.isNaN] at h

def SaysTrue (w : World) (e : Ending) (w' : World) : Prop := ∃ n, e = .returned (.bool true) ∧ w' = w.drewN n

/-- Half of x, twice, is not x. -/
def lossB (x : Nat) : Bool := FloatKind.f32.format.order (fC .mul .f32 (fC .quo .f32 x 1073741824) 1073741824) x != some .eq

/-- A float comes back, and nothing is written. -/
def GivesF (w : World) (k : FloatKind) (b : Nat) (e : Ending) (w' : World) : Prop := ∃ r m, e = .returned (.float k r) ∧ w' = w.drewN m ∧ FE k r b

/-- k times halved. -/
def halves (x : Nat) : Nat → Nat
  | 0 => x
  | k + 1 => fC .quo .f32 (halves x k) 1073741824
end
section
open Go.RowKit

/-- A slice of floats that reads as a list of their bits; nil is let in. -/
def HasF (w : World) (v : Value) (xs : List Nat) : Prop :=
  ∃ (A : Option Addr) (cap : Nat), v = .slice A xs.length cap ∧ xs.length ≤ cap ∧
    (0 < xs.length → ∃ b off, A = some ⟨b, off, none⟩ ∧ ∀ j, j < xs.length → w.cell? ⟨b, off + j, none⟩ = some (.float .f32 (xs.getD j 0)))

def sumF (xs : List Nat) : Nat := xs.foldl (fC .add .f32) 0
def sumD (xs : List Nat) : Nat := xs.foldl (fun s x => fC .add .f64 s (widC x)) 0
def steady (xs : List Nat) : Nat × Nat :=
  xs.foldl (fun p x => (fC .add .f32 p.1 (fC .sub .f32 x p.2), fC .sub .f32 (fC .sub .f32 (fC .add .f32 p.1 (fC .sub .f32 x p.2)) p.1) (fC .sub .f32 x p.2))) (0, 0)
def steadyF (xs : List Nat) : Nat := (steady xs).1

theorem foldl_step {α : Type} (f : α → Nat → α) (s : α) (xs : List Nat) (k : Nat) (h : k < xs.length) : (xs.take (k + 1)).foldl f s = f ((xs.take k).foldl f s) (xs.getD k 0) := by
  rw [List.take_succ_eq_append_getElem h, List.foldl_append]
  simp [List.getD_eq_getElem?_getD, List.getElem?_eq_getElem h]
theorem sumF_step (xs : List Nat) (k : Nat) (h : k < xs.length) : sumF (xs.take (k + 1)) = fC .add .f32 (sumF (xs.take k)) (xs.getD k 0) := foldl_step _ _ _ _ h
theorem sumD_step (xs : List Nat) (k : Nat) (h : k < xs.length) : sumD (xs.take (k + 1)) = fC .add .f64 (sumD (xs.take k)) (widC (xs.getD k 0)) := foldl_step _ _ _ _ h
theorem steady_step (xs : List Nat) (k : Nat) (h : k < xs.length) : steady (xs.take (k + 1)) =
    (fC .add .f32 (steady (xs.take k)).1 (fC .sub .f32 (xs.getD k 0) (steady (xs.take k)).2),
      fC .sub .f32 (fC .sub .f32 (fC .add .f32 (steady (xs.take k)).1 (fC .sub .f32 (xs.getD k 0) (steady (xs.take k)).2)) (steady (xs.take k)).1) (fC .sub .f32 (xs.getD k 0) (steady (xs.take k)).2)) := foldl_step _ _ _ _ h
end
section
open Go.RowKit

/-- The law answers true; what was there is as it was. -/
def Says (w : World) (e : Ending) (w' : World) : Prop := e = .returned (.bool true) ∧ Below w.heap.size w w'

theorem Below.drewN {B : Nat} {a w : World} (h : Below B a w) (n : Nat) : Below B a (w.drewN n) := ⟨h.os, h.tape, h.output, h.size, h.block⟩

theorem i64_both {n : Int} (h : (Lit.int .i64 n).wf = true) : -9223372036854775808 ≤ n ∧ n ≤ 9223372036854775807 := by
  have e1 : IntKind.i64.min = -9223372036854775808 := by decide +kernel
  have e2 : IntKind.i64.max = 9223372036854775807 := by decide +kernel
  simp only [Lit.wf, e1, e2, Bool.and_eq_true, decide_eq_true_eq] at h
  exact h
theorem i64_low {n : Int} (h : (Lit.int .i64 n).wf = true) : -9223372036854775808 ≤ n := (i64_both h).1
theorem i64_high {n : Int} (h : (Lit.int .i64 n).wf = true) : n ≤ 9223372036854775807 := (i64_both h).2
end
section
open Go.RowKit

theorem HasF.drewN {w : World} {v : Value} {xs : List Nat} (h : HasF w v xs) (n : Nat) : HasF (w.drewN n) v xs := h
theorem HasF.below {w w' : World} {v : Value} {xs : List Nat} {B : Nat} (h : HasF w v xs) (hb : Below B w w') (hB : w.heap.size ≤ B) : HasF w' v xs := by
  obtain ⟨A, cap, rfl, hcap, hc⟩ := h
  refine ⟨A, cap, rfl, hcap, fun hp => ?_⟩
  obtain ⟨b, off, rfl, hcell⟩ := hc hp
  refine ⟨b, off, rfl, fun j hj => ?_⟩
  have h0 := hcell j hj
  have hlt := World.block_lt_of_cell? w ⟨b, off + j, none⟩ h0
  rw [← h0]
  exact hb.cell (p := ⟨b, off + j, none⟩) (by simp only at hlt ⊢; omega)

/-- A block of n cells of this type, none frozen, whose first k are f's. -/
def Filled (w : World) (g : Nat) (e : TypeId) (n k : Nat) (f : Nat → Value) : Prop :=
  ∃ cs : Array Value, w.heap[g]? = some (.cells cs e (0, 0)) ∧ cs.size = n ∧ ∀ j, j < k → cs[j]? = some (f j)

theorem Filled.cell {w : World} {g : Nat} {e : TypeId} {n k : Nat} {f : Nat → Value} (h : Filled w g e n k f) {j : Nat} (hj : j < n) : ∃ u, w.cell? ⟨g, j, none⟩ = some u := by
  obtain ⟨cs, hh, hs, _⟩ := h
  refine ⟨cs[j]'(by omega), ?_⟩
  unfold World.cell?
  simp only [hh]
  simp [Array.getElem?_eq_getElem (show j < cs.size by omega)]
theorem Filled.at_ {w : World} {g : Nat} {e : TypeId} {n k : Nat} {f : Nat → Value} (h : Filled w g e n k f) {j : Nat} (hj : j < k) : w.cell? ⟨g, j, none⟩ = some (f j) := by
  obtain ⟨cs, hh, hs, hf⟩ := h
  unfold World.cell?
  simp only [hh]
  simp [hf j hj]
theorem Filled.frozen {w : World} {g : Nat} {e : TypeId} {n k : Nat} {f : Nat → Value} (h : Filled w g e n k f) (j : Nat) : w.frozen? ⟨g, j, none⟩ = false := by
  obtain ⟨cs, hh, _, _⟩ := h
  simp [World.frozen?, hh]
theorem Filled.step {w : World} {g : Nat} {e : TypeId} {n k : Nat} {f : Nat → Value} (h : Filled w g e n k f) (hk : k < n) : Filled (w.setCell ⟨g, k, none⟩ (f k)) g e n (k + 1) f := by
  obtain ⟨cs, hh, hs, hf⟩ := h
  refine ⟨cs.setIfInBounds k (f k), ?_, by simp [hs], fun j hj => ?_⟩
  · simp [World.setCell, Array.getElem?_modify, hh]
  · by_cases hjk : j = k
    · subst hjk; rw [Array.getElem?_setIfInBounds_self_of_lt (by omega)]
    · rw [Array.getElem?_setIfInBounds_ne (by omega)]; exact hf j (by omega)
theorem Filled.drewN {w : World} {g : Nat} {e : TypeId} {n k : Nat} {f : Nat → Value} (h : Filled w g e n k f) (m : Nat) : Filled (w.drewN m) g e n k f := h

def zerosV (z : Value) (n : Nat) : Array Value := Array.replicate n z

theorem Filled.made (w : World) (e : TypeId) (z : Value) (n : Nat) (f : Nat → Value) : Filled (w.alloc (.cells (zerosV z n) e)) w.heap.size e n 0 f := by
  refine ⟨zerosV z n, ?_, by simp [zerosV], fun j hj => absurd hj (by omega)⟩
  show (w.heap.push _)[w.heap.size]? = _
  simp

/-- make of n zero values. -/
theorem run_make_zeros {P : Program} (w : World) (t e : TypeId) (z : Value) (bytes : Nat) (ht : P.underlying t = some (.slice e)) (hi : (P.info? e).map (fun i => (i.zero, i.size, i.bytes)) = some (some z, 1, bytes)) (hz : z.cells = #[z])
    (n : Nat) (hb : bytes * n ≤ 281474976710656) (h63 : n ≤ 9223372036854775807) :
    (Instr.makeSlice t (.int .i64 (n : Int)) (.int .i64 (n : Int))).run P w = .ok (.slice (some ⟨w.heap.size, 0, none⟩) n n) (w.alloc (.cells (zerosV z n) e)) := by
  obtain ⟨i, h1, h2, h3, h4⟩ := info_parts hi
  have hb' : (i.bytes : Int) * (n : Int) ≤ 281474976710656 := by
    rw [h4]
    have h : ((bytes * n : Nat) : Int) ≤ 281474976710656 := by omega
    rwa [Int.natCast_mul] at h
  have := run_make (P := P) w t e i z ht h1 h2 .i64 .i64 n n (by omega) (by omega) hb' (by omega)
  rw [this, h3, hz]
  simp only [Int.toNat_natCast, Nat.mul_one]
  congr 3
  unfold madeCells zerosV
  apply Array.ext
  · simp
  · intro j h1 h2
    simp [Nat.mod_one]

theorem info_f32 : (Tryz.prog.info? 24).map (fun i => (i.zero, i.size, i.bytes)) = some (some (.float .f32 0), 1, 4) := by kernel_rfl

/-- A new slice of floats, and nothing old is turned. -/
def MakesF (w : World) (xs : List Nat) (e : Ending) (w' : World) : Prop := ∃ v, e = .returned v ∧ HasF w' v xs ∧ Below w.heap.size w w'
end
end Go.Proofs.YtkjlodoppmipfaaGreat
