/- The turn of a drawn grain behind a tick and back: tables over its few numbers. Plain facts. -/
import Derived.Test.YtklceohoghjhdaaGq
namespace Go.Proofs.Ytklceohoghjhdaa
open Go.RowKit Fl

def sWords : List Nat := [3221225472, 3217031168, 3212836864, 3204448256, 0, 1056964608, 1065353216, 1069547520, 1073741824, 2147483648]
def tWords : List Nat := [3204448256, 3202351104, 3200253952, 3198156800, 3196059648, 3191865344, 3187671040, 3179282432, 0, 1031798784, 1040187392, 1044381696, 1048576000, 1050673152, 1052770304, 1054867456, 1056964608, 2147483648]
theorem s_mem {x : Nat} {n : Int} (h : Exa Ieee.single (-1) x n) (h1 : -4 ≤ n) (h2 : n ≤ 4) : x ∈ sWords := by
  have hc : n = -4 ∨ n = -3 ∨ n = -2 ∨ n = -1 ∨ n = 0 ∨ n = 1 ∨ n = 2 ∨ n = 3 ∨ n = 4 := by omega
  rcases hc with rfl | rfl | rfl | rfl | rfl | rfl | rfl | rfl | rfl
  · have e := h.1 (by decide)
    rw [show Ieee.single.nearest (decide ((-4 : Int) < 0)) (Int.natAbs (-4)) (-1) = 3221225472 by decide +kernel] at e
    subst e; decide
  · have e := h.1 (by decide)
    rw [show Ieee.single.nearest (decide ((-3 : Int) < 0)) (Int.natAbs (-3)) (-1) = 3217031168 by decide +kernel] at e
    subst e; decide
  · have e := h.1 (by decide)
    rw [show Ieee.single.nearest (decide ((-2 : Int) < 0)) (Int.natAbs (-2)) (-1) = 3212836864 by decide +kernel] at e
    subst e; decide
  · have e := h.1 (by decide)
    rw [show Ieee.single.nearest (decide ((-1 : Int) < 0)) (Int.natAbs (-1)) (-1) = 3204448256 by decide +kernel] at e
    subst e; decide
  · rcases h.2 rfl with rfl | rfl
    · decide
    · decide
  · have e := h.1 (by decide)
    rw [show Ieee.single.nearest (decide ((1 : Int) < 0)) (Int.natAbs (1)) (-1) = 1056964608 by decide +kernel] at e
    subst e; decide
  · have e := h.1 (by decide)
    rw [show Ieee.single.nearest (decide ((2 : Int) < 0)) (Int.natAbs (2)) (-1) = 1065353216 by decide +kernel] at e
    subst e; decide
  · have e := h.1 (by decide)
    rw [show Ieee.single.nearest (decide ((3 : Int) < 0)) (Int.natAbs (3)) (-1) = 1069547520 by decide +kernel] at e
    subst e; decide
  · have e := h.1 (by decide)
    rw [show Ieee.single.nearest (decide ((4 : Int) < 0)) (Int.natAbs (4)) (-1) = 1073741824 by decide +kernel] at e
    subst e; decide
theorem t_mem {x : Nat} {n : Int} (h : Exa Ieee.single (-4) x n) (h1 : -8 ≤ n) (h2 : n ≤ 8) : x ∈ tWords := by
  have hc : n = -8 ∨ n = -7 ∨ n = -6 ∨ n = -5 ∨ n = -4 ∨ n = -3 ∨ n = -2 ∨ n = -1 ∨ n = 0 ∨ n = 1 ∨ n = 2 ∨ n = 3 ∨ n = 4 ∨ n = 5 ∨ n = 6 ∨ n = 7 ∨ n = 8 := by omega
  rcases hc with rfl | rfl | rfl | rfl | rfl | rfl | rfl | rfl | rfl | rfl | rfl | rfl | rfl | rfl | rfl | rfl | rfl
  · have e := h.1 (by decide)
    rw [show Ieee.single.nearest (decide ((-8 : Int) < 0)) (Int.natAbs (-8)) (-4) = 3204448256 by decide +kernel] at e
    subst e; decide
  · have e := h.1 (by decide)
    rw [show Ieee.single.nearest (decide ((-7 : Int) < 0)) (Int.natAbs (-7)) (-4) = 3202351104 by decide +kernel] at e
    subst e; decide
  · have e := h.1 (by decide)
    rw [show Ieee.single.nearest (decide ((-6 : Int) < 0)) (Int.natAbs (-6)) (-4) = 3200253952 by decide +kernel] at e
    subst e; decide
  · have e := h.1 (by decide)
    rw [show Ieee.single.nearest (decide ((-5 : Int) < 0)) (Int.natAbs (-5)) (-4) = 3198156800 by decide +kernel] at e
    subst e; decide
  · have e := h.1 (by decide)
    rw [show Ieee.single.nearest (decide ((-4 : Int) < 0)) (Int.natAbs (-4)) (-4) = 3196059648 by decide +kernel] at e
    subst e; decide
  · have e := h.1 (by decide)
    rw [show Ieee.single.nearest (decide ((-3 : Int) < 0)) (Int.natAbs (-3)) (-4) = 3191865344 by decide +kernel] at e
    subst e; decide
  · have e := h.1 (by decide)
    rw [show Ieee.single.nearest (decide ((-2 : Int) < 0)) (Int.natAbs (-2)) (-4) = 3187671040 by decide +kernel] at e
    subst e; decide
  · have e := h.1 (by decide)
    rw [show Ieee.single.nearest (decide ((-1 : Int) < 0)) (Int.natAbs (-1)) (-4) = 3179282432 by decide +kernel] at e
    subst e; decide
  · rcases h.2 rfl with rfl | rfl
    · decide
    · decide
  · have e := h.1 (by decide)
    rw [show Ieee.single.nearest (decide ((1 : Int) < 0)) (Int.natAbs (1)) (-4) = 1031798784 by decide +kernel] at e
    subst e; decide
  · have e := h.1 (by decide)
    rw [show Ieee.single.nearest (decide ((2 : Int) < 0)) (Int.natAbs (2)) (-4) = 1040187392 by decide +kernel] at e
    subst e; decide
  · have e := h.1 (by decide)
    rw [show Ieee.single.nearest (decide ((3 : Int) < 0)) (Int.natAbs (3)) (-4) = 1044381696 by decide +kernel] at e
    subst e; decide
  · have e := h.1 (by decide)
    rw [show Ieee.single.nearest (decide ((4 : Int) < 0)) (Int.natAbs (4)) (-4) = 1048576000 by decide +kernel] at e
    subst e; decide
  · have e := h.1 (by decide)
    rw [show Ieee.single.nearest (decide ((5 : Int) < 0)) (Int.natAbs (5)) (-4) = 1050673152 by decide +kernel] at e
    subst e; decide
  · have e := h.1 (by decide)
    rw [show Ieee.single.nearest (decide ((6 : Int) < 0)) (Int.natAbs (6)) (-4) = 1052770304 by decide +kernel] at e
    subst e; decide
  · have e := h.1 (by decide)
    rw [show Ieee.single.nearest (decide ((7 : Int) < 0)) (Int.natAbs (7)) (-4) = 1054867456 by decide +kernel] at e
    subst e; decide
  · have e := h.1 (by decide)
    rw [show Ieee.single.nearest (decide ((8 : Int) < 0)) (Int.natAbs (8)) (-4) = 1056964608 by decide +kernel] at e
    subst e; decide
/-- the turn behind a tick -/
def turnO (s t q : Nat) : Option Nat := (floatBits .mul .f32 s q).bind fun a => (floatBits .quo .f32 a 1086918619).bind fun b => floatBits .add .f32 t b
/-- there and back: the turn is nearly what it was -/
def turnOk (s t : Nat) : Bool := match turnO s t 1056964608 with
  | none => false
  | some u => fin32 u && match turnO s u 3204448256 with
    | none => false
    | some v => fin32 v && (match floatBits .sub .f64 (wide v) (wide t), floatBits .sub .f64 (wide t) (wide v) with
      | some d, some e => ((FloatKind.f64.format.order d 4562254508917369340 == some .lt) && (FloatKind.f64.format.order e 4562254508917369340 == some .lt)) && (FloatKind.f64.format.order d e).isSome
      | _, _ => false)
theorem turn_all : (sWords.all fun s => tWords.all fun t => turnOk s t) = true := by decide +kernel
theorem turn_ok {s t : Nat} {a b : Int} (hs : Exa Ieee.single (-1) s a) (h1 : -4 ≤ a ∧ a ≤ 4) (ht : Exa Ieee.single (-4) t b) (h2 : -8 ≤ b ∧ b ≤ 8) : turnOk s t = true := by
  have h := List.all_eq_true.1 turn_all s (s_mem hs h1.1 h1.2)
  exact List.all_eq_true.1 h t (t_mem ht h2.1 h2.2)
end Go.Proofs.Ytklceohoghjhdaa
