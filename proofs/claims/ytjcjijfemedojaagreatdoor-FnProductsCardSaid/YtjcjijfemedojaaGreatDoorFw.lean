/- The walk's laws on floats over this program: widening of any 32-bit number, in whatever world; externs of package math. -/
import Derived.Test.YtjcjijfemedojaaGreatDoorRows
import Derived.Test.YtjcjijfemedojaaGreatDoorFl
import Derived.WalkKit
import Derived.WalkSpells
import Derived.WalkLawsBesides
import Derived.Laws.FloatArith
import Derived.Laws.Externs
namespace Go.Proofs.YtjcjijfemedojaaGreatDoor
open Go.RowKit Fl

/-- The bits of the not-a-number that widening gives in a world: the tape's answer. -/
def nanc (k : FloatKind) (a : Nat) (w : World) : Nat := (Question.nanConv k a).cut (w.tape w.drawn (Question.nanConv k a))
def nanb (k : FloatKind) (x y : Nat) (w : World) : Nat := (Question.nanBits k x y).cut (w.tape w.drawn (Question.nanBits k x y))

theorem isNaN_word32 (s t : Nat) (_hs : s < 2) : nan32 (s * 2 ^ 31 + 0x7f800000 + 1 + t % (2 ^ 23 - 1)) = true := by
  have hm : t % (2 ^ 23 - 1) < 2 ^ 23 - 1 := Nat.mod_lt _ (by decide)
  generalize t % (2 ^ 23 - 1) = r at *
  unfold nan32 Ieee.Format.read
  have e1 : Ieee.single.signWeight = 2 ^ 31 := by decide
  have e2 : Ieee.single.binade = 2 ^ 23 := by decide
  have e3 : Ieee.single.infRung = 0x7f800000 := by decide
  simp only [e1, e2, e3]
  have h1 : (s * 2 ^ 31 + 0x7f800000 + 1 + r) % 2 ^ 31 = 0x7f800000 + 1 + r := by omega
  rw [h1, if_neg (by omega), if_neg (by omega), if_neg (by omega)]
  rfl

theorem isNaN_word64 (s t : Nat) (_hs : s < 2) : nan64 (s * 2 ^ 63 + 0x7ff0000000000000 + 1 + t % (2 ^ 52 - 1)) = true := by
  have hm : t % (2 ^ 52 - 1) < 2 ^ 52 - 1 := Nat.mod_lt _ (by decide)
  generalize t % (2 ^ 52 - 1) = r at *
  unfold nan64 Ieee.Format.read
  have e1 : Ieee.double.signWeight = 2 ^ 63 := by decide
  have e2 : Ieee.double.binade = 2 ^ 52 := by decide
  have e3 : Ieee.double.infRung = 0x7ff0000000000000 := by decide
  simp only [e1, e2, e3]
  have h1 : (s * 2 ^ 63 + 0x7ff0000000000000 + 1 + r) % 2 ^ 63 = 0x7ff0000000000000 + 1 + r := by omega
  rw [h1, if_neg (by omega), if_neg (by omega), if_neg (by omega)]
  rfl

theorem nanc64_nan (a : Nat) (w : World) : nan64 (nanc .f64 a w) = true := isNaN_word64 _ _ (Nat.mod_lt _ (by decide))
theorem nanc32_nan (a : Nat) (w : World) : nan32 (nanc .f32 a w) = true := isNaN_word32 _ _ (Nat.mod_lt _ (by decide))
theorem nanb64_nan (a b : Nat) (w : World) : nan64 (nanb .f64 a b w) = true := isNaN_word64 _ _ (Nat.mod_lt _ (by decide))
theorem nanb32_nan (a b : Nat) (w : World) : nan32 (nanb .f32 a b w) = true := isNaN_word32 _ _ (Nat.mod_lt _ (by decide))

/-- 'float64(x)' of a not-a-number -/
theorem run_widen_nan {P : Program} (src dst : TypeId) (b : Nat) (w : World) (hs : (P.underlying src).isSome = true) (hd : P.underlying dst = some (.float .f64)) (h : nan32 b = true) :
    (convert src dst (.float .f32 b)).run P w = .ok (.float .f64 (nanc .f64 b w)) w.drew := by
  obtain ⟨u, hs'⟩ := Option.isSome_iff_exists.1 hs
  cases hb : FloatKind.f32.decode b with
  | nan s t => cases u <;> simp [convert, run_underlying hs', run_underlying hd, Conv.floatToFloat, hb, Question.forced, nanc]
  | number s m e =>
    have : Ieee.single.read b = .number s m e := hb
    simp [nan32, this, Ieee.Datum.isNaN] at h
  | infinity s =>
    have : Ieee.single.read b = .infinity s := hb
    simp [nan32, this, Ieee.Datum.isNaN] at h

/-- an invalid operation: the tape's not-a-number -/
theorem run_arith_nan {P : Program} (op : BinOp) (t : TypeId) (k : FloatKind) (x y : Nat) (w : World) (hop : op = .add ∨ op = .sub ∨ op = .mul ∨ op = .quo) (h : floatBits op k x y = none) :
    (binOp op t (.float k x) (.float k y)).run P w = .ok (.float k (nanb k x y w)) w.drew := by
  unfold floatBits at h
  rcases hop with rfl | rfl | rfl | rfl <;> simp only at h <;> simp [binOp, Op.floatArith, h, Question.forced, nanb]

/-- 'float32(x)' of a not-a-number -/
theorem run_narrow_nan {P : Program} (src dst : TypeId) (b : Nat) (w : World) (hs : (P.underlying src).isSome = true) (hd : P.underlying dst = some (.float .f32)) (h : nan64 b = true) :
    (convert src dst (.float .f64 b)).run P w = .ok (.float .f32 (nanc .f32 b w)) w.drew := by
  obtain ⟨u, hs'⟩ := Option.isSome_iff_exists.1 hs
  cases hb : FloatKind.f64.decode b with
  | nan s t => cases u <;> simp [convert, run_underlying hs', run_underlying hd, Conv.floatToFloat, hb, Question.forced, nanc]
  | number s m e =>
    have : Ieee.double.read b = .number s m e := hb
    simp [nan64, this, Ieee.Datum.isNaN] at h
  | infinity s =>
    have : Ieee.double.read b = .infinity s := hb
    simp [nan64, this, Ieee.Datum.isNaN] at h

end Go.Proofs.YtjcjijfemedojaaGreatDoor
