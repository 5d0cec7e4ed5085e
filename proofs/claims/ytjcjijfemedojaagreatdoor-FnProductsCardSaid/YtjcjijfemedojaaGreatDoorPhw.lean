/- Complex numbers widened, and compared by the law. -/
import Derived.Test.YtjcjijfemedojaaGreatDoorBits
import Derived.Laws.ComplexArith
namespace Go.Proofs.YtjcjijfemedojaaGreatDoor
open Go.RowKit Fl
open Ieee (Datum Toward)

def RepC (a b : Nat) : Option (Nat × Nat) → Prop
  | none => nan32 a = true ∧ nan32 b = true
  | some r => a = r.1 ∧ b = r.2

theorem run_cwiden {P : Program} (src dst : TypeId) (a b : Nat) (w : World) (hs : (P.underlying src).isSome = true) (hd : P.underlying dst = some (.complex .f64)) (ha : nan32 a = false) (hb : nan32 b = false) :
    (convert src dst (.complex .f32 a b)).run P w = .ok (.complex .f64 (wide a) (wide b)) w :=
  run_convert_complex w src dst .f32 .f64 a b _ _ hs hd (by simp [cConvBits, wide_conv a ha, wide_conv b hb])

theorem nan_datum {f : Ieee.Format} {x : Nat} (h : (f.read x).isNaN = true) : ∃ s t, f.read x = .nan s t := by
  cases hx : f.read x with
  | nan s t => exact ⟨s, t, rfl⟩
  | number s m e => simp [hx, Datum.isNaN] at h
  | infinity s => simp [hx, Datum.isNaN] at h

theorem run_cwiden_nan {P : Program} (src dst : TypeId) (a b : Nat) (w : World) (hs : (P.underlying src).isSome = true) (hd : P.underlying dst = some (.complex .f64)) (ha : nan32 a = true) (hb : nan32 b = true) :
    (convert src dst (.complex .f32 a b)).run P w = .ok (.complex .f64 (nanc .f64 a w) (nanc .f64 b w.drew)) w.drew.drew := by
  obtain ⟨u, hs'⟩ := Option.isSome_iff_exists.1 hs
  obtain ⟨s1, t1, h1⟩ := nan_datum (f := Ieee.single) ha
  obtain ⟨s2, t2, h2⟩ := nan_datum (f := Ieee.single) hb
  have g1 : FloatKind.f32.decode a = .nan s1 t1 := h1
  have g2 : FloatKind.f32.decode b = .nan s2 t2 := h2
  cases u <;> simp [convert, run_underlying hs', run_underlying hd, Conv.complexToComplex, Conv.floatToFloat, g1, g2, Question.forced, nanc]


end Go.Proofs.YtjcjijfemedojaaGreatDoor
