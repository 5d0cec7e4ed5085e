/- The greater of two 64-bit differences. -/
import Derived.Test.YtmkpkkaedhekdaaMn
namespace Go.Proofs.Ytmkpkkaedhekdaa
open Go.RowKit Fl

/-- the greater of two 64-bit numbers, by their order -/
def maxD (x y : Nat) : Nat := match FloatKind.f64.format.order x y with
  | some .lt => y
  | some .gt => x
  | _ => if (FloatKind.f64.decode x).neg then y else x
theorem maxD_one (x y : Nat) : maxD x y = x ∨ maxD x y = y := by
  unfold maxD; split
  · exact .inr rfl
  · exact .inl rfl
  · split
    · exact .inr rfl
    · exact .inl rfl
theorem run_max_float64 {P : Program} (ts : Array TypeId) (t : TypeId) (x y : Nat) (w : World) (h : (FloatKind.f64.format.order x y).isSome = true) :
    (Builtin.max_ ts t #[.float .f64 x, .float .f64 y]).run P w = .ok (.float .f64 (maxD x y)) w := by
  obtain ⟨o, ho⟩ := Option.isSome_iff_exists.1 h
  unfold maxD
  cases o <;> simp [Builtin.max_, Builtin.max2, ho]
end Go.Proofs.Ytmkpkkaedhekdaa
