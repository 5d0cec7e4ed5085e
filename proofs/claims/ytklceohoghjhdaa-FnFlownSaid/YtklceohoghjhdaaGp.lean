/- The greater of two 64-bit differences. -/
import Derived.Test.YtklceohoghjhdaaMn
namespace Go.Proofs.Ytklceohoghjhdaa
open Go.RowKit Fl

/-- the greater of two 64-bit numbers, by their order -/
def maxD (x y : Nat) : Nat := match FloatKind.f64.format.order x y with
  | some .lt => y
  | some .gt => x
  | _ => if (FloatKind.f64.decode x).neg then y else x
theorem maxD_one (x y : Nat) : maxD x y = x ∨ maxD x y = y := by
  unfold maxD; split
  · exact .inr rfl
  · exact .inl rfl
  · split
    · exact .inr rfl
    · exact .inl rfl
theorem run_max_float64 {P : Program} (ts : Array TypeId) (t : TypeId) (x y : Nat) (w : World) (h : (FloatKind.f64.format.order x y).isSome = true) :
    (Builtin.max_ ts t #[.float .f64 x, .float .f64 y]).run P w = .ok (.float .f64 (maxD x y)) w := by
  obtain ⟨o, ho⟩ := Option.isSome_iff_exists.1 h
  unfold maxD
  cases o <;> simp [Builtin.max_, Builtin.max2, ho]
theorem r8Gap_of (a b d e : Nat) (w : World) (h1 : floatBits .sub .f64 a b = some d) (h2 : floatBits .sub .f64 b a = some e) (h : (FloatKind.f64.format.order d e).isSome = true) :
    Calls Try.prog 23 #[.float .f64 a, .float .f64 b] w fun x w' => x = .returned (.float .f64 (maxD d e)) ∧ w = w' := by
  have e1 := fun w => run_float_arith (P := Try.prog) w .sub 47 .f64 _ _ _ h1
  have e2 := fun w => run_float_arith (P := Try.prog) w .sub 47 .f64 _ _ _ h2
  have e3 := fun w ts t => run_max_float64 (P := Try.prog) ts t d e w h
  clear h1 h2 h
  go_enter Try.func23, Try.ntmps23
  go_wp2
  go_ret
  exact ⟨rfl, rfl⟩
end Go.Proofs.Ytklceohoghjhdaa
