/- The sine of some turns: the chain of operations, that each is valid and none too great, and the contracts of both sides. -/
import Derived.Test.YtbggklhnnjikjaaRoot
import Derived.Deep.Cut
import Derived.Deep.DeepCutAuto
namespace Go.Proofs.Ytbggklhnnjikjaa
open Go.RowKit Fl

/-- '2 k (2 k + 1)' as a 64-bit number -/
def den (k : Nat) : Nat := floatOfInt .f64 (2 * (k : Int) * (2 * (k : Int) + 1))

/-- one round: p becomes 1 - (u p) / (2 k (2 k + 1)) -/
def SinStep (u p k p' : Nat) : Prop := ∃ a b, floatBits .mul .f64 u p = some a ∧ floatBits .quo .f64 a (den k) = some b ∧ floatBits .sub .f64 4607182418800017408 b = some p'

/-- the whole chain, from the number of turns y (finite, not too great) to the sine r -/
def SinRel (y r : Nat) : Prop := ∃ (n : Int) (f0 f1 f2 f3 z u q : Nat) (P : Nat → Nat) (b1 b2 b3 : Bool),
  floatToIntVal .f64 y .i64 = some n ∧ floatBits .sub .f64 y (floatOfInt .f64 n) = some f0 ∧
  (FloatKind.f64.format.order f0 0 == some .lt) = b1 ∧ (if b1 then floatBits .add .f64 f0 4607182418800017408 = some f1 else f1 = f0) ∧
  (FloatKind.f64.format.order f1 4602678819172646912 == some .gt || FloatKind.f64.format.order f1 4602678819172646912 == some .eq) = b2 ∧ (if b2 then floatBits .sub .f64 f1 4602678819172646912 = some f2 else f2 = f1) ∧
  (FloatKind.f64.format.order f2 4598175219545276416 == some .gt) = b3 ∧ (if b3 then floatBits .sub .f64 4602678819172646912 f2 = some f3 else f3 = f2) ∧
  floatBits .mul .f64 f3 4618760256179416344 = some z ∧ floatBits .mul .f64 z z = some u ∧
  P 8 = 4607182418800017408 ∧ (∀ k, 1 ≤ k → k ≤ 8 → SinStep u (P k) k (P (k - 1))) ∧
  floatBits .mul .f64 z (P 0) = some q ∧ r = if b2 then Op.negFloat .f64 q else q

end Go.Proofs.Ytbggklhnnjikjaa
