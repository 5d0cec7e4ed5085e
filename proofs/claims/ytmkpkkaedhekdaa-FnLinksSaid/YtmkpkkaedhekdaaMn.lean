/- Laws of the walk: the lesser and the greater of two 32-bit numbers; products of complex numbers by Go's own operator. -/
import Derived.Test.YtmkpkkaedhekdaaPw
namespace Go.Proofs.Ytmkpkkaedhekdaa
open Go.RowKit Fl

/-- the lesser of two numbers, by their order -/
def minW (x y : Nat) : Nat := match FloatKind.f32.format.order x y with
  | some .lt => x
  | some .gt => y
  | _ => if (FloatKind.f32.decode x).neg then x else y
theorem run_min_float {P : Program} (ts : Array TypeId) (t : TypeId) (x y : Nat) (w : World) (h : (FloatKind.f32.format.order x y).isSome = true) :
    (Builtin.min_ ts t #[.float .f32 x, .float .f32 y]).run P w = .ok (.float .f32 (minW x y)) w := by
  obtain ⟨o, ho⟩ := Option.isSome_iff_exists.1 h
  unfold minW
  cases o <;> simp [Builtin.min_, Builtin.min2, ho]
/-- the greater of two numbers, by their order -/
def maxW (x y : Nat) : Nat := match FloatKind.f32.format.order x y with
  | some .lt => y
  | some .gt => x
  | _ => if (FloatKind.f32.decode x).neg then y else x
theorem run_max_float {P : Program} (ts : Array TypeId) (t : TypeId) (x y : Nat) (w : World) (h : (FloatKind.f32.format.order x y).isSome = true) :
    (Builtin.max_ ts t #[.float .f32 x, .float .f32 y]).run P w = .ok (.float .f32 (maxW x y)) w := by
  obtain ⟨o, ho⟩ := Option.isSome_iff_exists.1 h
  unfold maxW
  cases o <;> simp [Builtin.max_, Builtin.max2, ho]
theorem run_conv {P : Program} {s k : FloatKind} {x r : Nat} (w : World) (hne : s ≠ k) (h : floatToFloatBits s x k = some r) : (Op.Complex.conv s x k).run P w = .ok r w := by
  simp [Op.Complex.conv, hne, run_floatToFloat w h]
/-- a product of two complex numbers by Go's own operator -/
theorem run_cmul32 {P : Program} (t : TypeId) (a b c d ac bd ad bc re im R I : Nat) (w : World) (na : nan32 a = false) (nb : nan32 b = false) (nc : nan32 c = false) (nd : nan32 d = false)
    (h1 : floatBits .mul .f64 (wide a) (wide c) = some ac) (h2 : floatBits .mul .f64 (wide b) (wide d) = some bd) (h3 : floatBits .mul .f64 (wide a) (wide d) = some ad) (h4 : floatBits .mul .f64 (wide b) (wide c) = some bc)
    (h5 : floatBits .sub .f64 ac bd = some re) (h6 : floatBits .add .f64 ad bc = some im) (h7 : floatToFloatBits .f64 re .f32 = some R) (h8 : floatToFloatBits .f64 im .f32 = some I) :
    (binOp .mul t (.complex .f32 a b) (.complex .f32 c d)).run P w = .ok (.complex .f32 R I) w := by
  have e1 := fun w => run_conv (P := P) w (by decide) (wide_conv a na)
  have e2 := fun w => run_conv (P := P) w (by decide) (wide_conv b nb)
  have e3 := fun w => run_conv (P := P) w (by decide) (wide_conv c nc)
  have e4 := fun w => run_conv (P := P) w (by decide) (wide_conv d nd)
  have e5 := fun w => run_conv (P := P) w (by decide) h7
  have e6 := fun w => run_conv (P := P) w (by decide) h8
  have g1 := fun w => run_carith (P := P) w h1
  have g2 := fun w => run_carith (P := P) w h2
  have g3 := fun w => run_carith (P := P) w h3
  have g4 := fun w => run_carith (P := P) w h4
  have g5 := fun w => run_carith (P := P) w h5
  have g6 := fun w => run_carith (P := P) w h6
  simp [binOp, Op.complexOp, e1, e2, e3, e4, e5, e6, Op.Complex.product, Op.Complex.mul, Op.Complex.sub, Op.Complex.add, g1, g2, g3, g4, g5, g6]
end Go.Proofs.Ytmkpkkaedhekdaa
