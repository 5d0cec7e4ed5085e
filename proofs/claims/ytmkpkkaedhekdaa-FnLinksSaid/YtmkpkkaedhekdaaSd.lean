/- Valid walls, and on which side of a wall a point is: the program's side. -/
import Derived.Test.YtmkpkkaedhekdaaGri
import Derived.Test.YtmkpkkaedhekdaaPw
namespace Go.Proofs.Ytmkpkkaedhekdaa
open Go.RowKit Fl

def wallV (fx fy tx ty sx sy : Nat) : Value := .agg #[.complex .f32 fx fy, .complex .f32 tx ty, .complex .f32 sx sy]
/-- a valid wall, by its words -/
structure WallW (fx fy tx ty sx sy : Nat) : Prop where
  f : (fin32 fx && fin32 fy) = true
  t : (fin32 tx && fin32 ty) = true
  s : (fin32 sx && fin32 sy) = true
  pow : ∃ dx dy p, floatBits .sub .f32 tx fx = some dx ∧ floatBits .sub .f32 ty fy = some dy ∧ nan32 dx = false ∧ nan32 dy = false ∧ powF (dx, dy) = some p ∧ fin32 p = true ∧ pos32 p = true
theorem mulNumber_ok (a b r : Nat) (h : floatBits .mul .f32 a b = some r) (w : World) :
    Calls Try.prog 30 #[.float .f32 a, .float .f32 b] w fun e w' => e = .returned (.float .f32 r) ∧ w = w' := by
  have he := fun w => run_float_arith (P := Try.prog) w .mul 46 .f32 _ _ _ h
  clear h
  go_enter Try.func30, Try.ntmps30
  go_wp2
  go_ret
  exact ⟨rfl, rfl⟩
/-- the word of SideOf -/
def sideO (fx fy tx ty ax ay : Nat) : Option Nat :=
  (floatBits .sub .f32 tx fx).bind fun dx => (floatBits .sub .f32 ty fy).bind fun dy => (floatBits .sub .f32 ax fx).bind fun wx => (floatBits .sub .f32 ay fy).bind fun wy =>
    (floatBits .mul .f32 dx wy).bind fun p => (floatBits .mul .f32 dy wx).bind fun q => floatBits .sub .f32 p q
end Go.Proofs.Ytmkpkkaedhekdaa
