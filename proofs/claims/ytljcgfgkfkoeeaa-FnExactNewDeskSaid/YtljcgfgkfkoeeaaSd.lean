/- Valid walls, and on which side of a wall a point is: the program's side. -/
import Derived.Test.YtljcgfgkfkoeeaaGri
import Derived.Test.YtljcgfgkfkoeeaaPw
namespace Go.Proofs.Ytljcgfgkfkoeeaa
open Go.RowKit Fl

def wallV (fx fy tx ty sx sy : Nat) : Value := .agg #[.complex .f32 fx fy, .complex .f32 tx ty, .complex .f32 sx sy]
/-- a valid wall, by its words -/
structure WallW (fx fy tx ty sx sy : Nat) : Prop where
  f : (fin32 fx && fin32 fy) = true
  t : (fin32 tx && fin32 ty) = true
  s : (fin32 sx && fin32 sy) = true
  pow : ∃ dx dy p, floatBits .sub .f32 tx fx = some dx ∧ floatBits .sub .f32 ty fy = some dy ∧ nan32 dx = false ∧ nan32 dy = false ∧ powF (dx, dy) = some p ∧ fin32 p = true ∧ pos32 p = true
set_option maxHeartbeats 1600000 in
theorem validWall_yes (fx fy tx ty sx sy : Nat) (w : World) (h : WallW fx fy tx ty sx sy) :
    Calls Try.prog 41 #[wallV fx fy tx ty sx sy] w fun e w' => e = .returned (.bool true) ∧ Below w.heap.size w w' := by
  obtain ⟨dx, dy, p, h1, h2, h3, h4, h5, h6, h7⟩ := h.pow
  have HA := Lib.hid fun w => (show Calls Try.prog 39 #[.complex .f32 fx fy] w fun e w' => e = .returned (.bool true) ∧ Quiet w w' by rw [← h.f]; exact isFiniteComplex_any fx fy w)
  have HB := Lib.hid fun w => (show Calls Try.prog 39 #[.complex .f32 tx ty] w fun e w' => e = .returned (.bool true) ∧ Quiet w w' by rw [← h.t]; exact isFiniteComplex_any tx ty w)
  have HC := Lib.hid fun w => (show Calls Try.prog 39 #[.complex .f32 sx sy] w fun e w' => e = .returned (.bool true) ∧ Quiet w w' by rw [← h.s]; exact isFiniteComplex_any sx sy w)
  have HP := Lib.hid fun w => powF_of (dx, dy) p h3 h4 h5 w
  have HF := Lib.hid fun w => (show Calls Try.prog 42 #[.float .f32 p] w fun e w' => e = .returned (.bool true) ∧ Quiet w w' by rw [← h6]; exact isFinite_any p w)
  have hsub := fun w => run_csum (P := Try.prog) .sub (Or.inr rfl) 38 tx ty fx fy dx dy h1 h2 w
  have hE : (FloatKind.f32.format.order p 0 == some .gt) = true := h7
  have HBel := Lib.hid ((Below.refl w.heap.size w).alloc (Nat.le_refl _) (.cells #[.complex .f32 fx fy, .complex .f32 tx ty, .complex .f32 sx sy] 62))
  clear h h1 h2 h3 h4 h5 h6 h7
  unfold wallV
  go_enter Try.func41, Try.ntmps41
  go_wp2_with (first | (go_at_call 43; (with_reducible refine (HP.out _).mono ?_); rintro e w' ⟨rfl, rfl⟩) | (go_at_call 39; (with_reducible refine (HA.out _).mono ?_); rintro e w1 ⟨rfl, n1, rfl⟩) | (go_at_call 39; (with_reducible refine (HB.out _).mono ?_); rintro e w2 ⟨rfl, n2, rfl⟩) | (go_at_call 39; (with_reducible refine (HC.out _).mono ?_); rintro e w3 ⟨rfl, n3, rfl⟩) | (go_at_call 42; (with_reducible refine (HF.out _).mono ?_); rintro e w4 ⟨rfl, n4, rfl⟩))
  go_ret
  exact ⟨rfl, below_drewN HBel.out _⟩
theorem mulNumber_ok (a b r : Nat) (h : floatBits .mul .f32 a b = some r) (w : World) :
    Calls Try.prog 24 #[.float .f32 a, .float .f32 b] w fun e w' => e = .returned (.float .f32 r) ∧ w = w' := by
  have he := fun w => run_float_arith (P := Try.prog) w .mul 25 .f32 _ _ _ h
  clear h
  go_enter Try.func24, Try.ntmps24
  go_wp2
  go_ret
  exact ⟨rfl, rfl⟩
/-- the word of SideOf -/
def sideO (fx fy tx ty ax ay : Nat) : Option Nat :=
  (floatBits .sub .f32 tx fx).bind fun dx => (floatBits .sub .f32 ty fy).bind fun dy => (floatBits .sub .f32 ax fx).bind fun wx => (floatBits .sub .f32 ay fy).bind fun wy =>
    (floatBits .mul .f32 dx wy).bind fun p => (floatBits .mul .f32 dy wx).bind fun q => floatBits .sub .f32 p q
end Go.Proofs.Ytljcgfgkfkoeeaa
