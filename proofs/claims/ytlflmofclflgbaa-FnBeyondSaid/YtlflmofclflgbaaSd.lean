/- Valid walls, and on which side of a wall a point is: the program's side. -/
import Derived.Test.YtlflmofclflgbaaGri
import Derived.Test.YtlflmofclflgbaaPw
namespace Go.Proofs.Ytlflmofclflgbaa
open Go.RowKit Fl

def wallV (fx fy tx ty sx sy : Nat) : Value := .agg #[.complex .f32 fx fy, .complex .f32 tx ty, .complex .f32 sx sy]
/-- a valid wall, by its words -/
structure WallW (fx fy tx ty sx sy : Nat) : Prop where
  f : (fin32 fx && fin32 fy) = true
  t : (fin32 tx && fin32 ty) = true
  s : (fin32 sx && fin32 sy) = true
  pow : ∃ dx dy p, floatBits .sub .f32 tx fx = some dx ∧ floatBits .sub .f32 ty fy = some dy ∧ nan32 dx = false ∧ nan32 dy = false ∧ powF (dx, dy) = some p ∧ fin32 p = true ∧ pos32 p = true
set_option maxHeartbeats 1600000 in
theorem validWall_yes (fx fy tx ty sx sy : Nat) (w : World) (h : WallW fx fy tx ty sx sy) :
    Calls Try.prog 132 #[wallV fx fy tx ty sx sy] w fun e w' => e = .returned (.bool true) ∧ Below w.heap.size w w' := by
  obtain ⟨dx, dy, p, h1, h2, h3, h4, h5, h6, h7⟩ := h.pow
  have HA := Lib.hid fun w => (show Calls Try.prog 91 #[.complex .f32 fx fy] w fun e w' => e = .returned (.bool true) ∧ Quiet w w' by rw [← h.f]; exact isFiniteComplex_any fx fy w)
  have HB := Lib.hid fun w => (show Calls Try.prog 91 #[.complex .f32 tx ty] w fun e w' => e = .returned (.bool true) ∧ Quiet w w' by rw [← h.t]; exact isFiniteComplex_any tx ty w)
  have HC := Lib.hid fun w => (show Calls Try.prog 91 #[.complex .f32 sx sy] w fun e w' => e = .returned (.bool true) ∧ Quiet w w' by rw [← h.s]; exact isFiniteComplex_any sx sy w)
  have HP := Lib.hid fun w => powF_of (dx, dy) p h3 h4 h5 w
  have HF := Lib.hid fun w => (show Calls Try.prog 111 #[.float .f32 p] w fun e w' => e = .returned (.bool true) ∧ Quiet w w' by rw [← h6]; exact isFinite_any p w)
  have hsub := fun w => run_csum (P := Try.prog) .sub (Or.inr rfl) 31 tx ty fx fy dx dy h1 h2 w
  have hE : (FloatKind.f32.format.order p 0 == some .gt) = true := h7
  have HBel := Lib.hid ((Below.refl w.heap.size w).alloc (Nat.le_refl _) (.cells #[.complex .f32 fx fy, .complex .f32 tx ty, .complex .f32 sx sy] 66))
  clear h h1 h2 h3 h4 h5 h6 h7
  unfold wallV
  go_enter Try.func132, Try.ntmps132
  go_wp2_with (first | (go_at_call 186; (with_reducible refine (HP.out _).mono ?_); rintro e w' ⟨rfl, rfl⟩) | (go_at_call 91; (with_reducible refine (HA.out _).mono ?_); rintro e w1 ⟨rfl, n1, rfl⟩) | (go_at_call 91; (with_reducible refine (HB.out _).mono ?_); rintro e w2 ⟨rfl, n2, rfl⟩) | (go_at_call 91; (with_reducible refine (HC.out _).mono ?_); rintro e w3 ⟨rfl, n3, rfl⟩) | (go_at_call 111; (with_reducible refine (HF.out _).mono ?_); rintro e w4 ⟨rfl, n4, rfl⟩))
  go_ret
  exact ⟨rfl, below_drewN HBel.out _⟩
theorem mulNumber_ok (a b r : Nat) (h : floatBits .mul .f32 a b = some r) (w : World) :
    Calls Try.prog 131 #[.float .f32 a, .float .f32 b] w fun e w' => e = .returned (.float .f32 r) ∧ w = w' := by
  have he := fun w => run_float_arith (P := Try.prog) w .mul 35 .f32 _ _ _ h
  clear h
  go_enter Try.func131, Try.ntmps131
  go_wp2
  go_ret
  exact ⟨rfl, rfl⟩
theorem finiteNumber_yes (a : Nat) (h : fin32 a = true) (w : World) :
    Calls Try.prog 98 #[.float .f32 a] w fun e w' => e = .returned (.tuple #[.float .f32 a, .bool true]) ∧ Quiet w w' := by
  have HF := Lib.hid fun w => (show Calls Try.prog 111 #[.float .f32 a] w fun e w' => e = .returned (.bool true) ∧ Quiet w w' by rw [← h]; exact isFinite_any a w)
  clear h
  go_enter Try.func98, Try.ntmps98
  go_wp2_with (go_at_call 111; (with_reducible refine (HF.out _).mono ?_); rintro e w4 ⟨rfl, n4, rfl⟩)
  go_ret2
  exact ⟨rfl, n4, rfl⟩
/-- the word of SideOf -/
def sideO (fx fy tx ty ax ay : Nat) : Option Nat :=
  (floatBits .sub .f32 tx fx).bind fun dx => (floatBits .sub .f32 ty fy).bind fun dy => (floatBits .sub .f32 ax fx).bind fun wx => (floatBits .sub .f32 ay fy).bind fun wy =>
    (floatBits .mul .f32 dx wy).bind fun p => (floatBits .mul .f32 dy wx).bind fun q => floatBits .sub .f32 p q
set_option maxHeartbeats 1600000 in
theorem sideOf_yes (fx fy tx ty sx sy ax ay r : Nat) (w : World) (h : WallW fx fy tx ty sx sy) (ha : (fin32 ax && fin32 ay) = true) (hs : sideO fx fy tx ty ax ay = some r) (hr : fin32 r = true) :
    Calls Try.prog 42 #[wallV fx fy tx ty sx sy, .complex .f32 ax ay] w fun e w' => e = .returned (.tuple #[.float .f32 r, .bool true]) ∧ Below w.heap.size w w' := by
  have HV := Lib.hid fun w => validWall_yes fx fy tx ty sx sy w h
  have HA := Lib.hid fun w => (show Calls Try.prog 91 #[.complex .f32 ax ay] w fun e w' => e = .returned (.bool true) ∧ Quiet w w' by rw [← ha]; exact isFiniteComplex_any ax ay w)
  obtain ⟨dx, h1, hs⟩ := Option.bind_eq_some_iff.1 hs
  obtain ⟨dy, h2, hs⟩ := Option.bind_eq_some_iff.1 hs
  obtain ⟨wx, h3, hs⟩ := Option.bind_eq_some_iff.1 hs
  obtain ⟨wy, h4, hs⟩ := Option.bind_eq_some_iff.1 hs
  obtain ⟨p, h5, hs⟩ := Option.bind_eq_some_iff.1 hs
  obtain ⟨q, h6, hs⟩ := Option.bind_eq_some_iff.1 hs
  have s1 := fun w => run_csum (P := Try.prog) .sub (Or.inr rfl) 31 tx ty fx fy dx dy h1 h2 w
  have s2 := fun w => run_csum (P := Try.prog) .sub (Or.inr rfl) 31 ax ay fx fy wx wy h3 h4 w
  have s3 := fun w => run_float_arith (P := Try.prog) w .sub 35 .f32 _ _ _ hs
  have HP := Lib.hid fun w => mulNumber_ok dx wy p h5 w
  have HQ := Lib.hid fun w => mulNumber_ok dy wx q h6 w
  have HF := Lib.hid fun w => finiteNumber_yes r hr w
  have HBel := Lib.hid ((Below.refl w.heap.size w).alloc (Nat.le_refl _) (.cells #[.complex .f32 fx fy, .complex .f32 tx ty, .complex .f32 sx sy] 66))
  have B := Lib.hid (blk_new w 66 #[.complex .f32 fx fy, .complex .f32 tx ty, .complex .f32 sx sy] _ rfl)
  clear h ha hr hs h1 h2 h3 h4 h5 h6
  unfold wallV at HV ⊢
  go_enter Try.func42, Try.ntmps42
  go_wp2_with (first | (go_at_call 132; (with_reducible refine (HV.out _).mono ?_); rintro e w1 ⟨rfl, hb⟩; have c0 := (blk_next B.out hb).cell 0; have c1 := (blk_next B.out hb).cell 1; have c2 := (blk_next B.out hb).cell 2; have HB1 := Lib.hid (below_next HBel.out hb); clear hb) | (go_at_call 91; (with_reducible refine (HA.out _).mono ?_); rintro e w2 ⟨rfl, n2, rfl⟩))
  go_quiet (fail)
  go_wp2_with (first | (go_at_call 131; (with_reducible refine (HP.out _).mono ?_); rintro e w' ⟨rfl, rfl⟩) | (go_at_call 131; (with_reducible refine (HQ.out _).mono ?_); rintro e w' ⟨rfl, rfl⟩) | (go_at_call 98; (with_reducible refine (HF.out _).mono ?_); rintro e w3 ⟨rfl, n3, rfl⟩))
  go_ret2
  exact ⟨rfl, below_drewN HB1.out _⟩
end Go.Proofs.Ytlflmofclflgbaa
