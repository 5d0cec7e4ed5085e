/- The desk's parts that hold nothing or only numbers: empty lists of bonds, rules compared. -/
import Derived.Test.YtljcgfgkfkoeeaaWa
namespace Go.Proofs.Ytljcgfgkfkoeeaa
open Go.RowKit Fl

theorem eqBondS_none (b : Nat) (w : World) : Calls Try.prog 16 #[.slice none 0 0, .slice (some ⟨b, 0, none⟩) 0 0] w fun e w' => e = .returned (.bool true) ∧ w = w' := by
  go_enter Try.func16, Try.ntmps16
  go_wp2
  refine wp_loop_rounds 1 ?_
  rw [rounds_succ]
  go_wp2
  go_ret
  exact ⟨rfl, rfl⟩
theorem markBondS_none (k : Nat) (w : World) (_hk : k < 200) : Calls Try.prog 19 #[.slice none 0 0, .int .i64 k] w fun e w' => e = .returned (.int .i64 k) ∧ w = w' := by
  go_enter Try.func19, Try.ntmps19
  go_wp2
  refine wp_loop_rounds 1 ?_
  rw [rounds_succ]
  go_wp2
  go_ret
  exact ⟨rfl, rfl⟩
theorem heldBondS_none (k : Nat) (w : World) (_hk : k < 200) : Calls Try.prog 22 #[.slice none 0 0, .int .i64 k] w fun e w' => e = .returned (.int .i64 k) ∧ w = w' := by
  go_enter Try.func22, Try.ntmps22
  go_wp2
  refine wp_loop_rounds 1 ?_
  rw [rounds_succ]
  go_wp2
  go_ret
  exact ⟨rfl, rfl⟩
set_option maxHeartbeats 1600000 in
theorem eqRules_nums (a b c d : Nat) (w : World) (h1 : nan32 a = false) (h2 : nan32 b = false) (h3 : nan32 c = false) (h4 : nan32 d = false) :
    Calls Try.prog 14 #[.agg #[.float .f32 a, .float .f32 b, .float .f32 c, .float .f32 d], .agg #[.float .f32 a, .float .f32 b, .float .f32 c, .float .f32 d]] w fun e w' => e = .returned (.bool true) ∧ Below w.heap.size w w' := by
  have w1 := fun w => run_convert_float_float (P := Try.prog) w 25 59 .f32 .f64 a (wide a) (by kernel_rfl) Try.underlying59 (wide_conv a h1)
  have w2 := fun w => run_convert_float_float (P := Try.prog) w 25 59 .f32 .f64 b (wide b) (by kernel_rfl) Try.underlying59 (wide_conv b h2)
  have w3 := fun w => run_convert_float_float (P := Try.prog) w 25 59 .f32 .f64 c (wide c) (by kernel_rfl) Try.underlying59 (wide_conv c h3)
  have w4 := fun w => run_convert_float_float (P := Try.prog) w 25 59 .f32 .f64 d (wide d) (by kernel_rfl) Try.underlying59 (wide_conv d h4)
  have F1 := Lib.hid fun w => sameFloat_self (wide a) w (nan_wide a h1)
  have F2 := Lib.hid fun w => sameFloat_self (wide b) w (nan_wide b h2)
  have F3 := Lib.hid fun w => sameFloat_self (wide c) w (nan_wide c h3)
  have F4 := Lib.hid fun w => sameFloat_self (wide d) w (nan_wide d h4)
  clear h1 h2 h3 h4
  go_enter Try.func14, Try.ntmps14
  go_wp2_with (first | (go_at_call 28; ((with_reducible refine (F1.out _).mono ?_); rintro e w' ⟨rfl, rfl⟩)) | (go_at_call 28; ((with_reducible refine (F2.out _).mono ?_); rintro e w' ⟨rfl, rfl⟩)) | (go_at_call 28; ((with_reducible refine (F3.out _).mono ?_); rintro e w' ⟨rfl, rfl⟩)) | (go_at_call 28; ((with_reducible refine (F4.out _).mono ?_); rintro e w' ⟨rfl, rfl⟩)))
  go_ret
  exact ⟨rfl, ((Below.refl _ _).alloc (Nat.le_refl _) _).alloc (by simp) _⟩
end Go.Proofs.Ytljcgfgkfkoeeaa
