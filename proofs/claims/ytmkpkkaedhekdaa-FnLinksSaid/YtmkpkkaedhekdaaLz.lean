/- The length of a difference that is nothing. -/
import Derived.Test.YtmkpkkaedhekdaaMo
namespace Go.Proofs.Ytmkpkkaedhekdaa
open Go.RowKit Fl

theorem zero_word {p : Int} {x : Nat} (h : Exa Ieee.single p x 0) : x = 0 ∨ x = 2147483648 := by
  rcases h.2 rfl with rfl | rfl
  · left; decide
  · right; decide
set_option maxHeartbeats 1600000 in
theorem longOf_zero (a b : Nat) (w : World) (ha : a = 0 ∨ a = 2147483648) (hb : b = 0 ∨ b = 2147483648) :
    Calls Try.prog 15 #[.complex .f32 a b] w fun e w' => e = .returned (.float .f32 0) ∧ w = w' := by
  have hn : nan32 a = false ∧ nan32 b = false := by rcases ha with rfl | rfl <;> rcases hb with rfl | rfl <;> decide
  have hx : floatBits .mul .f64 (wide a) (wide a) = some 0 := by rcases ha with rfl | rfl <;> decide +kernel
  have hy : floatBits .mul .f64 (wide b) (wide b) = some 0 := by rcases hb with rfl | rfl <;> decide +kernel
  have hs : floatBits .add .f64 0 0 = some 0 := by decide +kernel
  have hq : Ieee.double.sqrt 0 = some 0 := by decide +kernel
  have hr : floatToFloatBits .f64 0 .f32 = some 0 := by decide +kernel
  have HN := Lib.hid fun w => narrowNumber_ok 0 0 w hr
  have HQ := Lib.hid fun w => sqrt_some 0 0 w hq
  have HL : Hid (∀ w, Calls Try.prog 37 #[.complex .f32 a b] w fun e w' => e = .returned (.float .f64 0) ∧ w = w') := by
    intro w
    have c1 := fun w => run_convert_float_float (P := Try.prog) w 46 78 .f32 .f64 a (wide a) (by kernel_rfl) Try.underlying78 (wide_conv a hn.1)
    have c2 := fun w => run_convert_float_float (P := Try.prog) w 46 78 .f32 .f64 b (wide b) (by kernel_rfl) Try.underlying78 (wide_conv b hn.2)
    have e1 := fun w => run_float_arith (P := Try.prog) w .mul 78 .f64 _ _ _ hx
    have e2 := fun w => run_float_arith (P := Try.prog) w .mul 78 .f64 _ _ _ hy
    have e5 := fun w => run_float_arith (P := Try.prog) w .add 78 .f64 _ _ _ hs
    clear HN HQ ha hb hn hx hy hs hq hr
    go_enter Try.func37, Try.ntmps37
    go_wp2
    go_ret
    exact ⟨rfl, rfl⟩
  clear ha hb hn hx hy hs hq hr
  go_enter Try.func15, Try.ntmps15
  go_wp2_with (first | (go_at_call 37; (with_reducible refine (HL.out _).mono ?_); rintro e w' ⟨rfl, rfl⟩) | (go_at_call 36; (with_reducible refine (HQ.out _).mono ?_); rintro e w' ⟨rfl, rfl⟩) | (go_at_call 35; (with_reducible refine (HN.out _).mono ?_); rintro e w' ⟨rfl, rfl⟩))
  go_ret
  exact ⟨rfl, rfl⟩
end Go.Proofs.Ytmkpkkaedhekdaa
