/- Contracts of the other logarithm. -/
import Derived.Test.YtpocclcijkopnaaTenw
import Derived.Lib.Hide
namespace Go.Proofs.Ytpocclcijkopnaa
open Go.RowKit Fl
open Ieee (Datum Toward)

theorem order_XX_zero (m : Nat) (e : Int) (hm : m ≠ 0) (hL : m.log2 ≤ 52) (he : -800 ≤ e) (he2 : e ≤ 800) : FloatKind.f64.format.order (XX m e) 0 = some .gt := by
  have h1 := read_XX m e hm hL (by omega) (by omega)
  have h2 : Ieee.double.read 0 = .number false 0 (-1074) := by decide
  have hp : 0 < m * 2 ^ (52 - m.log2) := Nat.mul_pos (Nat.pos_of_ne_zero hm) (Nat.two_pow_pos _)
  generalize m * 2 ^ (52 - m.log2) = A at *
  show Ieee.double.order _ _ = _
  unfold Ieee.Format.order
  rw [h1, h2]
  simp only [Datum.order, Ieee.signed, Bool.false_eq_true, if_false, shl_eq, Nat.zero_mul]
  have hq : 0 < A * 2 ^ ((e + m.log2 - 52) - min (e + m.log2 - 52) (-1074)).toNat := Nat.mul_pos hp (Nat.two_pow_pos _)
  generalize A * 2 ^ ((e + m.log2 - 52) - min (e + m.log2 - 52) (-1074)).toNat = B at *
  refine congrArg some ?_
  simp only [compare, compareOfLessAndEq]
  rw [if_neg (by simp), if_neg (by omega)]

theorem order_XX_self (m : Nat) (e : Int) (hm : m ≠ 0) (hL : m.log2 ≤ 52) (he : -800 ≤ e) (he2 : e ≤ 800) : FloatKind.f64.format.order (XX m e) (XX m e) = some .eq := by
  show Ieee.double.order _ _ = _
  rw [order_self, read_XX m e hm hL (by omega) (by omega)]
  rfl

theorem order_XX_max (m : Nat) (e : Int) (hm : m ≠ 0) (hL : m.log2 ≤ 52) (he : -800 ≤ e) (he2 : e ≤ 800) : (FloatKind.f64.format.order (XX m e) 9218868437227405311 == some .gt) = false := by
  have h := (order_pos _ _ _ _ _ _ (read_XX m e hm hL (by omega) (by omega)) read_max64 (by omega) (by decide)).2
  rw [VV_XX m e hL (by omega)] at h
  have hlt : VV m e < VV (2 ^ 53 - 1) 971 := by
    unfold VV
    obtain ⟨N, hN, hT⟩ : ∃ N, (971 + 1074 : Int).toNat = N + 53 ∧ (e + 1074).toNat ≤ N := ⟨1992, by rfl, by omega⟩
    rw [hN]
    have h1 := lt_two_log m
    have h2 : 2 ^ (m.log2 + 1) ≤ 2 ^ 53 := Nat.pow_le_pow_right (by decide) (by omega)
    have h3 : 2 ^ (e + 1074).toNat ≤ 2 ^ N := Nat.pow_le_pow_right (by decide) hT
    rw [Nat.pow_add]
    have h4 : m * 2 ^ (e + 1074).toNat ≤ m * 2 ^ N := Nat.mul_le_mul_left _ h3
    have h5 : m * 2 ^ N < 2 ^ 53 * 2 ^ N := Nat.mul_lt_mul_of_pos_right (by omega) (Nat.two_pow_pos _)
    have h6 : 1 * (2 ^ N * 2 ^ 53) ≤ (2 ^ 53 - 1) * (2 ^ N * 2 ^ 53) := Nat.mul_le_mul_right _ (by decide)
    have h7 : 2 ^ 53 * 2 ^ N = 2 ^ N * 2 ^ 53 := Nat.mul_comm _ _
    omega
  rw [decide_eq_false (by omega)] at h
  rw [Bool.or_eq_false_iff] at h
  exact h.1

set_option maxHeartbeats 400000 in
theorem isInf_no (y : Nat) (w : World) (h : (FloatKind.f64.format.order y 9218868437227405311 == some .gt) = false) :
    Calls Try.prog 151 #[.float .f64 y, .int .i64 1] w fun e w' => e = .returned (.bool false) ∧ w = w' := by
  go_enter Try.func151, Try.ntmps151
  go_wp2
  go_ret
  exact ⟨rfl, rfl⟩


end Go.Proofs.Ytpocclcijkopnaa
