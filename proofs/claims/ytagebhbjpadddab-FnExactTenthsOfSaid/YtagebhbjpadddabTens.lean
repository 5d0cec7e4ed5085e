/- Contracts of the other logarithm. -/
import Derived.Test.YtagebhbjpadddabTenw
import Derived.Lib.Hide
namespace Go.Proofs.Ytagebhbjpadddab
open Go.RowKit Fl
open Ieee (Datum Toward)

theorem order_XX_zero (m : Nat) (e : Int) (hm : m ≠ 0) (hL : m.log2 ≤ 52) (he : -800 ≤ e) (he2 : e ≤ 800) : FloatKind.f64.format.order (XX m e) 0 = some .gt := by
  have h1 := read_XX m e hm hL (by omega) (by omega)
  have h2 : Ieee.double.read 0 = .number false 0 (-1074) := by decide
  have hp : 0 < m * 2 ^ (52 - m.log2) := Nat.mul_pos (Nat.pos_of_ne_zero hm) (Nat.two_pow_pos _)
  generalize m * 2 ^ (52 - m.log2) = A at *
  show Ieee.double.order _ _ = _
  unfold Ieee.Format.order
  rw [h1, h2]
  simp only [Datum.order, Ieee.signed, Bool.false_eq_true, if_false, shl_eq, Nat.zero_mul]
  have hq : 0 < A * 2 ^ ((e + m.log2 - 52) - min (e + m.log2 - 52) (-1074)).toNat := Nat.mul_pos hp (Nat.two_pow_pos _)
  generalize A * 2 ^ ((e + m.log2 - 52) - min (e + m.log2 - 52) (-1074)).toNat = B at *
  refine congrArg some ?_
  simp only [compare, compareOfLessAndEq]
  rw [if_neg (by simp), if_neg (by omega)]

theorem order_XX_self (m : Nat) (e : Int) (hm : m ≠ 0) (hL : m.log2 ≤ 52) (he : -800 ≤ e) (he2 : e ≤ 800) : FloatKind.f64.format.order (XX m e) (XX m e) = some .eq := by
  show Ieee.double.order _ _ = _
  rw [order_self, read_XX m e hm hL (by omega) (by omega)]
  rfl

theorem order_XX_max (m : Nat) (e : Int) (hm : m ≠ 0) (hL : m.log2 ≤ 52) (he : -800 ≤ e) (he2 : e ≤ 800) : (FloatKind.f64.format.order (XX m e) 9218868437227405311 == some .gt) = false := by
  have h := (order_pos _ _ _ _ _ _ (read_XX m e hm hL (by omega) (by omega)) read_max64 (by omega) (by decide)).2
  rw [VV_XX m e hL (by omega)] at h
  have hlt : VV m e < VV (2 ^ 53 - 1) 971 := by
    unfold VV
    obtain ⟨N, hN, hT⟩ : ∃ N, (971 + 1074 : Int).toNat = N + 53 ∧ (e + 1074).toNat ≤ N := ⟨1992, by rfl, by omega⟩
    rw [hN]
    have h1 := lt_two_log m
    have h2 : 2 ^ (m.log2 + 1) ≤ 2 ^ 53 := Nat.pow_le_pow_right (by decide) (by omega)
    have h3 : 2 ^ (e + 1074).toNat ≤ 2 ^ N := Nat.pow_le_pow_right (by decide) hT
    rw [Nat.pow_add]
    have h4 : m * 2 ^ (e + 1074).toNat ≤ m * 2 ^ N := Nat.mul_le_mul_left _ h3
    have h5 : m * 2 ^ N < 2 ^ 53 * 2 ^ N := Nat.mul_lt_mul_of_pos_right (by omega) (Nat.two_pow_pos _)
    have h6 : 1 * (2 ^ N * 2 ^ 53) ≤ (2 ^ 53 - 1) * (2 ^ N * 2 ^ 53) := Nat.mul_le_mul_right _ (by decide)
    have h7 : 2 ^ 53 * 2 ^ N = 2 ^ N * 2 ^ 53 := Nat.mul_comm _ _
    omega
  rw [decide_eq_false (by omega)] at h
  rw [Bool.or_eq_false_iff] at h
  exact h.1

set_option maxHeartbeats 400000 in
theorem isInf_no (y : Nat) (w : World) (h : (FloatKind.f64.format.order y 9218868437227405311 == some .gt) = false) :
    Calls Try.prog 36 #[.float .f64 y, .int .i64 1] w fun e w' => e = .returned (.bool false) ∧ w = w' := by
  go_enter Try.func36, Try.ntmps36
  go_wp2
  go_ret
  exact ⟨rfl, rfl⟩

set_option maxRecDepth 100000 in
set_option maxHeartbeats 6400000 in
theorem l01LogWide_of (m : Nat) (E ef : Int) (r : Nat) (w : World) (hm : m ≠ 0) (hL : m.log2 ≤ 52) (hE : -400 ≤ E) (hE2 : E ≤ 400) (hf : -60 ≤ ef) (hf2 : ef ≤ 0)
    (g1 : CC ≤ VV m ef) (g2 : VV m ef < 2 * CC) (h : LogRel (XX m ef) (E - ef) r) :
    Calls Try.prog 39 #[.float .f64 (XX m E)] w fun e w' => e = .returned (.float .f64 r) ∧ w = w' := by
  obtain ⟨a, b, s, u, q1, q2, c, P, ha, hb, hs, hu, hP, hstep, hq1, hq2, hc, hl⟩ := h
  have ea := fun w => run_float_arith (P := Try.prog) w .sub 22 .f64 _ _ _ ha
  have eb := fun w => run_float_arith (P := Try.prog) w .add 22 .f64 _ _ _ hb
  have es := fun w => run_float_arith (P := Try.prog) w .quo 22 .f64 _ _ _ hs
  have eu := fun w => run_float_arith (P := Try.prog) w .mul 22 .f64 _ _ _ hu
  have eq1 := fun w => run_float_arith (P := Try.prog) w .mul 22 .f64 _ _ _ hq1
  have eq2 := fun w => run_float_arith (P := Try.prog) w .mul 22 .f64 _ _ _ hq2
  have ec := fun w => run_float_arith (P := Try.prog) w .mul 22 .f64 _ _ _ hc
  have el := fun w => run_float_arith (P := Try.prog) w .add 22 .f64 _ _ _ hl
  have HP := Lib.hid hP
  have HS := Lib.hid hstep
  have G1 := Lib.hid g1
  have G2 := Lib.hid g2
  clear ha hb hs hu hP hstep hq1 hq2 hc hl g1 g2
  go_enter Try.func39, Try.ntmps39
  have o1 := order_XX_self m E hm hL (by omega) (by omega)
  have o2 := order_XX_zero m E hm hL (by omega) (by omega)
  have o3 := Lib.hid (order_XX_max m E hm hL (by omega) (by omega))
  go_wp2_with (go_at_call 36; go_loud (refine (isInf_no _ _ o3.out).mono ?_); rintro e w' ⟨rfl, rfl⟩)
  clear o1 o2 o3
  go_loop [0, 3] (fun x n => ∃ i c : Int, i + c = E ∧ -400 ≤ i ∧ i ≤ E ∧ (i = E ∨ ef ≤ i) ∧ n = .int .i64 c ∧ x = .float .f64 (XX m i)) (fun _ n => (900 - intOf n).toNat)
  case atStart => exact ⟨E, 0, by omega, hE, by omega, Or.inl rfl, rfl, rfl⟩
  case round =>
    obtain ⟨i, c, hic, hi1, hi2, hi3, rfl, rfl⟩ := hrel
    by_cases ht : 2 * CC ≤ VV m i
    · have hlt : ef < i := Int.not_le.1 fun hle => by have := VV_mono m i ef hle; have := G2.out; omega
      have t1 := (test15 m i hm hL (by omega) (by omega)).trans (decide_eq_true ht)
      have t2 := fun w => run_float_arith (P := Try.prog) w .quo 22 .f64 _ _ _ (half_XX m i hm hL (by omega) (by omega))
      clear ht
      go_wp2
      go_round
      case rel => exact ⟨i - 1, c + 1, by omega, by omega, by omega, Or.inr (by omega), by go_num, rfl⟩
      case measure => simp [intOf]; omega
    · have t1 := (test15 m i hm hL (by omega) (by omega)).trans (decide_eq_false ht)
      have hle : i ≤ ef := Int.not_lt.1 fun hlt => by
        have k1 := VV_succ m ef (by omega)
        have k2 := VV_mono m (ef + 1) i (by omega)
        have := G1.out; omega
      clear ht
      go_wp2
      go_loop [0, 3] (fun x n => ∃ i c : Int, i + c = E ∧ -400 ≤ i ∧ i ≤ ef ∧ n = .int .i64 c ∧ x = .float .f64 (XX m i)) (fun _ n => (900 + intOf n).toNat)
      case atStart => exact ⟨i, c, hic, hi1, hle, rfl, rfl⟩
      case round =>
        clear hic hi1 hi2 hi3 hle t1
        obtain ⟨i2, c2, hic, hi1, hi2, rfl, rfl⟩ := hrel
        by_cases ht : VV m i2 < CC
        · have hlt : i2 ≠ ef := fun he => by rw [he] at ht; have := G1.out; omega
          have t1 := (test075 m i2 hm hL (by omega) (by omega)).trans (decide_eq_true ht)
          have t2 := fun w => run_float_arith (P := Try.prog) w .mul 22 .f64 _ _ _ (double_XX m i2 hm hL (by omega) (by omega))
          clear ht
          go_wp2
          go_round
          case rel => exact ⟨i2 + 1, c2 - 1, by omega, by omega, by omega, by go_num, rfl⟩
          case measure => simp [intOf]; omega
        · have t1 := (test075 m i2 hm hL (by omega) (by omega)).trans (decide_eq_false ht)
          have hle : i2 = ef := Int.le_antisymm hi2 (Int.not_lt.1 fun hlt => by
            have k1 := VV_succ m i2 (by omega)
            have k2 := VV_mono m (i2 + 1) ef (by omega)
            have := G2.out; omega)
          subst hle
          have hc' : c2 = E - i2 := by omega
          subst hc'
          clear ht
          go_wp2
          go_loop [6, 7] (fun p k => ∃ j : Nat, j ≤ 13 ∧ k = .int .i64 (2 * (j : Int) - 1) ∧ p = .float .f64 (P j)) (fun _ k => (intOf k + 2).toNat)
          case atStart => exact ⟨13, by omega, rfl, by rw [HP.out]⟩
          case round =>
            obtain ⟨j, hj, rfl, rfl⟩ := hrel
            by_cases hj0 : 1 ≤ j
            · obtain ⟨a1, b1, s1, s2, s3⟩ := HS.out j hj0 hj
              have k1 := fun w => run_float_arith (P := Try.prog) w .quo 22 .f64 _ _ _ s1
              have k2 := fun w => run_float_arith (P := Try.prog) w .mul 22 .f64 _ _ _ s2
              have k3 := fun w => run_float_arith (P := Try.prog) w .add 22 .f64 _ _ _ s3
              clear s1 s2 s3
              have hj8 : j = 1 ∨ j = 2 ∨ j = 3 ∨ j = 4 ∨ j = 5 ∨ j = 6 ∨ j = 7 ∨ j = 8 ∨ j = 9 ∨ j = 10 ∨ j = 11 ∨ j = 12 ∨ j = 13 := by omega
              rcases hj8 with rfl | rfl | rfl | rfl | rfl | rfl | rfl | rfl | rfl | rfl | rfl | rfl | rfl
              all_goals
                first | rw [show floatOfInt .f64 ((2 * 1 - 1 : Nat) : Int) = floatOfInt .f64 1 from rfl] at k1 | rw [show floatOfInt .f64 ((2 * 2 - 1 : Nat) : Int) = floatOfInt .f64 3 from rfl] at k1 | rw [show floatOfInt .f64 ((2 * 3 - 1 : Nat) : Int) = floatOfInt .f64 5 from rfl] at k1 | rw [show floatOfInt .f64 ((2 * 4 - 1 : Nat) : Int) = floatOfInt .f64 7 from rfl] at k1 | rw [show floatOfInt .f64 ((2 * 5 - 1 : Nat) : Int) = floatOfInt .f64 9 from rfl] at k1 | rw [show floatOfInt .f64 ((2 * 6 - 1 : Nat) : Int) = floatOfInt .f64 11 from rfl] at k1 | rw [show floatOfInt .f64 ((2 * 7 - 1 : Nat) : Int) = floatOfInt .f64 13 from rfl] at k1 | rw [show floatOfInt .f64 ((2 * 8 - 1 : Nat) : Int) = floatOfInt .f64 15 from rfl] at k1 | rw [show floatOfInt .f64 ((2 * 9 - 1 : Nat) : Int) = floatOfInt .f64 17 from rfl] at k1 | rw [show floatOfInt .f64 ((2 * 10 - 1 : Nat) : Int) = floatOfInt .f64 19 from rfl] at k1 | rw [show floatOfInt .f64 ((2 * 11 - 1 : Nat) : Int) = floatOfInt .f64 21 from rfl] at k1 | rw [show floatOfInt .f64 ((2 * 12 - 1 : Nat) : Int) = floatOfInt .f64 23 from rfl] at k1 | rw [show floatOfInt .f64 ((2 * 13 - 1 : Nat) : Int) = floatOfInt .f64 25 from rfl] at k1
                clear hj hj0
                go_wp2
                go_round
                all_goals first | exact ⟨_, by decide, rfl, rfl⟩ | simp [intOf]
            · obtain rfl : j = 0 := by omega
              go_wp2
              go_ret
              exact ⟨rfl, rfl⟩

end Go.Proofs.Ytagebhbjpadddab
