/- Contracts of the logarithm. -/
import Derived.Test.YtpocclcijkopnaaTeng
import Derived.Lib.Hide
namespace Go.Proofs.Ytpocclcijkopnaa
open Go.RowKit Fl
open Ieee (Datum Toward)

set_option maxRecDepth 100000 in
set_option maxHeartbeats 6400000 in
theorem logOf_of (m : Nat) (E ef : Int) (r : Nat) (w : World) (hm : m ≠ 0) (hL : m.log2 ≤ 52) (hE : -400 ≤ E) (hE2 : E ≤ 400) (hf : -60 ≤ ef) (hf2 : ef ≤ 0)
    (g1 : CC ≤ VV m ef) (g2 : VV m ef < 2 * CC) (h : LogRel (XX m ef) (E - ef) r) :
    Calls Try.prog 120 #[.float .f64 (XX m E)] w fun e w' => e = .returned (.float .f64 r) ∧ w = w' := by
  obtain ⟨a, b, s, u, q1, q2, c, P, ha, hb, hs, hu, hP, hstep, hq1, hq2, hc, hl⟩ := h
  have ea := fun w => run_float_arith (P := Try.prog) w .sub 47 .f64 _ _ _ ha
  have eb := fun w => run_float_arith (P := Try.prog) w .add 47 .f64 _ _ _ hb
  have es := fun w => run_float_arith (P := Try.prog) w .quo 47 .f64 _ _ _ hs
  have eu := fun w => run_float_arith (P := Try.prog) w .mul 47 .f64 _ _ _ hu
  have eq1 := fun w => run_float_arith (P := Try.prog) w .mul 47 .f64 _ _ _ hq1
  have eq2 := fun w => run_float_arith (P := Try.prog) w .mul 47 .f64 _ _ _ hq2
  have ec := fun w => run_float_arith (P := Try.prog) w .mul 47 .f64 _ _ _ hc
  have el := fun w => run_float_arith (P := Try.prog) w .add 47 .f64 _ _ _ hl
  have HP := Lib.hid hP
  have HS := Lib.hid hstep
  have G1 := Lib.hid g1
  have G2 := Lib.hid g2
  clear ha hb hs hu hP hstep hq1 hq2 hc hl g1 g2
  go_enter Try.func120, Try.ntmps120
  go_wp2
  go_loop [0, 3] (fun x n => ∃ i c : Int, i + c = E ∧ -400 ≤ i ∧ i ≤ E ∧ (i = E ∨ ef ≤ i) ∧ n = .int .i64 c ∧ x = .float .f64 (XX m i)) (fun _ n => (900 - intOf n).toNat)
  case atStart => exact ⟨E, 0, by omega, hE, by omega, Or.inl rfl, rfl, rfl⟩
  case round =>
    obtain ⟨i, c, hic, hi1, hi2, hi3, rfl, rfl⟩ := hrel
    by_cases ht : 2 * CC ≤ VV m i
    · have hlt : ef < i := Int.not_le.1 fun hle => by have := VV_mono m i ef hle; have := G2.out; omega
      have t1 := (test15 m i hm hL (by omega) (by omega)).trans (decide_eq_true ht)
      have t2 := fun w => run_float_arith (P := Try.prog) w .quo 47 .f64 _ _ _ (half_XX m i hm hL (by omega) (by omega))
      clear ht
      go_wp2
      go_round
      case rel => exact ⟨i - 1, c + 1, by omega, by omega, by omega, Or.inr (by omega), by go_num, rfl⟩
      case measure => simp [intOf]; omega
    · have t1 := (test15 m i hm hL (by omega) (by omega)).trans (decide_eq_false ht)
      have hle : i ≤ ef := Int.not_lt.1 fun hlt => by
        have k1 := VV_succ m ef (by omega)
        have k2 := VV_mono m (ef + 1) i (by omega)
        have := G1.out; omega
      clear ht
      go_wp2
      go_loop [0, 3] (fun x n => ∃ i c : Int, i + c = E ∧ -400 ≤ i ∧ i ≤ ef ∧ n = .int .i64 c ∧ x = .float .f64 (XX m i)) (fun _ n => (900 + intOf n).toNat)
      case atStart => exact ⟨i, c, hic, hi1, hle, rfl, rfl⟩
      case round =>
        clear hic hi1 hi2 hi3 hle t1
        obtain ⟨i2, c2, hic, hi1, hi2, rfl, rfl⟩ := hrel
        by_cases ht : VV m i2 < CC
        · have hlt : i2 ≠ ef := fun he => by rw [he] at ht; have := G1.out; omega
          have t1 := (test075 m i2 hm hL (by omega) (by omega)).trans (decide_eq_true ht)
          have t2 := fun w => run_float_arith (P := Try.prog) w .mul 47 .f64 _ _ _ (double_XX m i2 hm hL (by omega) (by omega))
          clear ht
          go_wp2
          go_round
          case rel => exact ⟨i2 + 1, c2 - 1, by omega, by omega, by omega, by go_num, rfl⟩
          case measure => simp [intOf]; omega
        · have t1 := (test075 m i2 hm hL (by omega) (by omega)).trans (decide_eq_false ht)
          have hle : i2 = ef := Int.le_antisymm hi2 (Int.not_lt.1 fun hlt => by
            have k1 := VV_succ m i2 (by omega)
            have k2 := VV_mono m (i2 + 1) ef (by omega)
            have := G2.out; omega)
          subst hle
          have hc' : c2 = E - i2 := by omega
          subst hc'
          clear ht
          go_wp2
          go_loop [6, 7] (fun p k => ∃ j : Nat, j ≤ 13 ∧ k = .int .i64 (2 * (j : Int) - 1) ∧ p = .float .f64 (P j)) (fun _ k => (intOf k + 2).toNat)
          case atStart => exact ⟨13, by omega, rfl, by rw [HP.out]⟩
          case round =>
            obtain ⟨j, hj, rfl, rfl⟩ := hrel
            by_cases hj0 : 1 ≤ j
            · obtain ⟨a1, b1, s1, s2, s3⟩ := HS.out j hj0 hj
              have k1 := fun w => run_float_arith (P := Try.prog) w .quo 47 .f64 _ _ _ s1
              have k2 := fun w => run_float_arith (P := Try.prog) w .mul 47 .f64 _ _ _ s2
              have k3 := fun w => run_float_arith (P := Try.prog) w .add 47 .f64 _ _ _ s3
              clear s1 s2 s3
              have hj8 : j = 1 ∨ j = 2 ∨ j = 3 ∨ j = 4 ∨ j = 5 ∨ j = 6 ∨ j = 7 ∨ j = 8 ∨ j = 9 ∨ j = 10 ∨ j = 11 ∨ j = 12 ∨ j = 13 := by omega
              rcases hj8 with rfl | rfl | rfl | rfl | rfl | rfl | rfl | rfl | rfl | rfl | rfl | rfl | rfl
              all_goals
                first | rw [show floatOfInt .f64 ((2 * 1 - 1 : Nat) : Int) = floatOfInt .f64 1 from rfl] at k1 | rw [show floatOfInt .f64 ((2 * 2 - 1 : Nat) : Int) = floatOfInt .f64 3 from rfl] at k1 | rw [show floatOfInt .f64 ((2 * 3 - 1 : Nat) : Int) = floatOfInt .f64 5 from rfl] at k1 | rw [show floatOfInt .f64 ((2 * 4 - 1 : Nat) : Int) = floatOfInt .f64 7 from rfl] at k1 | rw [show floatOfInt .f64 ((2 * 5 - 1 : Nat) : Int) = floatOfInt .f64 9 from rfl] at k1 | rw [show floatOfInt .f64 ((2 * 6 - 1 : Nat) : Int) = floatOfInt .f64 11 from rfl] at k1 | rw [show floatOfInt .f64 ((2 * 7 - 1 : Nat) : Int) = floatOfInt .f64 13 from rfl] at k1 | rw [show floatOfInt .f64 ((2 * 8 - 1 : Nat) : Int) = floatOfInt .f64 15 from rfl] at k1 | rw [show floatOfInt .f64 ((2 * 9 - 1 : Nat) : Int) = floatOfInt .f64 17 from rfl] at k1 | rw [show floatOfInt .f64 ((2 * 10 - 1 : Nat) : Int) = floatOfInt .f64 19 from rfl] at k1 | rw [show floatOfInt .f64 ((2 * 11 - 1 : Nat) : Int) = floatOfInt .f64 21 from rfl] at k1 | rw [show floatOfInt .f64 ((2 * 12 - 1 : Nat) : Int) = floatOfInt .f64 23 from rfl] at k1 | rw [show floatOfInt .f64 ((2 * 13 - 1 : Nat) : Int) = floatOfInt .f64 25 from rfl] at k1
                clear hj hj0
                go_wp2
                go_round
                all_goals first | exact ⟨_, by decide, rfl, rfl⟩ | simp [intOf]
            · obtain rfl : j = 0 := by omega
              go_wp2
              go_ret
              exact ⟨rfl, rfl⟩

end Go.Proofs.Ytpocclcijkopnaa
