/- The logarithm's chain: halving and doubling are exact, and what comes of it is small. Plain facts. -/
import Derived.Test.YtpocclcijkopnaaEx
import Derived.Test.YtpocclcijkopnaaAngf
namespace Go.Proofs.Ytpocclcijkopnaa
open Go.RowKit Fl
open Ieee (Datum Toward)

/-- the number m 2 ^ e -/
def XX (m : Nat) (e : Int) : Nat := Ieee.double.nearest false m e

theorem read_XX (m : Nat) (e : Int) (hm : m ≠ 0) (hL : m.log2 ≤ 52) (he : -900 ≤ e) (he2 : e ≤ 900) :
    Ieee.double.read (XX m e) = .number false (m * 2 ^ (52 - m.log2)) (e + m.log2 - 52) := by
  have h1 := read_nearest_exact Ieee.double false m e hm hL (by rw [lp64]; omega) (by rw [lp64]; show (e + (m.log2 : Int) - 52 - -1074).toNat + 2 ≤ 2047; omega)
  have h2 : lastPlace Ieee.double m e = e + m.log2 - 52 := by unfold lastPlace; rw [lp64]; show max (e + (m.log2 : Int) - 52) (-1074) = _; omega
  have h3 : (e - (e + (m.log2 : Int) - 52)).toNat = 52 - m.log2 := by omega
  rw [h2, h3, shl_eq] at h1
  exact h1

theorem read_two : Ieee.double.read 4611686018427387904 = .number false (2 ^ 52) (-51) := by decide

theorem half_XX (m : Nat) (e : Int) (hm : m ≠ 0) (hL : m.log2 ≤ 52) (he : -800 ≤ e) (he2 : e ≤ 800) : floatBits .quo .f64 (XX m e) 4611686018427387904 = some (XX m (e - 1)) := by
  have h0 : floatBits .quo .f64 (XX m e) 4611686018427387904 = ((Datum.number false (m * 2 ^ (52 - m.log2)) (e + m.log2 - 52)).quotient 54 (.number false (2 ^ 52) (-51))).map Ieee.double.write := by
    show ((Ieee.double.read _).quotient (52 + 2) (Ieee.double.read _)).map Ieee.double.write = _
    rw [read_XX m e hm hL (by omega) (by omega), read_two]
  rw [h0]
  have hl : (m * 2 ^ (52 - m.log2)).log2 = 52 := by rw [log2_shift m _ hm]; omega
  have e1 : m * 2 ^ (52 - m.log2 + 3) = m * 2 ^ (52 - m.log2) * 8 := by rw [Nat.pow_add, ← Nat.mul_assoc]
  have hw : Ieee.double.nearest false (m * 2 ^ (52 - m.log2) * 8) (e + m.log2 - 52 - -51 - ((54 : Nat) : Int) - 1) = XX m (e - 1) := by
    rw [← e1, nearest_shift Ieee.double false m _ _ hm hL (by rw [lp64]; omega)]
    unfold XX
    exact congrArg (fun p => Ieee.double.nearest false m p) (by omega)
  generalize m * 2 ^ (52 - m.log2) = A at *
  have h1 : (Datum.number false A (e + m.log2 - 52)).quotient 54 (.number false (2 ^ 52) (-51)) = some (.number false (A * 8) (e + m.log2 - 52 - -51 - ((54 : Nat) : Int) - 1)) := by
    have hn : ¬ ((2 : Nat) ^ 52 = 0) := by decide
    have hl2 : ((2 : Nat) ^ 52).log2 = 52 := by decide
    have h54 : 54 + 52 - 52 = 54 := rfl
    simp only [Datum.quotient, if_neg hn, hl, hl2, h54]
    have hd : A <<< 54 / 2 ^ 52 = A * 4 := by rw [shl_eq]; omega
    have hmo : (A <<< 54 % 2 ^ 52 != 0) = false := by
      rw [shl_eq]
      have : A * 2 ^ 54 % 2 ^ 52 = 0 := by omega
      rw [this]; rfl
    rw [hd, hmo]
    have : 2 * (A * 4) + Bool.toNat false = A * 8 := by simp only [Bool.toNat_false]; omega
    rw [this]; rfl
  rw [h1]
  exact congrArg some hw

theorem double_XX (m : Nat) (e : Int) (hm : m ≠ 0) (hL : m.log2 ≤ 52) (he : -800 ≤ e) (he2 : e ≤ 800) : floatBits .mul .f64 (XX m e) 4611686018427387904 = some (XX m (e + 1)) := by
  have h0 : floatBits .mul .f64 (XX m e) 4611686018427387904 = ((Datum.number false (m * 2 ^ (52 - m.log2)) (e + m.log2 - 52)).product (.number false (2 ^ 52) (-51))).map Ieee.double.write := by
    show ((Ieee.double.read _).product (Ieee.double.read _)).map Ieee.double.write = _
    rw [read_XX m e hm hL (by omega) (by omega), read_two]
  rw [h0]
  have h1 : (Datum.number false (m * 2 ^ (52 - m.log2)) (e + m.log2 - 52)).product (.number false (2 ^ 52) (-51)) = some (.number false (m * 2 ^ (52 - m.log2) * 2 ^ 52) (e + m.log2 - 52 + -51)) := rfl
  rw [h1]
  refine congrArg some ?_
  show Ieee.double.nearest false (m * 2 ^ (52 - m.log2) * 2 ^ 52) (e + m.log2 - 52 + -51) = _
  rw [Nat.mul_assoc, ← Nat.pow_add, nearest_shift Ieee.double false m _ _ hm hL (by rw [lp64]; omega)]
  unfold XX
  exact congrArg (fun p => Ieee.double.nearest false m p) (by omega)

/-- the value, in units of 2 ^ -1074 -/
def VV (m : Nat) (e : Int) : Nat := m * 2 ^ (e + 1074).toNat
theorem VV_succ (m : Nat) (e : Int) (he : -1074 ≤ e) : VV m (e + 1) = 2 * VV m e := by
  unfold VV
  rw [show (e + 1 + 1074).toNat = (e + 1074).toNat + 1 by omega, Nat.pow_succ, ← Nat.mul_assoc, Nat.mul_comm]
theorem VV_mono (m : Nat) (e e' : Int) (h : e ≤ e') : VV m e ≤ VV m e' := Nat.mul_le_mul_left _ (Nat.pow_le_pow_right (by decide) (by omega))
/-- three quarters -/
def CE : Nat := 1021
theorem CE_eq : CE = 1021 := rfl
def CC : Nat := 3 * 2 ^ 51 * 2 ^ CE

theorem read_15 : Ieee.double.read 4609434218613702656 = .number false (3 * 2 ^ 51) (-52) := by decide
theorem read_075 : Ieee.double.read 4604930618986332160 = .number false (3 * 2 ^ 51) (-53) := by decide

theorem cmp_lt1 (a b : Int) : (some (compare a b) == some Ordering.lt) = decide (a < b) := by
  rw [Bool.eq_iff_iff]
  simp only [beq_iff_eq, Option.some.injEq, decide_eq_true_eq, compare, compareOfLessAndEq]
  split
  · simp; assumption
  · split <;> simp <;> omega

/-- two positive numbers are compared by their values -/
theorem order_pos (x y : Nat) (m n : Nat) (e f : Int) (hx : Ieee.double.read x = .number false m e) (hy : Ieee.double.read y = .number false n f) (he : -1074 ≤ e) (hf : -1074 ≤ f) :
    (FloatKind.f64.format.order x y == some .lt) = decide (VV m e < VV n f) ∧ (FloatKind.f64.format.order x y == some .gt || FloatKind.f64.format.order x y == some .eq) = decide (VV n f ≤ VV m e) := by
  have ho : FloatKind.f64.format.order x y = some (compare (Ieee.signed false m (e - min e f).toNat) (Ieee.signed false n (f - min e f).toNat)) := by
    show Ieee.double.order _ _ = _
    unfold Ieee.Format.order; rw [hx, hy]; rfl
  have e1 : (e + 1074).toNat = (e - min e f).toNat + (min e f + 1074).toNat := by omega
  have e2 : (f + 1074).toNat = (f - min e f).toNat + (min e f + 1074).toNat := by omega
  have hp := Nat.two_pow_pos (min e f + 1074).toNat
  rw [ho, cmp_lt1, cmp_ge]
  unfold VV
  rw [e1, e2, Nat.pow_add, Nat.pow_add, ← Nat.mul_assoc, ← Nat.mul_assoc]
  simp only [Ieee.signed, Bool.false_eq_true, if_false, shl_eq, Int.ofNat_lt, Int.ofNat_le]
  constructor
  · rw [Bool.eq_iff_iff, decide_eq_true_eq, decide_eq_true_eq]
    exact ⟨fun h => Nat.mul_lt_mul_of_pos_right h hp, fun h => Nat.lt_of_mul_lt_mul_right h⟩
  · rw [Bool.eq_iff_iff, decide_eq_true_eq, decide_eq_true_eq]
    exact ⟨fun h => Nat.mul_le_mul_right _ h, fun h => Nat.le_of_mul_le_mul_right h hp⟩

theorem VV_XX (m : Nat) (e : Int) (hL : m.log2 ≤ 52) (he : -900 ≤ e) : VV (m * 2 ^ (52 - m.log2)) (e + m.log2 - 52) = VV m e := by
  unfold VV
  rw [Nat.mul_assoc, ← Nat.pow_add]
  congr 2
  omega

theorem test15 (m : Nat) (e : Int) (hm : m ≠ 0) (hL : m.log2 ≤ 52) (he : -800 ≤ e) (he2 : e ≤ 800) :
    (FloatKind.f64.format.order (XX m e) 4609434218613702656 == some .gt || FloatKind.f64.format.order (XX m e) 4609434218613702656 == some .eq) = decide (2 * CC ≤ VV m e) := by
  have h := (order_pos _ _ _ _ _ _ (read_XX m e hm hL (by omega) (by omega)) read_15 (by omega) (by decide)).2
  rw [VV_XX m e hL (by omega)] at h
  rw [h]
  have : VV (3 * 2 ^ 51) (-52) = 2 * CC := by
    unfold VV CC
    rw [show (-52 + 1074 : Int).toNat = CE + 1 by rw [CE_eq]; rfl, Nat.pow_add 2 CE 1, Nat.pow_one, Nat.mul_comm (2 ^ CE) 2, Nat.mul_left_comm]
  rw [this]
theorem test075 (m : Nat) (e : Int) (hm : m ≠ 0) (hL : m.log2 ≤ 52) (he : -800 ≤ e) (he2 : e ≤ 800) :
    (FloatKind.f64.format.order (XX m e) 4604930618986332160 == some .lt) = decide (VV m e < CC) := by
  have h := (order_pos _ _ _ _ _ _ (read_XX m e hm hL (by omega) (by omega)) read_075 (by omega) (by decide)).1
  rw [VV_XX m e hL (by omega)] at h
  rw [h]
  have : VV (3 * 2 ^ 51) (-53) = CC := by
    unfold VV CC
    rw [show (-53 + 1074 : Int).toNat = CE by rw [CE_eq]; rfl]
  rw [this]

/-- where the loops end -/
theorem end_e (m : Nat) (hm : m ≠ 0) (hL : m.log2 ≤ 52) : ∃ ef : Int, -60 ≤ ef ∧ ef ≤ 0 ∧ CC ≤ VV m ef ∧ VV m ef < 2 * CC := by
  have h1 := two_log_le m hm
  have h2 := lt_two_log m
  have hC : CC = 3 * 2 ^ (51 + CE) := by unfold CC; rw [Nat.mul_assoc, ← Nat.pow_add]
  rw [Nat.pow_succ] at h2
  by_cases h : 3 * 2 ^ m.log2 ≤ 2 * m
  · obtain ⟨N, n1, n2⟩ : ∃ N, (-1 - (m.log2 : Int) + 1074).toNat = 1 + N ∧ 51 + CE = m.log2 + N := ⟨(-1 - (m.log2 : Int) + 1074).toNat - 1, by omega, by rw [CE_eq]; omega⟩
    have hp := Nat.two_pow_pos N
    refine ⟨-1 - m.log2, by omega, by omega, ?_, ?_⟩
    · unfold VV
      rw [hC, n1, n2, Nat.pow_add, Nat.pow_add 2 1, ← Nat.mul_assoc, ← Nat.mul_assoc]
      exact Nat.mul_le_mul_right _ (by omega)
    · unfold VV
      rw [hC, n1, n2, Nat.pow_add, Nat.pow_add 2 m.log2, ← Nat.mul_assoc, ← Nat.mul_assoc, ← Nat.mul_assoc]
      exact Nat.mul_lt_mul_of_pos_right (by omega) hp
  · obtain ⟨N, n1, n2⟩ : ∃ N, (-(m.log2 : Int) + 1074).toNat = 2 + N ∧ 51 + CE = m.log2 + N := ⟨(-(m.log2 : Int) + 1074).toNat - 2, by omega, by rw [CE_eq]; omega⟩
    have hp := Nat.two_pow_pos N
    refine ⟨-m.log2, by omega, by omega, ?_, ?_⟩
    · unfold VV
      rw [hC, n1, n2, Nat.pow_add, Nat.pow_add 2 2, ← Nat.mul_assoc, ← Nat.mul_assoc]
      exact Nat.mul_le_mul_right _ (by omega)
    · unfold VV
      rw [hC, n1, n2, Nat.pow_add, Nat.pow_add 2 m.log2, ← Nat.mul_assoc, ← Nat.mul_assoc, ← Nat.mul_assoc]
      exact Nat.mul_lt_mul_of_pos_right (by omega) hp

/-- one round of the sum: q becomes 1 / k + u q -/
def LogStep (u p k p' : Nat) : Prop := ∃ a b, floatBits .quo .f64 4607182418800017408 (floatOfInt .f64 k) = some a ∧ floatBits .mul .f64 u p = some b ∧ floatBits .add .f64 a b = some p'
theorem bd_one_at (K : Nat) (hK : K = 1074) : Bd 4607182418800017408 K := ⟨false, 2 ^ 52, -52, by decide, by decide, by rw [← Nat.pow_add]; exact Nat.pow_le_pow_right (by decide) (by rw [hK]; decide)⟩
theorem bd_one' : Bd 4607182418800017408 1074 := bd_one_at _ rfl
theorem log_step (u p k Kp : Nat) (hu : Bd u 1074) (hp : Bd p Kp) (h1 : 1075 ≤ Kp) (h2 : Kp ≤ 1190) (hd : Lo (floatOfInt .f64 k) 1074) : ∃ p', LogStep u p k p' ∧ Bd p' (Kp + 1) := by
  obtain ⟨a, ha, ga⟩ := bd_quo 1075 bd_one' hd (by omega) (by omega) (by omega)
  obtain ⟨b, hb, gb⟩ := bd_mul Kp hu hp (by omega) (by omega) (by omega)
  obtain ⟨c, hc, gc⟩ := bd_add (K := Kp) (ga.mono (by omega)) gb (by omega) (by omega)
  exact ⟨c, ⟨a, b, ha, hb, hc⟩, gc⟩
theorem lo_odd25 : Lo (floatOfInt .f64 (25 : Nat)) 1074 := lo_of_read false 7036874417766400 (-48) (by decide) (by decide) 52 (by decide) (by decide)
theorem lo_odd23 : Lo (floatOfInt .f64 (23 : Nat)) 1074 := lo_of_read false 6473924464345088 (-48) (by decide) (by decide) 52 (by decide) (by decide)
theorem lo_odd21 : Lo (floatOfInt .f64 (21 : Nat)) 1074 := lo_of_read false 5910974510923776 (-48) (by decide) (by decide) 52 (by decide) (by decide)
theorem lo_odd19 : Lo (floatOfInt .f64 (19 : Nat)) 1074 := lo_of_read false 5348024557502464 (-48) (by decide) (by decide) 52 (by decide) (by decide)
theorem lo_odd17 : Lo (floatOfInt .f64 (17 : Nat)) 1074 := lo_of_read false 4785074604081152 (-48) (by decide) (by decide) 52 (by decide) (by decide)
theorem log_loop (u : Nat) (hu : Bd u 1074) : ∃ P : Nat → Nat, P 13 = 0 ∧ (∀ j, 1 ≤ j → j ≤ 13 → LogStep u (P j) (2 * j - 1) (P (j - 1))) ∧ Bd (P 0) 1088 := by
  obtain ⟨p12, s13, g12⟩ := log_step u 0 25 1075 hu (bd_zero.mono (by omega)) (by omega) (by omega) lo_odd25
  obtain ⟨p11, s12, g11⟩ := log_step u p12 23 1076 hu g12 (by omega) (by omega) lo_odd23
  obtain ⟨p10, s11, g10⟩ := log_step u p11 21 1077 hu g11 (by omega) (by omega) lo_odd21
  obtain ⟨p9, s10, g9⟩ := log_step u p10 19 1078 hu g10 (by omega) (by omega) lo_odd19
  obtain ⟨p8, s9, g8⟩ := log_step u p9 17 1079 hu g9 (by omega) (by omega) lo_odd17
  obtain ⟨p7, s8, g7⟩ := log_step u p8 15 1080 hu g8 (by omega) (by omega) lo_odd15
  obtain ⟨p6, s7, g6⟩ := log_step u p7 13 1081 hu g7 (by omega) (by omega) lo_odd13
  obtain ⟨p5, s6, g5⟩ := log_step u p6 11 1082 hu g6 (by omega) (by omega) lo_odd11
  obtain ⟨p4, s5, g4⟩ := log_step u p5 9 1083 hu g5 (by omega) (by omega) lo_odd9
  obtain ⟨p3, s4, g3⟩ := log_step u p4 7 1084 hu g4 (by omega) (by omega) lo_odd7
  obtain ⟨p2, s3, g2⟩ := log_step u p3 5 1085 hu g3 (by omega) (by omega) lo_odd5
  obtain ⟨p1, s2, g1⟩ := log_step u p2 3 1086 hu g2 (by omega) (by omega) lo_odd3
  obtain ⟨p0, s1, g0⟩ := log_step u p1 1 1087 hu g1 (by omega) (by omega) lo_odd1
  refine ⟨fun k => match k with | 0 => p0 | 1 => p1 | 2 => p2 | 3 => p3 | 4 => p4 | 5 => p5 | 6 => p6 | 7 => p7 | 8 => p8 | 9 => p9 | 10 => p10 | 11 => p11 | 12 => p12 | 13 => 0 | _ => 0, rfl, ?_, g0⟩
  intro j h1 h8
  have hj : j = 1 ∨ j = 2 ∨ j = 3 ∨ j = 4 ∨ j = 5 ∨ j = 6 ∨ j = 7 ∨ j = 8 ∨ j = 9 ∨ j = 10 ∨ j = 11 ∨ j = 12 ∨ j = 13 := by omega
  rcases hj with rfl | rfl | rfl | rfl | rfl | rfl | rfl | rfl | rfl | rfl | rfl | rfl | rfl
  · exact s1
  · exact s2
  · exact s3
  · exact s4
  · exact s5
  · exact s6
  · exact s7
  · exact s8
  · exact s9
  · exact s10
  · exact s11
  · exact s12
  · exact s13

/-- what follows the loops: from x = XX m ef and the count e to the tenths' 64-bit number -/
def TenRel (x : Nat) (e : Int) (r : Nat) : Prop := ∃ (a b s u q1 q2 c l v : Nat) (P : Nat → Nat), floatBits .sub .f64 x 4607182418800017408 = some a ∧ floatBits .add .f64 x 4607182418800017408 = some b ∧ floatBits .quo .f64 a b = some s ∧ floatBits .mul .f64 s s = some u ∧
  P 13 = 0 ∧ (∀ j, 1 ≤ j → j ≤ 13 → LogStep u (P j) (2 * j - 1) (P (j - 1))) ∧ floatBits .mul .f64 s (P 0) = some q1 ∧ floatBits .mul .f64 4611686018427387904 q1 = some q2 ∧ floatBits .mul .f64 (floatOfInt .f64 e) 4604418534313441775 = some c ∧
  floatBits .add .f64 q2 c = some l ∧ floatBits .mul .f64 l 4631308968768463603 = some v ∧ floatBits .add .f64 v 4602678819172646912 = some r

theorem read_one64 : Ieee.double.read 4607182418800017408 = .number false (2 ^ 52) (-52) := by decide

/-- a number from 3/4 to 3/2 less 1, and more 1 -/
theorem near_one (x m : Nat) (e : Int) (hx : Ieee.double.read x = .number false m e) (he : -1074 ≤ e) (h1 : CC ≤ VV m e) (h2 : VV m e < 2 * CC) :
    (∃ a, floatBits .sub .f64 x 4607182418800017408 = some a ∧ Bd a 1073) ∧ (∃ b, floatBits .add .f64 x 4607182418800017408 = some b ∧ Lo b 1074) := by
  have hC : CC = 3 * 2 ^ 51 * 2 ^ CE := rfl
  have hO : (2 : Nat) ^ 52 * 2 ^ (-52 + 1074 : Int).toNat = 4 * 2 ^ 51 * 2 ^ CE := by
    rw [show (-52 + 1074 : Int).toNat = CE + 1 by rw [CE_eq]; rfl, Nat.pow_add 2 CE 1, Nat.pow_one, Nat.mul_comm (2 ^ CE) 2, ← Nat.mul_assoc]
  have e1 : (e + 1074).toNat = (e - min e (-52)).toNat + (min e (-52) + 1074).toNat := by omega
  have e2 : (-52 + 1074 : Int).toNat = (-52 - min e (-52)).toNat + (min e (-52) + 1074).toNat := by omega
  unfold VV at h1 h2
  rw [e1, Nat.pow_add, ← Nat.mul_assoc] at h1 h2
  rw [e2, Nat.pow_add, ← Nat.mul_assoc] at hO
  have hz : (min e (-52) + 1074 + (0 : Nat)).toNat = (min e (-52) + 1074).toNat := by simp
  have hp : 0 < 2 ^ 51 * 2 ^ CE := Nat.mul_pos (by decide) (Nat.two_pow_pos _)
  obtain ⟨D, hD⟩ : ∃ D, D = 2 ^ 51 * 2 ^ CE := ⟨_, rfl⟩
  have hC' : CC = 3 * D := by rw [hC, hD, Nat.mul_assoc]
  rw [Nat.mul_assoc 4, ← hD] at hO
  rw [hC'] at h1 h2
  have hDK : ∀ j, 2 * D * 2 ^ j ≤ 2 ^ (1073 + j) := by
    intro j
    rw [hD, ← Nat.pow_add, show (2 : Nat) * 2 ^ (51 + CE) = 2 ^ (51 + CE + 1) by rw [Nat.pow_succ, Nat.mul_comm], ← Nat.pow_add]
    exact Nat.pow_le_pow_right (by decide) (by rw [CE_eq]; omega)
  generalize hP : 2 ^ (min e (-52) + 1074).toNat = P at *
  have hPp : 0 < P := by rw [← hP]; exact Nat.two_pow_pos _
  constructor
  · have h0 : floatBits .sub .f64 x 4607182418800017408 = ((Datum.number false m e).sum (Datum.number true (2 ^ 52) (-52))).map Ieee.double.write := by
      show ((Ieee.double.read x).sum (Ieee.double.read _).opposite).map Ieee.double.write = _
      rw [hx, read_one64]; rfl
    simp only [Datum.sum, Option.map_some] at h0
    refine ⟨_, h0, ?_⟩
    show Bd (Ieee.double.nearest _ _ _) 1073
    refine bd_nearest _ _ _ 1073 0 (by omega) (by omega) (by omega) ?_
    rw [hz, hP]
    have ha : (Ieee.signed false m (e - min e (-52)).toNat + Ieee.signed true (2 ^ 52) (-52 - min e (-52)).toNat).natAbs * P ≤ 2 * D := by
      unfold Ieee.signed
      rw [shl_eq, shl_eq]
      simp only [if_true, Bool.false_eq_true, if_false]
      generalize m * 2 ^ (e - min e (-52)).toNat = A at *
      generalize 2 ^ 52 * 2 ^ (-52 - min e (-52)).toNat = B at *
      rcases Nat.le_total A B with hAB | hAB
      · have : ((A : Int) + -(B : Int)).natAbs = B - A := by omega
        rw [this, Nat.sub_mul]; omega
      · have : ((A : Int) + -(B : Int)).natAbs = A - B := by omega
        rw [this, Nat.sub_mul]; omega
    have := hDK 0
    rw [Nat.pow_zero, Nat.mul_one] at this
    exact Nat.le_trans ha this
  · have h0 : floatBits .add .f64 x 4607182418800017408 = ((Datum.number false m e).sum (Datum.number false (2 ^ 52) (-52))).map Ieee.double.write := by
      show ((Ieee.double.read x).sum (Ieee.double.read _)).map Ieee.double.write = _
      rw [hx, read_one64]
    simp only [Datum.sum, Option.map_some] at h0
    refine ⟨_, h0, ?_⟩
    have hs : Ieee.signed false m (e - min e (-52)).toNat + Ieee.signed false (2 ^ 52) (-52 - min e (-52)).toNat = ((m * 2 ^ (e - min e (-52)).toNat + 2 ^ 52 * 2 ^ (-52 - min e (-52)).toNat : Nat) : Int) := by
      simp [Ieee.signed, shl_eq]
    have hsg : (if Ieee.signed false m (e - min e (-52)).toNat + Ieee.signed false (2 ^ 52) (-52 - min e (-52)).toNat = 0 then false && false else decide (Ieee.signed false m (e - min e (-52)).toNat + Ieee.signed false (2 ^ 52) (-52 - min e (-52)).toNat < 0)) = false := by
      rw [hs]; split
      · rfl
      · exact decide_eq_false (Int.not_lt.2 (Int.natCast_nonneg _))
    show Lo (Ieee.double.nearest _ _ _) _
    rw [hsg, hs, Int.natAbs_natCast]
    have hU : 4 * D = 2 ^ U := by
      rw [hD, ← Nat.pow_add, show (4 : Nat) = 2 ^ 2 from rfl, ← Nat.pow_add]
      exact congrArg (fun n => 2 ^ n) (by rw [U_eq, CE_eq])
    refine (rg_nearest _ _ 1074 1076 0 (by omega) (by omega) (by omega) (by omega) (by omega) ?_ ?_).lo
    · rw [hz, hP, Nat.add_mul]
      have h76 : (2 : Nat) ^ (1076 + 0) = 4 * (4 * D) := by
        rw [hU, show (4 : Nat) = 2 ^ 2 from rfl, ← Nat.pow_add, show 1076 + 0 = 2 + U by rw [U_eq]]
      rw [h76]; omega
    · rw [hz, hP, Nat.add_mul]
      have h74 : (2 : Nat) ^ (1074 + 0) = 4 * D := by
        rw [hU, show 1074 + 0 = U by rw [U_eq]]
      rw [h74]; omega

end Go.Proofs.Ytpocclcijkopnaa
