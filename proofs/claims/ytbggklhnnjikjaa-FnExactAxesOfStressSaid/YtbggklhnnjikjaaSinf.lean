/- The chain of the sine is valid, and its result is not too great, for every number of turns that is less than 2 to the power of 52. -/
import Derived.Test.YtbggklhnnjikjaaSine
namespace Go.Proofs.Ytbggklhnnjikjaa
open Go.RowKit Fl
open Ieee (Datum Toward)

theorem cut_zero_way (neg : Bool) (n drop : Nat) : Toward.zero.cut neg n drop = n / 2 ^ drop := by
  unfold Toward.cut
  by_cases hd : drop ≤ n.log2 + 2
  · rw [Nat.min_eq_left hd, shl_eq, Nat.one_mul]; simp
  · have h1 := lt_two_log n
    have h2 : n < 2 ^ (n.log2 + 2) := Nat.lt_of_lt_of_le h1 (Nat.pow_le_pow_right (by decide) (by omega))
    have h3 : n < 2 ^ drop := Nat.lt_of_lt_of_le h1 (Nat.pow_le_pow_right (by decide) (by omega))
    rw [Nat.min_eq_right (by omega), shl_eq, Nat.one_mul]
    simp [Nat.div_eq_of_lt h2, Nat.div_eq_of_lt h3]

/-- the units in which places are told -/
def U : Nat := 1074
theorem U_eq : U = 1074 := rfl

/-- a whole number of at most 2 ^ 52 is kept as it is -/
theorem read_whole (s : Bool) (q : Nat) (hq : q ≤ 2 ^ 52) : ∃ m e, Ieee.double.read (Ieee.double.nearest s q 0) = .number s m e ∧ (-1074 : Int) ≤ e ∧ m * 2 ^ (e + 1074).toNat = q * 2 ^ U := by
  by_cases h0 : q = 0
  · subst h0
    refine ⟨0, _, read_nearest_zero _ _ _, by rw [lp64]; omega, by rw [Nat.zero_mul, Nat.zero_mul]⟩
  · have hL : q.log2 ≤ 52 := by
      apply pow_le_of
      exact Nat.le_trans (two_log_le q h0) hq
    have h1 := read_nearest_exact Ieee.double s q 0 h0 hL (by rw [lp64]; omega) (by rw [lp64]; show (0 + (q.log2 : Int) - 52 - -1074).toNat + 2 ≤ 2047; omega)
    refine ⟨_, _, h1, by unfold lastPlace; rw [lp64]; omega, ?_⟩
    have h2 : lastPlace Ieee.double q 0 ≤ 0 := by unfold lastPlace; rw [lp64]; show max (0 + (q.log2 : Int) - 52) (-1074) ≤ 0; omega
    have h3 : -1074 ≤ lastPlace Ieee.double q 0 := by unfold lastPlace; rw [lp64]; omega
    rw [shl_eq, Nat.mul_assoc, ← Nat.pow_add]
    have e9 : (0 - lastPlace Ieee.double q 0).toNat + (lastPlace Ieee.double q 0 + 1074).toNat = U := by rw [U_eq]; omega
    rw [e9]

theorem signed_sub (s : Bool) (a b i j : Nat) (h : b * 2 ^ j ≤ a * 2 ^ i) : (Ieee.signed s a i + Ieee.signed (!s) b j).natAbs = a * 2 ^ i - b * 2 ^ j := by
  unfold Ieee.signed
  rw [shl_eq, shl_eq]
  generalize a * 2 ^ i = A at *
  generalize b * 2 ^ j = B at *
  cases s <;> simp <;> omega

/-- what is left when the places behind the point are cut off -/
theorem part_facts (y : Nat) (hy : Bd y 1126) : ∃ n f0, floatToIntVal .f64 y .i64 = some n ∧ floatBits .sub .f64 y (floatOfInt .f64 n) = some f0 ∧ Bd f0 1074 := by
  obtain ⟨s, m, e, h1, h2, h3⟩ := hy
  generalize hq : (m <<< e.toNat) / 2 ^ (-e).toNat = q
  -- the facts on q, in units
  have hE : q * 2 ^ U ≤ m * 2 ^ (e + 1074).toNat ∧ m * 2 ^ (e + 1074).toNat - q * 2 ^ U ≤ 2 ^ U := by
    by_cases he : e < 0
    · have e1 : e.toNat = 0 := by omega
      have e2 : U = (-e).toNat + (e + 1074).toNat := by rw [U_eq]; omega
      rw [e1, Nat.shiftLeft_zero] at hq
      have hdm := Nat.div_add_mod m (2 ^ (-e).toNat)
      have hml := Nat.mod_lt m (Nat.two_pow_pos (-e).toNat)
      rw [hq] at hdm
      rw [e2, Nat.pow_add, ← Nat.mul_assoc, ← Nat.sub_mul]
      rw [Nat.mul_comm] at hdm
      constructor
      · exact Nat.mul_le_mul_right _ (by omega)
      · exact Nat.mul_le_mul_right _ (by omega)
    · have e1 : (-e).toNat = 0 := by omega
      have e2 : (e + 1074).toNat = e.toNat + U := by rw [U_eq]; omega
      rw [e1, Nat.pow_zero, Nat.div_one, shl_eq] at hq
      rw [← hq, e2, Nat.pow_add, Nat.mul_assoc]
      exact ⟨Nat.le_refl _, by rw [Nat.sub_self]; exact Nat.zero_le _⟩
  have hq52 : q ≤ 2 ^ 52 := by
    have h4 := Nat.le_trans hE.1 h3
    rw [show (1126 : Nat) = 52 + U by rw [U_eq], Nat.pow_add] at h4
    exact Nat.le_of_mul_le_mul_right h4 (Nat.two_pow_pos _)
  have hn : floatToIntVal .f64 y .i64 = some (Ieee.signed s q 0) := by
    unfold floatToIntVal
    have : (FloatKind.f64.decode y).toInt .zero = some (Ieee.signed s q 0) := by
      show (Ieee.double.read y).toInt .zero = _
      rw [h1]
      show some (Ieee.signed s (Toward.zero.cut s (m <<< e.toNat) (-e).toNat) 0) = _
      rw [cut_zero_way, hq]
    rw [this]
    simp only []
    rw [if_pos]
    have hb : (Ieee.signed s q 0).natAbs ≤ 2 ^ 52 := by rw [signed_abs]; simpa using hq52
    have h5 : (2 : Nat) ^ 52 = 4503599627370496 := by decide
    rw [h5] at hb
    simp only [IntKind.min, IntKind.max, IntKind.signed, IntKind.bits]
    constructor <;> simp <;> omega
  -- the whole number as a 64-bit one
  have hc : floatOfInt .f64 (Ieee.signed s q 0) = Ieee.double.nearest (decide (Ieee.signed s q 0 < 0)) q 0 := by
    show Ieee.double.write (.number (decide (Ieee.signed s q 0 < 0)) (Ieee.signed s q 0).natAbs 0) = _
    rw [signed_abs, Nat.pow_zero, Nat.mul_one]; rfl
  obtain ⟨mc, ec, c1, c2, c3⟩ := read_whole (decide (Ieee.signed s q 0 < 0)) q hq52
  rw [← hc] at c1
  have hsub : floatBits .sub .f64 y (floatOfInt .f64 (Ieee.signed s q 0)) = ((Datum.number s m e).sum (Datum.number (!decide (Ieee.signed s q 0 < 0)) mc ec)).map Ieee.double.write := by
    show ((Ieee.double.read y).sum (Ieee.double.read (floatOfInt .f64 (Ieee.signed s q 0))).opposite).map Ieee.double.write = _
    rw [h1, c1]; rfl
  simp only [Datum.sum, Option.map_some] at hsub
  refine ⟨_, _, hn, hsub, ?_⟩
  · show Bd (Ieee.double.nearest _ _ _) 1074
    have e1 : (e + 1074).toNat = (e - min e ec).toNat + (min e ec + 1074).toNat := by omega
    have e2 : (ec + 1074).toNat = (ec - min e ec).toNat + (min e ec + 1074).toNat := by omega
    refine bd_nearest _ _ _ 1074 0 (by omega) (by omega) (by omega) ?_
    rw [show (min e ec + 1074 + (0 : Nat)).toNat = (min e ec + 1074).toNat by simp, Nat.add_zero]
    rw [e1, Nat.pow_add, ← Nat.mul_assoc] at hE
    rw [e2, Nat.pow_add, ← Nat.mul_assoc] at c3
    rw [← c3] at hE
    have hp := Nat.two_pow_pos (min e ec + 1074).toNat
    have hab : mc * 2 ^ (ec - min e ec).toNat ≤ m * 2 ^ (e - min e ec).toNat := Nat.le_of_mul_le_mul_right hE.1 hp
    have hs : (Ieee.signed s m (e - min e ec).toNat + Ieee.signed (!decide (Ieee.signed s q 0 < 0)) mc (ec - min e ec).toNat).natAbs = m * 2 ^ (e - min e ec).toNat - mc * 2 ^ (ec - min e ec).toNat := by
      by_cases hq0 : q = 0
      · have hmc : mc = 0 := by
          rw [hq0, Nat.zero_mul] at c3
          rcases Nat.mul_eq_zero.1 c3 with h | h
          · rcases Nat.mul_eq_zero.1 h with h | h
            · exact h
            · have := Nat.two_pow_pos (ec - min e ec).toNat; omega
          · omega
        rw [hmc]
        have : Ieee.signed (!decide (Ieee.signed s q 0 < 0)) 0 (ec - min e ec).toNat = 0 := by unfold Ieee.signed; simp
        rw [this, Int.add_zero, signed_abs]; simp
      · have : decide (Ieee.signed s q 0 < 0) = s := by
          unfold Ieee.signed; cases s <;> simp <;> omega
        rw [this]; exact signed_sub s m mc _ _ hab
    rw [hs, Nat.sub_mul, ← U_eq]
    exact hE.2

theorem bd_of_read {x K : Nat} (s : Bool) (m : Nat) (e : Int) (h : Ieee.double.read x = .number s m e) (he : -1074 ≤ e) (L : Nat) (hm : m < 2 ^ L) (hK : L + (e + 1074).toNat ≤ K) : Bd x K :=
  ⟨s, m, e, h, he, Nat.le_trans (Nat.mul_le_mul_right _ (Nat.le_of_lt hm)) (by rw [← Nat.pow_add]; exact Nat.pow_le_pow_right (by decide) hK)⟩
theorem lo_of_read {x C : Nat} (s : Bool) (m : Nat) (e : Int) (h : Ieee.double.read x = .number s m e) (he : -1074 ≤ e) (L : Nat) (hm : 2 ^ L ≤ m) (hC : C ≤ L + (e + 1074).toNat) : Lo x C :=
  ⟨s, m, e, h, he, Nat.le_trans (Nat.pow_le_pow_right (by decide) hC) (by rw [Nat.pow_add]; exact Nat.mul_le_mul_right _ hm)⟩
theorem bd_one : Bd 4607182418800017408 1075 := bd_of_read false (2 ^ 52) (-52) (by decide) (by decide) 53 (by decide) (by decide)
theorem bd_half : Bd 4602678819172646912 1075 := bd_of_read false (2 ^ 52) (-53) (by decide) (by decide) 53 (by decide) (by decide)
theorem bd_turn : Bd 4618760256179416344 1077 := bd_of_read false 7074237752028440 (-50) (by decide) (by decide) 53 (by decide) (by decide)
theorem lo_den1 : Lo (den 1) 1076 := lo_of_read false 6755399441055744 (-50) (by decide) (by decide) 52 (by decide) (by decide)
theorem lo_den2 : Lo (den 2) 1076 := lo_of_read false 5629499534213120 (-48) (by decide) (by decide) 52 (by decide) (by decide)
theorem lo_den3 : Lo (den 3) 1076 := lo_of_read false 5910974510923776 (-47) (by decide) (by decide) 52 (by decide) (by decide)
theorem lo_den4 : Lo (den 4) 1076 := lo_of_read false 5066549580791808 (-46) (by decide) (by decide) 52 (by decide) (by decide)
theorem lo_den5 : Lo (den 5) 1076 := lo_of_read false 7740561859543040 (-46) (by decide) (by decide) 52 (by decide) (by decide)
theorem lo_den6 : Lo (den 6) 1076 := lo_of_read false 5488762045857792 (-45) (by decide) (by decide) 52 (by decide) (by decide)
theorem lo_den7 : Lo (den 7) 1076 := lo_of_read false 7388718138654720 (-45) (by decide) (by decide) 52 (by decide) (by decide)
theorem lo_den8 : Lo (den 8) 1076 := lo_of_read false 4785074604081152 (-44) (by decide) (by decide) 52 (by decide) (by decide)

theorem sin_step (u p k Kp : Nat) (hu : Bd u 1088) (hp : Bd p (Kp + 1)) (h1 : 1074 ≤ Kp) (h2 : Kp ≤ 1200) (_hk : k ≤ 8) (hd : Lo (den k) 1076) : ∃ p', SinStep u p k p' ∧ Bd p' (Kp + 14 + 1) := by
  obtain ⟨a, ha, ga⟩ := bd_mul (Kp + 15) hu hp (by omega) (by omega) (by omega)
  obtain ⟨b, hb, gb⟩ := bd_quo (Kp + 14) ga hd (by omega) (by omega) (by omega)
  obtain ⟨c, hc, gc⟩ := bd_sub (K := Kp + 14) (bd_one.mono (by omega)) gb (by omega) (by omega)
  exact ⟨c, ⟨a, b, ha, hb, hc⟩, gc⟩

theorem sin_loop (u : Nat) (hu : Bd u 1088) : ∃ P : Nat → Nat, P 8 = 4607182418800017408 ∧ (∀ k, 1 ≤ k → k ≤ 8 → SinStep u (P k) k (P (k - 1))) ∧ Bd (P 0) 1187 := by
  obtain ⟨p7, s8, g7⟩ := sin_step u 4607182418800017408 8 1074 hu bd_one (by omega) (by omega) (by omega) lo_den8
  obtain ⟨p6, s7, g6⟩ := sin_step u p7 7 1088 hu g7 (by omega) (by omega) (by omega) lo_den7
  obtain ⟨p5, s6, g5⟩ := sin_step u p6 6 1102 hu g6 (by omega) (by omega) (by omega) lo_den6
  obtain ⟨p4, s5, g4⟩ := sin_step u p5 5 1116 hu g5 (by omega) (by omega) (by omega) lo_den5
  obtain ⟨p3, s4, g3⟩ := sin_step u p4 4 1130 hu g4 (by omega) (by omega) (by omega) lo_den4
  obtain ⟨p2, s3, g2⟩ := sin_step u p3 3 1144 hu g3 (by omega) (by omega) (by omega) lo_den3
  obtain ⟨p1, s2, g1⟩ := sin_step u p2 2 1158 hu g2 (by omega) (by omega) (by omega) lo_den2
  obtain ⟨p0, s1, g0⟩ := sin_step u p1 1 1172 hu g1 (by omega) (by omega) (by omega) lo_den1
  refine ⟨fun k => match k with | 0 => p0 | 1 => p1 | 2 => p2 | 3 => p3 | 4 => p4 | 5 => p5 | 6 => p6 | 7 => p7 | 8 => 4607182418800017408 | _ => 0, rfl, ?_, g0⟩
  intro k h1 h8
  have hk : k = 1 ∨ k = 2 ∨ k = 3 ∨ k = 4 ∨ k = 5 ∨ k = 6 ∨ k = 7 ∨ k = 8 := by omega
  rcases hk with rfl | rfl | rfl | rfl | rfl | rfl | rfl | rfl
  · exact s1
  · exact s2
  · exact s3
  · exact s4
  · exact s5
  · exact s6
  · exact s7
  · exact s8

theorem read_neg (x : Nat) (hx : x < 2 ^ 64) : Ieee.double.read (Op.negFloat .f64 x) = (Ieee.double.read x).opposite := by
  have e1 : Ieee.double.signWeight = 2 ^ 63 := by decide
  have hn : Op.negFloat .f64 x = x ^^^ 2 ^ 63 := rfl
  have h1 : (x ^^^ 2 ^ 63) % 2 ^ 63 = x % 2 ^ 63 := by
    rw [Nat.xor_mod_two_pow, Nat.mod_self, Nat.xor_zero]
  have h2 : (x ^^^ 2 ^ 63) / 2 ^ 63 = x / 2 ^ 63 ^^^ 1 := by
    rw [Nat.xor_div_two_pow, Nat.div_self (Nat.two_pow_pos 63)]
  have h3 : ((x ^^^ 2 ^ 63) / 2 ^ 63 % 2 == 1) = !(x / 2 ^ 63 % 2 == 1) := by
    rw [h2]
    have : x / 2 ^ 63 = 0 ∨ x / 2 ^ 63 = 1 := by omega
    rcases this with h | h <;> rw [h] <;> decide
  rw [hn]
  unfold Ieee.Format.read
  simp only [e1]
  rw [h1, h3]
  by_cases a : x % 2 ^ 63 < Ieee.double.binade
  · simp only [if_pos a]; rfl
  · by_cases b : x % 2 ^ 63 < Ieee.double.infRung
    · simp only [if_neg a, if_pos b]; rfl
    · by_cases c : x % 2 ^ 63 = Ieee.double.infRung
      · simp only [if_neg a, if_neg b, if_pos c]; rfl
      · simp only [if_neg a, if_neg b, if_neg c]; rfl

theorem bd_neg {x K : Nat} (h : Bd x K) (hx : x < 2 ^ 64) : Bd (Op.negFloat .f64 x) K := by
  obtain ⟨s, m, e, h1, h2, h3⟩ := h
  exact ⟨!s, m, e, by rw [read_neg x hx, h1]; rfl, h2, h3⟩

/-- the sine exists, and can be narrowed -/
theorem sin_facts (y : Nat) (hy : Bd y 1126) : ∃ r, SinRel y r ∧ Bd r 1194 := by
  obtain ⟨n, f0, hn, h0, g0⟩ := part_facts y hy
  obtain ⟨f1, h1, g1⟩ : ∃ f1, (if (FloatKind.f64.format.order f0 0 == some .lt) then floatBits .add .f64 f0 4607182418800017408 = some f1 else f1 = f0) ∧ Bd f1 1076 := by
    cases (FloatKind.f64.format.order f0 0 == some .lt)
    · exact ⟨f0, rfl, g0.mono (by omega)⟩
    · obtain ⟨r, hr, gr⟩ := bd_add (K := 1075) (g0.mono (by omega)) bd_one (by omega) (by omega)
      exact ⟨r, hr, gr⟩
  obtain ⟨f2, h2, g2⟩ : ∃ f2, (if (FloatKind.f64.format.order f1 4602678819172646912 == some .gt || FloatKind.f64.format.order f1 4602678819172646912 == some .eq) then floatBits .sub .f64 f1 4602678819172646912 = some f2 else f2 = f1) ∧ Bd f2 1077 := by
    cases (FloatKind.f64.format.order f1 4602678819172646912 == some .gt || FloatKind.f64.format.order f1 4602678819172646912 == some .eq)
    · exact ⟨f1, rfl, g1.mono (by omega)⟩
    · obtain ⟨r, hr, gr⟩ := bd_sub (K := 1076) g1 (bd_half.mono (by omega)) (by omega) (by omega)
      exact ⟨r, hr, gr⟩
  obtain ⟨f3, h3, g3⟩ : ∃ f3, (if (FloatKind.f64.format.order f2 4598175219545276416 == some .gt) then floatBits .sub .f64 4602678819172646912 f2 = some f3 else f3 = f2) ∧ Bd f3 1078 := by
    cases (FloatKind.f64.format.order f2 4598175219545276416 == some .gt)
    · exact ⟨f2, rfl, g2.mono (by omega)⟩
    · obtain ⟨r, hr, gr⟩ := bd_sub (K := 1077) (bd_half.mono (by omega)) g2 (by omega) (by omega)
      exact ⟨r, hr, gr⟩
  obtain ⟨z, hz, gz⟩ := bd_mul 1081 g3 bd_turn (by omega) (by omega) (by omega)
  obtain ⟨u, hu, gu⟩ := bd_mul 1088 gz gz (by omega) (by omega) (by omega)
  obtain ⟨P, hP, hS, gP⟩ := sin_loop u gu
  obtain ⟨q, hq, gq⟩ := bd_mul 1194 gz gP (by omega) (by omega) (by omega)
  have hq64 : q < 2 ^ 64 := Ieee.Format.mul_lt Ieee.double hq
  refine ⟨_, ⟨n, f0, f1, f2, f3, z, u, q, P, _, _, _, hn, h0, rfl, h1, rfl, h2, rfl, h3, hz, hu, hP, hS, hq, rfl⟩, ?_⟩
  split
  · exact (bd_neg gq hq64).mono (by omega)
  · exact gq.mono (by omega)

theorem cmp_ge (a b : Int) : (some (compare a b) == some Ordering.gt || some (compare a b) == some Ordering.eq) = decide (b ≤ a) := by
  rw [Bool.eq_iff_iff]
  simp only [Bool.or_eq_true, beq_iff_eq, Option.some.injEq, decide_eq_true_eq, compare, compareOfLessAndEq]
  split
  · simp; omega
  · split <;> simp <;> omega
theorem cmp_le (a b : Int) : (some (compare a b) == some Ordering.lt || some (compare a b) == some Ordering.eq) = decide (a ≤ b) := by
  rw [Bool.eq_iff_iff]
  simp only [Bool.or_eq_true, beq_iff_eq, Option.some.injEq, decide_eq_true_eq, compare, compareOfLessAndEq]
  split
  · simp; omega
  · split <;> simp <;> omega

/-- '2 to the power of 52' and its opposite, as they are read -/
theorem read_big : Ieee.double.read 4841369599423283200 = .number false (2 ^ 52) 0 := by decide
theorem read_big' : Ieee.double.read 14064741636278059008 = .number true (2 ^ 52) 0 := by decide

/-- the three tests on a finite number -/
theorem big_tests (y : Nat) (hf : fin64 y = true) : ∃ a b : Bool,
    (FloatKind.f64.format.order y 4841369599423283200 == some .gt || FloatKind.f64.format.order y 4841369599423283200 == some .eq) = a ∧
    (FloatKind.f64.format.order y 14064741636278059008 == some .lt || FloatKind.f64.format.order y 14064741636278059008 == some .eq) = b ∧
    (FloatKind.f64.format.order (y % 2 ^ 63) 4841369599423283200 == some .gt || FloatKind.f64.format.order (y % 2 ^ 63) 4841369599423283200 == some .eq) = (a || b) ∧
    (a = false → b = false → Bd y 1126) := by
  obtain ⟨s, m, e, hx⟩ := fin64_number hf
  obtain ⟨_, he, _, _⟩ := read_number _ (by decide) y s m e hx
  rw [lp64] at he
  have t1 : (FloatKind.f64.format.order y 4841369599423283200 == some .gt || FloatKind.f64.format.order y 4841369599423283200 == some .eq) = decide (Ieee.signed false (2 ^ 52) (0 - min e 0).toNat ≤ Ieee.signed s m (e - min e 0).toNat) := by
    have : FloatKind.f64.format.order y 4841369599423283200 = some (compare (Ieee.signed s m (e - min e 0).toNat) (Ieee.signed false (2 ^ 52) (0 - min e 0).toNat)) := by
      show Ieee.double.order _ _ = _
      unfold Ieee.Format.order; rw [hx, read_big]; rfl
    rw [this]; exact cmp_ge _ _
  have t2 : (FloatKind.f64.format.order y 14064741636278059008 == some .lt || FloatKind.f64.format.order y 14064741636278059008 == some .eq) = decide (Ieee.signed s m (e - min e 0).toNat ≤ Ieee.signed true (2 ^ 52) (0 - min e 0).toNat) := by
    have : FloatKind.f64.format.order y 14064741636278059008 = some (compare (Ieee.signed s m (e - min e 0).toNat) (Ieee.signed true (2 ^ 52) (0 - min e 0).toNat)) := by
      show Ieee.double.order _ _ = _
      unfold Ieee.Format.order; rw [hx, read_big']; rfl
    rw [this]; exact cmp_le _ _
  have t3 : (FloatKind.f64.format.order (y % 2 ^ 63) 4841369599423283200 == some .gt || FloatKind.f64.format.order (y % 2 ^ 63) 4841369599423283200 == some .eq) = decide (Ieee.signed false (2 ^ 52) (0 - min e 0).toNat ≤ Ieee.signed false m (e - min e 0).toNat) := by
    have : FloatKind.f64.format.order (y % 2 ^ 63) 4841369599423283200 = some (compare (Ieee.signed false m (e - min e 0).toNat) (Ieee.signed false (2 ^ 52) (0 - min e 0).toNat)) := by
      show Ieee.double.order _ _ = _
      unfold Ieee.Format.order; rw [read_abs, hx, read_big]; rfl
    rw [this]; exact cmp_ge _ _
  refine ⟨_, _, rfl, rfl, ?_, ?_⟩
  · rw [t1, t2, t3, Bool.eq_iff_iff]
    simp only [Bool.or_eq_true, decide_eq_true_eq]
    have hp : 0 < 2 ^ 52 * 2 ^ (0 - min e 0).toNat := Nat.mul_pos (by decide) (Nat.two_pow_pos _)
    unfold Ieee.signed
    rw [shl_eq, shl_eq]
    generalize m * 2 ^ (e - min e 0).toNat = A
    generalize 2 ^ 52 * 2 ^ (0 - min e 0).toNat = B at hp
    cases s
    · simp; omega
    · simp; omega
  · intro ha hb
    rw [t1, decide_eq_false_iff_not] at ha
    rw [t2, decide_eq_false_iff_not] at hb
    have hAB : m * 2 ^ (e - min e 0).toNat ≤ 2 ^ 52 * 2 ^ (0 - min e 0).toNat := by
      unfold Ieee.signed at ha hb
      rw [shl_eq, shl_eq] at ha hb
      generalize m * 2 ^ (e - min e 0).toNat = A at *
      generalize 2 ^ 52 * 2 ^ (0 - min e 0).toNat = B at *
      cases s <;> simp at ha hb <;> omega
    refine ⟨s, m, e, hx, he, ?_⟩
    have e1 : (e + 1074).toNat = (e - min e 0).toNat + (min e 0 + 1074).toNat := by omega
    have e2 : (1126 : Nat) = 52 + (0 - min e 0).toNat + (min e 0 + 1074).toNat := by omega
    rw [e1, e2, Nat.pow_add, Nat.pow_add 2 (52 + _), Nat.pow_add 2 52, ← Nat.mul_assoc]
    exact Nat.mul_le_mul_right _ hAB

end Go.Proofs.Ytbggklhnnjikjaa
