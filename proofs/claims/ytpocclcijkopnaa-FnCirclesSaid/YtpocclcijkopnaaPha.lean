/- The quarters of a part of a turn: plain facts. -/
import Derived.Test.YtpocclcijkopnaaEx
import Derived.Test.YtpocclcijkopnaaAngf
namespace Go.Proofs.Ytpocclcijkopnaa
open Go.RowKit Fl
open Ieee (Datum Toward)

theorem cmp_lt0 (a b : Int) : (some (compare a b) == some Ordering.lt) = decide (a < b) := by
  rw [Bool.eq_iff_iff]
  simp only [beq_iff_eq, Option.some.injEq, decide_eq_true_eq, compare, compareOfLessAndEq]
  split
  · simp; assumption
  · split <;> simp <;> omega

/-- a quarter of a turn, in units of 2 ^ -1074 -/
def QE : Nat := 1020
theorem QE_eq : QE = 1020 := rfl
def QU : Nat := 2 ^ (52 + QE)
theorem QU_eq : QU = 2 ^ (52 + QE) := rfl

/-- 'g is a number that is V units, without a minus sign where it is not nothing' -/
def PartV (g V : Nat) : Prop := ∃ s m e, Ieee.double.read g = .number s m e ∧ (-1074 : Int) ≤ e ∧ m * 2 ^ (e + 1074).toNat = V ∧ (s = false ∨ m = 0)
theorem PartV.bd {g V K : Nat} (h : PartV g V) (hV : V ≤ 2 ^ K) : Bd g K := by
  obtain ⟨s, m, e, h1, h2, h3, _⟩ := h
  exact ⟨s, m, e, h1, h2, by rw [h3]; exact hV⟩

theorem read_quarter : Ieee.double.read 4598175219545276416 = .number false (2 ^ 52) (-54) := by decide

/-- the test of a quarter -/
theorem quarter_test (g V : Nat) (h : PartV g V) : (FloatKind.f64.format.order g 4598175219545276416 == some .gt || FloatKind.f64.format.order g 4598175219545276416 == some .eq) = decide (QU ≤ V) := by
  obtain ⟨s, m, e, h1, h2, h3, h4⟩ := h
  have : FloatKind.f64.format.order g 4598175219545276416 = some (compare (Ieee.signed s m (e - min e (-54)).toNat) (Ieee.signed false (2 ^ 52) (-54 - min e (-54)).toNat)) := by
    show Ieee.double.order _ _ = _
    unfold Ieee.Format.order; rw [h1, read_quarter]; rfl
  rw [this, cmp_ge, Bool.eq_iff_iff, decide_eq_true_eq, decide_eq_true_eq]
  have e1 : (e + 1074).toNat = (e - min e (-54)).toNat + (min e (-54) + 1074).toNat := by omega
  have e2 : QE = (-54 - min e (-54)).toNat + (min e (-54) + 1074).toNat := by rw [QE_eq]; omega
  have hs : Ieee.signed s m (e - min e (-54)).toNat = ((m * 2 ^ (e - min e (-54)).toNat : Nat) : Int) := by
    rcases h4 with h | h
    · subst h; simp [Ieee.signed, shl_eq]
    · subst h; cases s <;> simp [Ieee.signed]
  have hq : Ieee.signed false (2 ^ 52) (-54 - min e (-54)).toNat = ((2 ^ 52 * 2 ^ (-54 - min e (-54)).toNat : Nat) : Int) := by simp [Ieee.signed, shl_eq]
  rw [hs, hq, Int.ofNat_le, ← h3, QU_eq, Nat.pow_add 2 52, e1, Nat.pow_add 2 (e - min e (-54)).toNat, ← Nat.mul_assoc]
  rw [show (2 : Nat) ^ QE = 2 ^ (-54 - min e (-54)).toNat * 2 ^ (min e (-54) + 1074).toNat by rw [← Nat.pow_add, ← e2], ← Nat.mul_assoc]
  constructor
  · intro h; exact Nat.mul_le_mul_right _ h
  · intro h; exact Nat.le_of_mul_le_mul_right h (Nat.two_pow_pos _)

/-- a part of a turn, of which a negative one has got 1 -/
theorem part_nn (f0 : Nat) (h : Bd f0 U) : ∃ f1 V, (if (FloatKind.f64.format.order f0 0 == some .lt) then floatBits .add .f64 f0 4607182418800017408 = some f1 else f1 = f0) ∧ PartV f1 V ∧ V ≤ 2 ^ U := by
  obtain ⟨s, m, e, h1, h2, h3⟩ := h
  have hlt : (FloatKind.f64.format.order f0 0 == some .lt) = (s && decide (m ≠ 0)) := by
    have ho : FloatKind.f64.format.order f0 0 = some (compare (Ieee.signed s m (e - min e (-1074)).toNat) 0) := by
      show Ieee.double.order _ _ = _
      unfold Ieee.Format.order
      rw [h1, show Ieee.double.read 0 = .number false 0 (-1074) by decide]
      simp only [Datum.order]
      congr 2
      simp [Ieee.signed]
    rw [ho, cmp_lt0, Bool.eq_iff_iff]
    have hp := Nat.two_pow_pos (e - min e (-1074)).toNat
    unfold Ieee.signed
    rw [shl_eq]
    simp only [Bool.and_eq_true, decide_eq_true_eq]
    cases s
    · simp only [Bool.false_eq_true, if_false, false_and, iff_false]; exact Int.not_lt.2 (Int.natCast_nonneg _)
    · simp only [if_true, true_and]
      constructor
      · intro h h0; subst h0; simp at h
      · intro h0
        have := Nat.mul_pos (Nat.pos_of_ne_zero h0) hp
        omega
  rw [hlt]
  cases hb : (s && decide (m ≠ 0))
  · refine ⟨f0, _, rfl, ⟨s, m, e, h1, h2, rfl, ?_⟩, h3⟩
    cases s
    · exact .inl rfl
    · right; simpa using hb
  · have hs : s = true := by cases s <;> simp_all
    subst hs
    have h4 : Ieee.double.read 4607182418800017408 = .number false (2 ^ 52) (-52) := by decide
    have h0 : floatBits .add .f64 f0 4607182418800017408 = ((Datum.number true m e).sum (Datum.number false (2 ^ 52) (-52))).map Ieee.double.write := by
      show ((Ieee.double.read f0).sum (Ieee.double.read _)).map Ieee.double.write = _
      rw [h1, h4]
    simp only [Datum.sum, Option.map_some] at h0
    have e1 : (e + 1074).toNat = (e - min e (-52)).toNat + (min e (-52) + 1074).toNat := by omega
    have hW : U = 1074 := U_eq
    have h5 : 2 ^ U = 2 ^ 52 * 2 ^ (-52 - min e (-52)).toNat * 2 ^ (min e (-52) + 1074).toNat := by
      rw [show U = 52 + ((-52 - min e (-52)).toNat + (min e (-52) + 1074).toNat) by omega, Nat.pow_add, Nat.pow_add, ← Nat.mul_assoc]
    rw [e1, Nat.pow_add, ← Nat.mul_assoc, h5] at h3
    have hle : m * 2 ^ (e - min e (-52)).toNat ≤ 2 ^ 52 * 2 ^ (-52 - min e (-52)).toNat := Nat.le_of_mul_le_mul_right h3 (Nat.two_pow_pos _)
    have hsum : Ieee.signed true m (e - min e (-52)).toNat + Ieee.signed false (2 ^ 52) (-52 - min e (-52)).toNat = ((2 ^ 52 * 2 ^ (-52 - min e (-52)).toNat - m * 2 ^ (e - min e (-52)).toNat : Nat) : Int) := by
      unfold Ieee.signed; rw [shl_eq, shl_eq]; simp only [if_true, Bool.false_eq_true, if_false]; omega
    rw [hsum, Int.natAbs_natCast] at h0
    have hsg : (if ((2 ^ 52 * 2 ^ (-52 - min e (-52)).toNat - m * 2 ^ (e - min e (-52)).toNat : Nat) : Int) = 0 then true && false else decide (((2 ^ 52 * 2 ^ (-52 - min e (-52)).toNat - m * 2 ^ (e - min e (-52)).toNat : Nat) : Int) < 0)) = false := by
      split
      · rfl
      · exact decide_eq_false (Int.not_lt.2 (Int.natCast_nonneg _))
    rw [hsg] at h0
    have hn := nn_nearest (2 ^ 52 * 2 ^ (-52 - min e (-52)).toNat - m * 2 ^ (e - min e (-52)).toNat) (min e (-52)) U 0 (by omega) (by omega) (by omega) (by
      rw [show (min e (-52) + 1074 + (0 : Nat)).toNat = (min e (-52) + 1074).toNat by simp, Nat.add_zero, h5]
      exact Nat.mul_le_mul_right _ (Nat.sub_le _ _))
    obtain ⟨m', e', k1, k2, k3⟩ := hn
    exact ⟨_, _, h0, ⟨false, m', e', k1, k2, rfl, .inl rfl⟩, k3⟩

/-- a quarter is taken away exactly -/
theorem quarter_step (g V : Nat) (h : PartV g V) (hV : V ≤ 2 ^ U) (hq : QU ≤ V) : ∃ g', floatBits .sub .f64 g 4598175219545276416 = some g' ∧ PartV g' (V - QU) := by
  obtain ⟨s, m, e, h1, h2, h3, h4⟩ := h
  have hUE : U = 54 + QE := by rw [U_eq, QE_eq]
  have hQp : 0 < 2 ^ QE := Nat.two_pow_pos _
  have hm0 : m ≠ 0 := by
    intro h0; subst h0
    rw [Nat.zero_mul] at h3
    have : 0 < QU := Nat.two_pow_pos _
    omega
  have hs : s = false := by rcases h4 with h | h
                            · exact h
                            · exact absurd h hm0
  subst hs
  obtain ⟨_, _, _, hm53⟩ := read_number _ (by decide) g false m e h1
  have hnorm := read_norm _ g false m e h1
  rw [lp64] at hnorm
  have hb : Ieee.double.binade = 2 ^ 52 := rfl
  rw [hb] at hm53 hnorm
  -- the place
  have he1 : -54 ≤ e := by
    rcases Int.lt_or_le e (-54) with hlt | hge
    · exfalso
      have g1 : (e + 1074).toNat + 1 ≤ QE := by rw [QE_eq]; omega
      have g2 : m * 2 ^ (e + 1074).toNat < 2 ^ 53 * 2 ^ (e + 1074).toNat := Nat.mul_lt_mul_of_pos_right (by omega) (Nat.two_pow_pos _)
      have g3 : 2 ^ 53 * 2 ^ (e + 1074).toNat ≤ QU := by
        rw [← Nat.pow_add, QU_eq]; exact Nat.pow_le_pow_right (by decide) (by omega)
      omega
    · exact hge
  have hbin : 2 ^ 52 ≤ m := by rcases hnorm with h | h <;> omega
  have he2 : e ≤ -52 := by
    rcases Int.lt_or_le (-52) e with hlt | hge
    · exfalso
      have g1 : U + 1 ≤ 52 + (e + 1074).toNat := by rw [U_eq]; omega
      have g2 : 2 ^ U * 2 ^ 1 ≤ m * 2 ^ (e + 1074).toNat := by
        rw [← Nat.pow_add]
        refine Nat.le_trans (Nat.pow_le_pow_right (by decide) g1) ?_
        rw [Nat.pow_add]; exact Nat.mul_le_mul_right _ hbin
      have := Nat.two_pow_pos U
      omega
    · exact hge
  have hbase : min e (-54) = -54 := by omega
  have h0 : floatBits .sub .f64 g 4598175219545276416 = ((Datum.number false m e).sum (Datum.number true (2 ^ 52) (-54))).map Ieee.double.write := by
    show ((Ieee.double.read g).sum (Ieee.double.read _).opposite).map Ieee.double.write = _
    rw [h1, read_quarter]; rfl
  simp only [Datum.sum, Option.map_some, hbase] at h0
  have hd : (-54 - -54 : Int).toNat = 0 := by decide
  rw [hd] at h0
  have heE : (e + 1074).toNat = (e - -54).toNat + QE := by rw [QE_eq]; omega
  rw [heE, Nat.pow_add, ← Nat.mul_assoc] at h3
  have hle : 2 ^ 52 ≤ m * 2 ^ (e - -54).toNat := Nat.le_trans hbin (Nat.le_mul_of_pos_right _ (Nat.two_pow_pos _))
  have hsum : Ieee.signed false m (e - -54).toNat + Ieee.signed true (2 ^ 52) 0 = ((m * 2 ^ (e - -54).toNat - 2 ^ 52 : Nat) : Int) := by
    unfold Ieee.signed; rw [shl_eq, shl_eq, Nat.pow_zero, Nat.mul_one]; simp only [if_true, Bool.false_eq_true, if_false]; omega
  rw [hsum, Int.natAbs_natCast] at h0
  have hsg : (if ((m * 2 ^ (e - -54).toNat - 2 ^ 52 : Nat) : Int) = 0 then false && true else decide (((m * 2 ^ (e - -54).toNat - 2 ^ 52 : Nat) : Int) < 0)) = false := by
    split
    · rfl
    · exact decide_eq_false (Int.not_lt.2 (Int.natCast_nonneg _))
  rw [hsg] at h0
  have hVQ : V - QU = (m * 2 ^ (e - -54).toNat - 2 ^ 52) * 2 ^ QE := by
    rw [Nat.sub_mul, ← h3, QU_eq, Nat.pow_add]
  rw [hVQ]
  refine ⟨_, h0, ?_⟩
  show PartV (Ieee.double.nearest false (m * 2 ^ (e - -54).toNat - 2 ^ 52) (-54)) _
  by_cases hT : m * 2 ^ (e - -54).toNat - 2 ^ 52 = 0
  · rw [hT]
    exact ⟨false, 0, _, read_nearest_zero _ _ _, by rw [lp64]; omega, by rw [Nat.zero_mul, Nat.zero_mul], .inl rfl⟩
  · -- T = t 2 ^ k with few digits
    have key : ∃ t k, m * 2 ^ (e - -54).toNat - 2 ^ 52 = t * 2 ^ k ∧ t < 2 ^ 53 ∧ k ≤ 2 := by
      have h54 : (e - -54).toNat = 0 ∨ (e - -54).toNat = 1 ∨ (e - -54).toNat = 2 := by omega
      rcases h54 with h | h | h
      · rw [h, Nat.pow_zero, Nat.mul_one]; exact ⟨m - 2 ^ 52, 0, by rw [Nat.pow_zero, Nat.mul_one], by omega, by omega⟩
      · rw [h]; exact ⟨m - 2 ^ 51, 1, by omega, by omega, by omega⟩
      · rw [h]; exact ⟨m - 2 ^ 50, 2, by omega, by omega, by omega⟩
    obtain ⟨t, k, hk, ht, hk2⟩ := key
    have ht0 : t ≠ 0 := by intro h; subst h; rw [Nat.zero_mul] at hk; exact hT hk
    have hL : t.log2 ≤ 52 := by have := (Nat.log2_lt ht0).2 ht; omega
    obtain ⟨m', e', r1, r2, r3⟩ := exact_read false t k (-54) ht0 hL (by omega) (by omega)
    rw [← hk] at r1
    refine ⟨false, m', e', r1, r2, ?_, .inl rfl⟩
    have hkE : (-54 + (k : Int) + 1074).toNat = k + QE := by rw [QE_eq]; omega
    rw [r3, hk, Nat.mul_assoc, ← Nat.pow_add, hkE]

/-- how often a quarter is taken away: at most four times -/
theorem quarters (n : Nat) : ∀ (g V : Nat), PartV g V → V ≤ 2 ^ U → V < (n + 1) * QU → ∃ (q : Nat) (G : Nat → Nat) (W : Nat), q ≤ n ∧ G 0 = g ∧
    (∀ j, j < q → (FloatKind.f64.format.order (G j) 4598175219545276416 == some .gt || FloatKind.f64.format.order (G j) 4598175219545276416 == some .eq) = true ∧ floatBits .sub .f64 (G j) 4598175219545276416 = some (G (j + 1))) ∧
    (FloatKind.f64.format.order (G q) 4598175219545276416 == some .gt || FloatKind.f64.format.order (G q) 4598175219545276416 == some .eq) = false ∧ PartV (G q) W ∧ W < QU := by
  induction n with
  | zero =>
    intro g V h hV hn
    have hlt : V < QU := by rw [Nat.zero_add, Nat.one_mul] at hn; exact hn
    refine ⟨0, fun _ => g, V, Nat.le_refl _, rfl, fun j hj => absurd hj (Nat.not_lt_zero _), ?_, h, hlt⟩
    rw [quarter_test g V h]; exact decide_eq_false (by omega)
  | succ n ih =>
    intro g V h hV hn
    by_cases hq : QU ≤ V
    · obtain ⟨g', hs, hp⟩ := quarter_step g V h hV hq
      obtain ⟨q, G, W, k1, k2, k3, k4, k5, k6⟩ := ih g' (V - QU) hp (by omega) (by rw [Nat.succ_mul] at hn; omega)
      refine ⟨q + 1, fun j => match j with | 0 => g | j + 1 => G j, W, by omega, rfl, ?_, k4, k5, k6⟩
      intro j hj
      cases j with
      | zero => exact ⟨by rw [quarter_test g V h]; exact decide_eq_true hq, by rw [hs]; simp [k2]⟩
      | succ j => exact k3 j (by omega)
    · refine ⟨0, fun _ => g, V, Nat.zero_le _, rfl, fun j hj => absurd hj (Nat.not_lt_zero _), ?_, h, by omega⟩
      rw [quarter_test g V h]; exact decide_eq_false hq

end Go.Proofs.Ytpocclcijkopnaa
