/- The length of a small difference is small. -/
import Derived.Test.YtmkpkkaedhekdaaCts
import Derived.Test.YtmkpkkaedhekdaaLz
namespace Go.Proofs.Ytmkpkkaedhekdaa
open Go.RowKit Fl Ieee

theorem nn_sq {x K : Nat} (R : Nat) (hx : Bd x K) (hR : K + K ≤ R + 1074) (hR1 : 52 ≤ R) (hR2 : R ≤ 2096) : ∃ r, floatBits .mul .f64 x x = some r ∧ Nn r R := by
  obtain ⟨s, m, i, h1, h2, h3⟩ := hx
  have h0 : floatBits .mul .f64 x x = some (Ieee.double.nearest false (m * m) (i + i)) := by
    show ((Ieee.double.read x).product (Ieee.double.read x)).map Ieee.double.write = _
    rw [h1]
    show some (Ieee.double.nearest (s ^^ s) (m * m) (i + i)) = _
    rw [Bool.xor_self]
  refine ⟨_, h0, nn_nearest _ _ R 1074 hR1 hR2 (by omega) ?_⟩
  have e : (i + i + 1074 + (1074 : Nat)).toNat = (i + 1074).toNat + (i + 1074).toNat := by omega
  rw [e, Nat.pow_add]
  calc m * m * (2 ^ (i + 1074).toNat * 2 ^ (i + 1074).toNat) = (m * 2 ^ (i + 1074).toNat) * (m * 2 ^ (i + 1074).toNat) := Nat.mul_mul_mul_comm ..
    _ ≤ 2 ^ K * 2 ^ K := Nat.mul_le_mul h3 h3
    _ = 2 ^ (K + K) := (Nat.pow_add ..).symm
    _ ≤ 2 ^ (R + 1074) := Nat.pow_le_pow_right (by decide) hR
theorem nn_add {x y K : Nat} (hx : Nn x K) (hy : Nn y K) (hK : 51 ≤ K) (hK2 : K ≤ 2095) : ∃ r, floatBits .add .f64 x y = some r ∧ Nn r (K + 1) := by
  obtain ⟨m, i, h1, h2, h3⟩ := hx
  obtain ⟨n, j, g1, g2, g3⟩ := hy
  have h0 : floatBits .add .f64 x y = ((Datum.number false m i).sum (.number false n j)).map double.write := by
    show ((double.read x).sum (double.read y)).map double.write = _
    rw [h1, g1]
  rw [h0]
  refine ⟨_, rfl, ?_⟩
  show Nn (double.nearest (if signed false m (i - min i j).toNat + signed false n (j - min i j).toNat = 0 then (false && false) else decide (signed false m (i - min i j).toNat + signed false n (j - min i j).toNat < 0)) (signed false m (i - min i j).toNat + signed false n (j - min i j).toNat).natAbs (min i j)) (K + 1)
  rw [signed_false, signed_false, ← Int.natCast_add]
  have hs : (if ((m * 2 ^ (i - min i j).toNat + n * 2 ^ (j - min i j).toNat : Nat) : Int) = 0 then (false && false) else decide (((m * 2 ^ (i - min i j).toNat + n * 2 ^ (j - min i j).toNat : Nat) : Int) < 0)) = false := by
    split
    · rfl
    · exact decide_eq_false (by have := Int.natCast_nonneg (m * 2 ^ (i - min i j).toNat + n * 2 ^ (j - min i j).toNat); omega)
  rw [hs, Int.natAbs_natCast]
  refine nn_nearest _ _ (K + 1) 0 (by omega) (by omega) (by omega) ?_
  have e1 : (i + 1074).toNat = (i - min i j).toNat + (min i j + 1074).toNat := by omega
  have e2 : (j + 1074).toNat = (j - min i j).toNat + (min i j + 1074).toNat := by omega
  rw [show (min i j + 1074 + ((0 : Nat) : Int)).toNat = (min i j + 1074).toNat by simp, Nat.add_zero, Nat.add_mul, Nat.mul_assoc, Nat.mul_assoc, ← Nat.pow_add, ← Nat.pow_add, ← e1, ← e2, Nat.pow_succ]
  omega
theorem nn_sqrt {x K H : Nat} (hx : Nn x K) (hK : K + 1076 ≤ 2 * H) (hH : 52 ≤ H) (hH2 : H ≤ 2000) : ∃ r, double.sqrt x = some r ∧ Bd r H := by
  obtain ⟨m, i, h1, h2, h3⟩ := hx
  have h0 : double.sqrt x = ((Datum.number false m i).root 54).map double.write := by
    show ((double.read x).root (52 + 2)).map double.write = _
    rw [h1]
  rw [h0]
  simp only [Datum.root]
  by_cases hm : m = 0
  · rw [if_pos hm]
    refine ⟨_, rfl, ?_⟩
    show Bd (double.nearest false m i) _
    refine bd_nearest false m i _ 0 (by omega) (by omega) (by omega) ?_
    rw [hm]; simp
  · rw [if_neg hm, if_neg (by decide)]
    refine ⟨_, rfl, ?_⟩
    generalize hmore : 2 * 54 - m.log2 + ((i - ((2 * 54 - m.log2 : Nat) : Int)) % 2).toNat = more
    have heven : (i - (more : Int)) % 2 = 0 := by omega
    generalize hw : Datum.rootFrom (m <<< more) ((m <<< more).log2 / 2 + 1) 0 = whole
    have hsq : whole * whole ≤ m <<< more := by rw [← hw]; exact rootFrom_sq _ _ _ (Nat.zero_le _)
    show Bd (double.nearest false (2 * whole + (whole * whole != m <<< more).toNat) ((i - more) / 2 - 1)) _
    have hst : (whole * whole != m <<< more).toNat ≤ 1 := by cases (whole * whole != m <<< more) <;> decide
    generalize (whole * whole != m <<< more).toNat = st at hst
    rw [shl_eq] at hsq
    obtain ⟨V, hV⟩ : ∃ V, V = 1074 := ⟨_, rfl⟩
    refine bd_nearest _ _ _ _ (1074 + more) (by omega) (by omega) (by omega) ?_
    have hpos : 0 < m * 2 ^ more := Nat.mul_pos (by omega) (Nat.two_pow_pos _)
    have hq : (2 * whole + st) * (2 * whole + st) ≤ 16 * (m * 2 ^ more) := by
      rcases Nat.eq_zero_or_pos whole with h5 | h5
      · subst h5
        simp only [Nat.mul_zero, Nat.zero_add]
        have : st * st ≤ 1 * 1 := Nat.mul_le_mul hst hst
        omega
      · have h6 : 2 * whole + st ≤ 4 * whole := by omega
        have h7 := Nat.mul_le_mul h6 h6
        have h8 : 4 * whole * (4 * whole) = 16 * (whole * whole) := by rw [Nat.mul_mul_mul_comm]
        omega
    apply sq_le_sq
    generalize hF : ((i - (more : Int)) / 2 - 1 + 1074 + ((1074 + more : Nat) : Int)).toNat = F
    have hF2 : 2 * F + 2 = (i + 1074).toNat + more + (V + V + V) := by omega
    refine Nat.le_of_mul_le_mul_right ?_ (Nat.two_pow_pos 2)
    generalize 2 * whole + st = B at hq
    calc B * 2 ^ F * (B * 2 ^ F) * 2 ^ 2 = (B * B) * 2 ^ (2 * F + 2) := by
          rw [Nat.mul_mul_mul_comm, ← Nat.pow_add, Nat.mul_assoc, ← Nat.pow_add, show F + F + 2 = 2 * F + 2 by omega]
      _ ≤ (16 * (m * 2 ^ more)) * 2 ^ (2 * F + 2) := Nat.mul_le_mul_right _ hq
      _ = (m * 2 ^ (i + 1074).toNat) * 2 ^ (4 + more + more + (V + V + V)) := by
          rw [hF2, show (16 : Nat) = 2 ^ 4 from rfl]
          simp only [Nat.pow_add, Nat.mul_assoc, Nat.mul_comm, Nat.mul_left_comm]
      _ ≤ 2 ^ K * 2 ^ (4 + more + more + (V + V + V)) := Nat.mul_le_mul_right _ h3
      _ = 2 ^ (K + (4 + more + more + (V + V + V))) := (Nat.pow_add ..).symm
      _ ≤ 2 ^ ((H + (1074 + more)) + (H + (1074 + more)) + 2) := Nat.pow_le_pow_right (by decide) (by omega)
      _ = 2 ^ (H + (1074 + more)) * 2 ^ (H + (1074 + more)) * 2 ^ 2 := by rw [Nat.pow_add, Nat.pow_add]
/-- narrowing does not pass a power of two -/
theorem narrow_bd {x K : Nat} (h : Bd x K) (hK : 948 ≤ K) (hK2 : K ≤ 1201) : Bd (wide (narrow x)) K := by
  obtain ⟨s, m, e, h1, h2, h3⟩ := h
  have hfb : Ieee.single.fractionBits = 23 := rfl
  have hb : Ieee.single.binade = 2 ^ 23 := rfl
  have hi : Ieee.single.infRung = 255 * 2 ^ 23 := by decide
  obtain ⟨Z, hZ⟩ : ∃ Z, Z = 925 := ⟨_, rfl⟩
  obtain ⟨rung, g1, _, g3⟩ := nearest_le Ieee.single s m e (K - Z) Z (by rw [hfb]; omega) (by rw [lp32]; omega) (by
    have e1 : (e - Ieee.single.leastPlace + (Z : Nat)).toNat = (e + 1074).toNat := by rw [lp32]; omega
    have e2 : K - Z + Z = K := by omega
    rw [e1, e2]; exact h3)
  rw [hfb, hb] at g1
  have hr : rung < Ieee.single.infRung := by
    rw [hi]
    have : (K - Z - 23 + 1) * 2 ^ 23 ≤ 254 * 2 ^ 23 := Nat.mul_le_mul_right _ (by omega)
    omega
  obtain ⟨m', e', k1, k2, k3⟩ := rung_value Ieee.single s (K - Z) rung (by rw [hfb]; omega) (by rw [hfb, hb]; exact g1) hr
  rw [lp32] at k2 k3
  have hn : narrow x = Ieee.single.word s rung := by
    unfold narrow; rw [h1]; exact g3
  rw [← hn] at k1
  obtain ⟨m2, e2, q1, q2, q3⟩ := read_wide_number _ _ m' e' k1
  refine ⟨_, m2, e2, q1, q2, ?_⟩
  rw [← shl_eq, q3, shl_eq]
  have e3 : (e' + 1074).toNat = (e' - -149).toNat + Z := by omega
  rw [e3, Nat.pow_add, ← Nat.mul_assoc]
  refine Nat.le_trans (Nat.mul_le_mul_right _ k3) ?_
  rw [← Nat.pow_add]
  exact Nat.pow_le_pow_right (by decide) (by omega)
/-- the length of a complex number whose parts are at most 2 ^ -13 -/
theorem long_small {a b : Nat} (ha : Bd (wide a) 1061) (hb : Bd (wide b) 1061) : ∃ p q s v, LongW a b p q s (some v) ∧ nan32 v = false ∧ Bd (wide v) 1063 := by
  obtain ⟨p, hp, np⟩ := nn_sq 1048 ha (by omega) (by omega) (by omega)
  obtain ⟨q, hq, nq⟩ := nn_sq 1048 hb (by omega) (by omega) (by omega)
  obtain ⟨s, hs, ns⟩ := nn_add np nq (by omega) (by omega)
  obtain ⟨r, hr, br⟩ := nn_sqrt (H := 1063) ns (by omega) (by omega) (by omega)
  obtain ⟨n1, n2⟩ := narrow_ok br (by omega) (by omega)
  exact ⟨p, q, s, narrow r, ⟨hp, hq, hs, .inr ⟨r, _, hr, n1, rfl, n2⟩⟩, n2, narrow_bd br (by omega) (by omega)⟩
theorem read_milli : double.read 4562254508917369340 = .number false 4611686018427388 (-62) := by decide
/-- such a number is less than a thousandth -/
theorem lt_milli {x : Nat} (h : Bd x 1063) : FloatKind.f64.format.order x 4562254508917369340 = some .lt := by
  obtain ⟨s, m, e, h1, h2, h3⟩ := h
  show (double.read x).order (double.read 4562254508917369340) = _
  rw [h1, read_milli]
  simp only [Datum.order]
  congr 1
  -- in units of 2 ^ -1074
  obtain ⟨V, hV⟩ : ∃ V, V = 1012 := ⟨_, rfl⟩
  obtain ⟨Y, hY⟩ : ∃ Y, Y = 1063 := ⟨_, rfl⟩
  rw [← hY] at h3
  have hlt : signed s m (e - min e (-62)).toNat < signed false 4611686018427388 (-62 - min e (-62)).toNat := by
    refine Int.lt_of_mul_lt_mul_right (a := ((2 ^ (min e (-62) - -1074).toNat : Nat) : Int)) ?_ (nonneg_pow _)
    rw [signed_up s m, signed_up false, Int.mul_assoc, Int.mul_assoc, ← Int.natCast_mul, ← Int.natCast_mul, ← Nat.pow_add, ← Nat.pow_add]
    have e1 : (e - min e (-62)).toNat + (min e (-62) - -1074).toNat = (e + 1074).toNat := by omega
    have e2 : (-62 - min e (-62)).toNat + (min e (-62) - -1074).toNat = V := by omega
    rw [e1, e2, ← signed_up, ← signed_up, signed_false]
    have hb : (2 : Nat) ^ Y < 4611686018427388 * 2 ^ V := by
      rw [show Y = 51 + V by omega, Nat.pow_add]
      exact Nat.mul_lt_mul_of_pos_right (by decide) (Nat.two_pow_pos _)
    have hle : signed s m (e + 1074).toNat ≤ ((2 ^ Y : Nat) : Int) := by
      cases s
      · rw [signed_false]; exact Int.ofNat_le.2 h3
      · rw [signed_true]
        have := Int.natCast_nonneg (m * 2 ^ (e + 1074).toNat)
        have := nonneg_pow Y
        omega
    exact Int.lt_of_le_of_lt hle (Int.ofNat_lt.2 hb)
  simp only [compare, compareOfLessAndEq, if_pos hlt]
end Go.Proofs.Ytmkpkkaedhekdaa
