/- How great the results of operations on 64-bit numbers can be: plain facts, loose bounds by powers of two. -/
import Derived.Test.YtjcjijfemedojaaGreatDoorFl
namespace Go.Proofs.YtjcjijfemedojaaGreatDoor
namespace Fl
open Ieee

theorem pow_le_of {a b : Nat} (h : (2 : Nat) ^ a ≤ 2 ^ b) : a ≤ b := (Nat.pow_le_pow_iff_right (by decide)).1 h

/-- rounding a quotient by a power of two does not pass a whole number -/
theorem cut_le (neg : Bool) (n drop T : Nat) (h : n ≤ T * 2 ^ drop) : Toward.even.cut neg n drop ≤ T := by
  unfold Toward.cut
  by_cases hd : drop ≤ n.log2 + 2
  · have hg : (1 : Nat) <<< min drop (n.log2 + 2) = 2 ^ drop := by rw [Nat.min_eq_left hd, shl_eq, Nat.one_mul]
    rw [hg]
    have hp : 0 < 2 ^ drop := Nat.two_pow_pos _
    have hdm := Nat.div_add_mod n (2 ^ drop)
    have hml := Nat.mod_lt n hp
    have hlow : n / 2 ^ drop ≤ T := Nat.div_le_of_le_mul (by rw [Nat.mul_comm]; exact h)
    dsimp only
    by_cases hr : n % 2 ^ drop = 0
    · have : (decide (2 ^ drop < 2 * (n % 2 ^ drop)) || (2 ^ drop == 2 * (n % 2 ^ drop) && n / 2 ^ drop % 2 == 1)) = false := by
        rw [hr]; simp
      rw [this]; simpa using hlow
    · have hlt : n / 2 ^ drop < T := by
        rcases Nat.lt_or_ge (n / 2 ^ drop) T with h1 | h1
        · exact h1
        · have := Nat.mul_le_mul_right (2 ^ drop) h1
          rw [Nat.mul_comm (n / 2 ^ drop)] at this
          omega
      cases (decide (2 ^ drop < 2 * (n % 2 ^ drop)) || (2 ^ drop == 2 * (n % 2 ^ drop) && n / 2 ^ drop % 2 == 1)) <;> simp <;> omega
  · have hg : (1 : Nat) <<< min drop (n.log2 + 2) = 2 ^ (n.log2 + 2) := by rw [Nat.min_eq_right (by omega), shl_eq, Nat.one_mul]
    rw [hg]
    have h1 := lt_two_log n
    have h2 : 2 ^ (n.log2 + 2) = 2 * 2 ^ (n.log2 + 1) := by rw [Nat.pow_succ, Nat.mul_comm]
    have hlow : n / 2 ^ (n.log2 + 2) = 0 := Nat.div_eq_of_lt (by omega)
    have hrest : n % 2 ^ (n.log2 + 2) = n := Nat.mod_eq_of_lt (by omega)
    dsimp only
    rw [hlow, hrest]
    have : (decide (2 ^ (n.log2 + 2) < 2 * n) || (2 ^ (n.log2 + 2) == 2 * n && 0 % 2 == 1)) = false := by
      simp; omega
    rw [this]; simp

theorem nearest_le (f : Format) (s : Bool) (mag : Nat) (place : Int) (K j : Nat) (hK : f.fractionBits ≤ K) (hj : 0 ≤ place - f.leastPlace + j)
    (h : mag * 2 ^ (place - f.leastPlace + j).toNat ≤ 2 ^ (K + j)) :
    ∃ rung, rung ≤ (K - f.fractionBits + 1) * f.binade ∧ rung ≤ f.infRung ∧ f.nearest s mag place = f.word s rung := by
  by_cases hm : mag = 0
  · exact ⟨0, Nat.zero_le _, Nat.zero_le _, by unfold Format.nearest; rw [if_pos hm]⟩
  unfold Format.nearest
  rw [if_neg hm]
  dsimp only
  refine ⟨_, ?_, Nat.min_le_right _ _, rfl⟩
  refine Nat.le_trans (Nat.min_le_left _ _) ?_
  have hL : mag.log2 + (place - f.leastPlace + j).toNat ≤ K + j := by
    apply pow_le_of
    rw [Nat.pow_add]
    exact Nat.le_trans (Nat.mul_le_mul_right _ (two_log_le mag hm)) h
  have hb : f.binade = 2 ^ f.fractionBits := rfl
  have hk0 : mag < 2 ^ (mag.log2 + 1) := lt_two_log mag
  generalize hlast : max (place + mag.log2 - f.fractionBits) f.leastPlace = last
  have hl1 : place + mag.log2 - f.fractionBits ≤ last := by omega
  have hl2 : f.leastPlace ≤ last := by omega
  have hl3 : (last - f.leastPlace).toNat + f.fractionBits ≤ K := by omega
  -- what is kept
  have hT1 : Toward.even.cut s (mag <<< (place - last).toNat) (last - place).toNat ≤ 2 ^ (f.fractionBits + 1) := by
    apply cut_le
    rw [shl_eq, ← Nat.pow_add]
    have e : mag.log2 + 1 + (place - last).toNat ≤ f.fractionBits + 1 + (last - place).toNat := by omega
    calc mag * 2 ^ (place - last).toNat ≤ 2 ^ (mag.log2 + 1) * 2 ^ (place - last).toNat := Nat.mul_le_mul_right _ (Nat.le_of_lt hk0)
      _ = 2 ^ (mag.log2 + 1 + (place - last).toNat) := (Nat.pow_add ..).symm
      _ ≤ _ := Nat.pow_le_pow_right (by decide) e
  have hT2 : Toward.even.cut s (mag <<< (place - last).toNat) (last - place).toNat ≤ 2 ^ (K - (last - f.leastPlace).toNat) := by
    apply cut_le
    rw [shl_eq, ← Nat.pow_add]
    -- scale by 2 ^ ((last - lp) + j)
    have hp : 0 < 2 ^ (j + (last - f.leastPlace).toNat) := Nat.two_pow_pos _
    refine Nat.le_of_mul_le_mul_right ?_ hp
    rw [Nat.mul_assoc, ← Nat.pow_add, ← Nat.pow_add]
    have e1 : (place - last).toNat + (j + (last - f.leastPlace).toNat) = (place - f.leastPlace + j).toNat + (last - place).toNat := by omega
    have e2 : K - (last - f.leastPlace).toNat + (last - place).toNat + (j + (last - f.leastPlace).toNat) = (K + j) + (last - place).toNat := by omega
    rw [e1, e2, Nat.pow_add, Nat.pow_add 2 (K + j), ← Nat.mul_assoc]
    exact Nat.mul_le_mul_right _ h
  generalize Toward.even.cut s (mag <<< (place - last).toNat) (last - place).toNat = kept at *
  generalize hD : (last - f.leastPlace).toNat = D at *
  rcases Nat.lt_or_ge D (K - f.fractionBits) with h1 | h1
  · have h2 : kept ≤ 2 * f.binade := by rw [hb]; rw [Nat.pow_succ] at hT1; omega
    have h3 : (D + 2) * f.binade ≤ (K - f.fractionBits + 1) * f.binade := Nat.mul_le_mul_right _ (by omega)
    rw [Nat.add_mul] at h3
    omega
  · have h2 : D = K - f.fractionBits := by omega
    have h3 : kept ≤ f.binade := by
      rw [hb]
      have : K - D = f.fractionBits := by omega
      rwa [this] at hT2
    rw [← h2, Nat.add_mul]
    omega

/-- the magnitude of what a rung reads as, in units of the least place -/
theorem rung_value (f : Format) (s : Bool) (K rung : Nat) (hK : f.fractionBits ≤ K) (hr : rung ≤ (K - f.fractionBits + 1) * f.binade) (hi : rung < f.infRung) :
    ∃ m e, f.read (f.word s rung) = .number s m e ∧ f.leastPlace ≤ e ∧ m * 2 ^ (e - f.leastPlace).toNat ≤ 2 ^ K := by
  have hbp := bin_pos f
  have hb : f.binade = 2 ^ f.fractionBits := rfl
  rw [read_word f s rung (Nat.lt_trans hi f.infRung_lt)]
  by_cases h1 : rung < f.binade
  · rw [if_pos h1]
    refine ⟨_, _, rfl, Int.le_refl _, ?_⟩
    rw [show (f.leastPlace - f.leastPlace).toNat = 0 by omega, Nat.pow_zero, Nat.mul_one]
    rw [hb] at h1
    exact Nat.le_trans (Nat.le_of_lt h1) (Nat.pow_le_pow_right (by decide) hK)
  · rw [if_neg h1, if_pos hi]
    refine ⟨_, _, rfl, by omega, ?_⟩
    have hq : rung / f.binade ≤ K - f.fractionBits + 1 := by
      rw [Nat.div_le_iff_le_mul_add_pred hbp]
      rw [Nat.mul_comm] at hr; omega
    have hmod := Nat.mod_lt rung hbp
    have hdm := Nat.div_add_mod rung f.binade
    have he : (f.leastPlace + ((rung / f.binade - 1 : Nat) : Int) - f.leastPlace).toNat = rung / f.binade - 1 := by omega
    rw [he]
    have hq1 : 1 ≤ rung / f.binade := (Nat.one_le_div_iff hbp).2 (by omega)
    rcases Nat.lt_or_ge (rung / f.binade) (K - f.fractionBits + 1) with h2 | h2
    · calc (f.binade + rung % f.binade) * 2 ^ (rung / f.binade - 1) ≤ 2 ^ (f.fractionBits + 1) * 2 ^ (rung / f.binade - 1) := Nat.mul_le_mul_right _ (by rw [Nat.pow_succ, ← hb]; omega)
        _ = 2 ^ (f.fractionBits + 1 + (rung / f.binade - 1)) := (Nat.pow_add ..).symm
        _ ≤ 2 ^ K := Nat.pow_le_pow_right (by decide) (by omega)
    · have h3 : rung / f.binade = K - f.fractionBits + 1 := by omega
      have h4 : rung % f.binade = 0 := by
        rw [h3] at hdm
        rw [Nat.mul_comm] at hr
        omega
      rw [h4, h3, Nat.add_zero, hb, ← Nat.pow_add]
      exact Nat.pow_le_pow_right (by decide) (by omega)

/-- 'the 64-bit number x is finite, and at most 2 ^ (K - 1074)' -/
def Bd (x K : Nat) : Prop := ∃ s m e, Ieee.double.read x = .number s m e ∧ (-1074 : Int) ≤ e ∧ m * 2 ^ (e + 1074).toNat ≤ 2 ^ K

theorem Bd.mono {x K K' : Nat} (h : Bd x K) (hk : K ≤ K') : Bd x K' := by
  obtain ⟨s, m, e, h1, h2, h3⟩ := h
  exact ⟨s, m, e, h1, h2, Nat.le_trans h3 (Nat.pow_le_pow_right (by decide) hk)⟩
theorem Bd.nan {x K : Nat} (h : Bd x K) : nan64 x = false := by
  obtain ⟨s, m, e, h1, _⟩ := h; unfold nan64; rw [h1]; rfl

theorem bd_nearest (s : Bool) (mag : Nat) (place : Int) (K j : Nat) (hK : 52 ≤ K) (hK2 : K ≤ 2096) (hj : 0 ≤ place + 1074 + j) (h : mag * 2 ^ (place + 1074 + j).toNat ≤ 2 ^ (K + j)) :
    Bd (Ieee.double.nearest s mag place) K := by
  have e0 : place - Ieee.double.leastPlace + j = place + 1074 + j := by rw [lp64]; omega
  obtain ⟨rung, h1, _, h3⟩ := nearest_le Ieee.double s mag place K j hK (by rw [e0]; exact hj) (by rw [e0]; exact h)
  have hb : Ieee.double.binade = 2 ^ 52 := rfl
  have hi : Ieee.double.infRung = 2047 * 2 ^ 52 := by decide
  have hf : Ieee.double.fractionBits = 52 := rfl
  rw [hf, hb] at h1
  obtain ⟨m, e, g1, g2, g3⟩ := rung_value Ieee.double s K rung hK h1 (by rw [hi]; have : (K - 52 + 1) * 2 ^ 52 ≤ 2045 * 2 ^ 52 := Nat.mul_le_mul_right _ (by omega); omega)
  rw [lp64] at g2 g3
  rw [h3]
  exact ⟨s, m, e, g1, g2, by simpa using g3⟩

theorem signed_abs (s : Bool) (m k : Nat) : (signed s m k).natAbs = m * 2 ^ k := by
  unfold signed; rw [shl_eq]; cases s
  · simp only [Bool.false_eq_true, if_false]; exact Int.natAbs_natCast _
  · simp only [if_true]; rw [Int.natAbs_neg]; exact Int.natAbs_natCast _

theorem bd_sum {x y : Nat} {K : Nat} (d : Datum) (hx : Bd x K) (hd : ∃ t n j, d = .number t n j ∧ (-1074 : Int) ≤ j ∧ n * 2 ^ (j + 1074).toNat ≤ 2 ^ K) (hK : 51 ≤ K) (hK2 : K ≤ 2095) (_h : y = y) :
    ∃ r, ((Ieee.double.read x).sum d).map Ieee.double.write = some r ∧ Bd r (K + 1) := by
  obtain ⟨s, m, i, h1, h2, h3⟩ := hx
  obtain ⟨t, n, j, rfl, h4, h5⟩ := hd
  rw [h1]
  refine ⟨_, rfl, ?_⟩
  show Bd (Ieee.double.nearest _ _ _) (K + 1)
  have e1 : (i + 1074).toNat = (i - min i j).toNat + (min i j + 1074).toNat := by omega
  have e2 : (j + 1074).toNat = (j - min i j).toNat + (min i j + 1074).toNat := by omega
  refine bd_nearest _ _ _ (K + 1) 0 (by omega) (by omega) (by omega) ?_
  have ht := Int.natAbs_add_le (signed s m (i - min i j).toNat) (signed t n (j - min i j).toNat)
  rw [signed_abs, signed_abs] at ht
  rw [show (min i j + 1074 + (0 : Nat)).toNat = (min i j + 1074).toNat by simp, Nat.add_zero]
  refine Nat.le_trans (Nat.mul_le_mul_right _ ht) ?_
  rw [Nat.add_mul, Nat.mul_assoc, Nat.mul_assoc, ← Nat.pow_add, ← Nat.pow_add, ← e1, ← e2, Nat.pow_succ]
  omega

theorem bd_add {x y K : Nat} (hx : Bd x K) (hy : Bd y K) (hK : 51 ≤ K) (hK2 : K ≤ 2095) : ∃ r, floatBits .add .f64 x y = some r ∧ Bd r (K + 1) := by
  obtain ⟨t, n, j, h1, h2, h3⟩ := hy
  exact bd_sum (y := y) (Ieee.double.read y) hx ⟨t, n, j, h1, h2, h3⟩ hK hK2 rfl
theorem bd_sub {x y K : Nat} (hx : Bd x K) (hy : Bd y K) (hK : 51 ≤ K) (hK2 : K ≤ 2095) : ∃ r, floatBits .sub .f64 x y = some r ∧ Bd r (K + 1) := by
  obtain ⟨t, n, j, h1, h2, h3⟩ := hy
  exact bd_sum (y := y) (Ieee.double.read y).opposite hx ⟨!t, n, j, by rw [h1]; rfl, h2, h3⟩ hK hK2 rfl

theorem bd_mul {x y K K' : Nat} (R : Nat) (hx : Bd x K) (hy : Bd y K') (hR : K + K' ≤ R + 1074) (hR1 : 52 ≤ R) (hR2 : R ≤ 2096) : ∃ r, floatBits .mul .f64 x y = some r ∧ Bd r R := by
  obtain ⟨s, m, i, h1, h2, h3⟩ := hx
  obtain ⟨t, n, j, h4, h5, h6⟩ := hy
  have h0 : floatBits .mul .f64 x y = some (Ieee.double.nearest (s ^^ t) (m * n) (i + j)) := by
    show ((Ieee.double.read x).product (Ieee.double.read y)).map Ieee.double.write = _
    rw [h1, h4]; rfl
  refine ⟨_, h0, bd_nearest _ _ _ R 1074 hR1 hR2 (by omega) ?_⟩
  have e : (i + j + 1074 + (1074 : Nat)).toNat = (i + 1074).toNat + (j + 1074).toNat := by omega
  rw [e, Nat.pow_add]
  calc m * n * (2 ^ (i + 1074).toNat * 2 ^ (j + 1074).toNat) = (m * 2 ^ (i + 1074).toNat) * (n * 2 ^ (j + 1074).toNat) := by
        rw [Nat.mul_assoc, Nat.mul_assoc, Nat.mul_left_comm n]
    _ ≤ 2 ^ K * 2 ^ K' := Nat.mul_le_mul h3 h6
    _ = 2 ^ (K + K') := (Nat.pow_add ..).symm
    _ ≤ 2 ^ (R + 1074) := Nat.pow_le_pow_right (by decide) hR

/-- a number that is not nothing, and at least 2 ^ (C - 1074) -/
def Lo (x C : Nat) : Prop := ∃ s m e, Ieee.double.read x = .number s m e ∧ (-1074 : Int) ≤ e ∧ 2 ^ C ≤ m * 2 ^ (e + 1074).toNat

theorem bd_quo {x y K C : Nat} (R : Nat) (hx : Bd x K) (hy : Lo y C) (hR : K + 1 + 1074 ≤ R + C) (hR1 : 52 ≤ R) (hR2 : R ≤ 2096) : ∃ r, floatBits .quo .f64 x y = some r ∧ Bd r R := by
  obtain ⟨s, m, i, h1, h2, h3⟩ := hx
  obtain ⟨t, n, j, h4, h5, h6⟩ := hy
  have hn : n ≠ 0 := by
    intro h; subst h
    have := Nat.two_pow_pos C
    simp at h6
  have h0 : floatBits .quo .f64 x y = ((Datum.number s m i).quotient 54 (.number t n j)).map Ieee.double.write := by
    show ((Ieee.double.read x).quotient (52 + 2) (Ieee.double.read y)).map Ieee.double.write = _
    rw [h1, h4]
  rw [h0]
  simp only [Datum.quotient, if_neg hn]
  refine ⟨_, rfl, ?_⟩
  generalize hmore : 54 + n.log2 - m.log2 = more
  generalize hq : m <<< more / n = q
  have hst : (m <<< more % n != 0).toNat ≤ 1 := by cases (m <<< more % n != 0) <;> decide
  have hq4 : 2 * q + (m <<< more % n != 0).toNat ≤ 4 * q := by
    rcases Nat.eq_zero_or_pos q with h | h
    · -- then the dividend is nothing
      have hm0 : m = 0 := by
        rcases Nat.eq_zero_or_pos m with hm | hm
        · exact hm
        · exfalso
          have g1 := two_log_le m (by omega)
          have g2 := lt_two_log n
          have g3 : n ≤ m <<< more := by
            rw [shl_eq]
            calc n ≤ 2 ^ (n.log2 + 1) := Nat.le_of_lt g2
              _ ≤ 2 ^ (m.log2 + more) := Nat.pow_le_pow_right (by decide) (by omega)
              _ = 2 ^ m.log2 * 2 ^ more := Nat.pow_add ..
              _ ≤ m * 2 ^ more := Nat.mul_le_mul_right _ g1
          have := Nat.div_pos g3 (by omega : 0 < n)
          omega
      subst hm0
      simp [h]
    · omega
  have hqn : q * n ≤ m * 2 ^ more := by
    rw [← hq, shl_eq]; exact Nat.div_mul_le_self _ _
  show Bd (Ieee.double.nearest _ (2 * q + (m <<< more % n != 0).toNat) (i - j - more - 1)) R
  refine bd_nearest _ _ _ R ((j + 1074).toNat + more + 1) hR1 hR2 (by omega) ?_
  obtain ⟨V, hV⟩ : ∃ V, V = 1074 := ⟨_, rfl⟩
  have e : (i - j - (more : Int) - 1 + 1074 + (((j + 1074).toNat + more + 1 : Nat) : Int)).toNat = (i + 1074).toNat + V := by omega
  rw [e]
  refine Nat.le_trans (Nat.mul_le_mul_right _ hq4) ?_
  -- times 2 ^ C
  refine Nat.le_of_mul_le_mul_right ?_ (Nat.two_pow_pos C)
  calc 4 * q * 2 ^ ((i + 1074).toNat + V) * 2 ^ C ≤ 4 * q * 2 ^ ((i + 1074).toNat + V) * (n * 2 ^ (j + 1074).toNat) := Nat.mul_le_mul_left _ h6
    _ = (q * n) * (4 * 2 ^ ((i + 1074).toNat + V) * 2 ^ (j + 1074).toNat) := by
        simp only [Nat.mul_assoc, Nat.mul_comm, Nat.mul_left_comm]
    _ ≤ (m * 2 ^ more) * (4 * 2 ^ ((i + 1074).toNat + V) * 2 ^ (j + 1074).toNat) := Nat.mul_le_mul_right _ hqn
    _ = (m * 2 ^ (i + 1074).toNat) * (2 ^ more * 2 ^ 2 * 2 ^ V * 2 ^ (j + 1074).toNat) := by
        rw [Nat.pow_add 2 (i + 1074).toNat]
        simp only [Nat.mul_assoc, Nat.mul_comm, Nat.mul_left_comm]
    _ ≤ 2 ^ K * (2 ^ more * 2 ^ 2 * 2 ^ V * 2 ^ (j + 1074).toNat) := Nat.mul_le_mul_right _ h3
    _ = 2 ^ (K + (more + 2 + V + (j + 1074).toNat)) := by rw [Nat.pow_add, Nat.pow_add, Nat.pow_add, Nat.pow_add]
    _ ≤ 2 ^ (R + ((j + 1074).toNat + more + 1) + C) := Nat.pow_le_pow_right (by decide) (by omega)
    _ = 2 ^ (R + ((j + 1074).toNat + more + 1)) * 2 ^ C := Nat.pow_add ..

theorem rootFrom_sq (n : Nat) : ∀ (todo root : Nat), root * root ≤ n → Datum.rootFrom n todo root * Datum.rootFrom n todo root ≤ n
  | 0, _, h => h
  | todo + 1, root, h => by
    unfold Datum.rootFrom
    dsimp only
    split
    · exact rootFrom_sq n todo _ (by assumption)
    · exact rootFrom_sq n todo _ h

/-- the narrowed number -/
def narrow (x : Nat) : Nat := Ieee.single.write (Ieee.double.read x)

theorem narrow_ok {x K : Nat} (h : Bd x K) (hK : 948 ≤ K) (hK2 : K ≤ 1201) : floatToFloatBits .f64 x .f32 = some (narrow x) ∧ nan32 (narrow x) = false := by
  obtain ⟨s, m, e, h1, h2, h3⟩ := h
  have hlp : Ieee.single.leastPlace = -149 := lp32
  have hfb : Ieee.single.fractionBits = 23 := rfl
  have hb : Ieee.single.binade = 2 ^ 23 := rfl
  have hi : Ieee.single.infRung = 255 * 2 ^ 23 := by decide
  obtain ⟨rung, g1, _, g3⟩ := nearest_le Ieee.single s m e (K - 925) 925 (by rw [hfb]; omega) (by rw [hlp]; omega) (by
    have e1 : (e - Ieee.single.leastPlace + (925 : Nat)).toNat = (e + 1074).toNat := by rw [hlp]; omega
    have e2 : K - 925 + 925 = K := by omega
    rw [e1, e2]; exact h3)
  rw [hfb, hb] at g1
  have hr : rung < Ieee.single.infRung := by
    rw [hi]
    have : (K - 925 - 23 + 1) * 2 ^ 23 ≤ 254 * 2 ^ 23 := Nat.mul_le_mul_right _ (by omega)
    omega
  obtain ⟨m', e', k1, _, _⟩ := rung_value Ieee.single s (K - 925) rung (by rw [hfb]; omega) (by rw [hfb, hb]; exact g1) hr
  have hn : narrow x = Ieee.single.word s rung := by
    unfold narrow; rw [h1]; exact g3
  refine ⟨?_, by unfold nan32; rw [hn, k1]; rfl⟩
  unfold floatToFloatBits
  rw [if_neg (by decide)]
  show (match Ieee.double.read x with | .nan _ _ => none | .infinity s => some (Ieee.single.write (.infinity s)) | .number s m e => if (Ieee.single.read (Ieee.single.write (.number s m e))).isInfinity then none else some (Ieee.single.write (.number s m e))) = some (narrow x)
  have hw : narrow x = Ieee.single.write (.number s m e) := by unfold narrow; rw [h1]
  rw [h1]
  simp only []
  rw [← hw, hn, k1]
  simp [Datum.isInfinity]

theorem bd_wide {x : Nat} (h : fin32 x = true) : Bd (wide x) 1202 := by
  obtain ⟨s, m, e, hx⟩ := fin32_number h
  obtain ⟨h1, h2, h3, h4⟩ := read_number _ (by decide) x s m e hx
  obtain ⟨m', e', g1, g2, g3⟩ := read_wide_number x s m e hx
  rw [lp32] at h2 h3
  have h3' : (e - -149).toNat + 3 ≤ 256 := h3
  have h4' : m < 2 ^ 24 := h4
  refine ⟨s, m', e', g1, g2, ?_⟩
  rw [← shl_eq, g3, shl_eq]
  calc m * 2 ^ (e + 1074).toNat ≤ 2 ^ 24 * 2 ^ (e + 1074).toNat := Nat.mul_le_mul_right _ (Nat.le_of_lt h4')
    _ = 2 ^ (24 + (e + 1074).toNat) := (Nat.pow_add ..).symm
    _ ≤ 2 ^ 1202 := Nat.pow_le_pow_right (by decide) (by omega)

theorem sq_le_sq {a b : Nat} (h : a * a ≤ b * b) : a ≤ b := by
  rcases Nat.lt_or_ge b a with h1 | h1
  · have := Nat.mul_lt_mul'' h1 h1; omega
  · exact h1

/-- the square root of a number that is at most 2 ^ (2 h), where there is one -/
theorem bd_sqrt {x K : Nat} (h : Nat) (hx : Bd x K) (hK : K ≤ 2 * h + 1074) (hh : h ≤ 1000) :
    (Ieee.double.sqrt x = none) ∨ ∃ r, Ieee.double.sqrt x = some r ∧ Bd r (h + 1 + 1074) := by
  obtain ⟨s, m, i, h1, h2, h3⟩ := hx
  have h0 : Ieee.double.sqrt x = ((Datum.number s m i).root 54).map Ieee.double.write := by
    show ((Ieee.double.read x).root (52 + 2)).map Ieee.double.write = _
    rw [h1]
  rw [h0]
  simp only [Datum.root]
  by_cases hm : m = 0
  · rw [if_pos hm]
    refine .inr ⟨_, rfl, ?_⟩
    show Bd (Ieee.double.nearest s m i) _
    refine bd_nearest s m i _ 0 (by omega) (by omega) (by omega) ?_
    rw [hm]; simp
  · rw [if_neg hm]
    by_cases hs : s = true
    · rw [if_pos hs]; exact .inl rfl
    · rw [if_neg hs]
      refine .inr ⟨_, rfl, ?_⟩
      generalize hmore : 2 * 54 - m.log2 + ((i - ((2 * 54 - m.log2 : Nat) : Int)) % 2).toNat = more
      have heven : (i - (more : Int)) % 2 = 0 := by omega
      generalize hw : Datum.rootFrom (m <<< more) ((m <<< more).log2 / 2 + 1) 0 = whole
      have hsq : whole * whole ≤ m <<< more := by rw [← hw]; exact rootFrom_sq _ _ _ (Nat.zero_le _)
      show Bd (Ieee.double.nearest false (2 * whole + (whole * whole != m <<< more).toNat) ((i - more) / 2 - 1)) _
      have hst : (whole * whole != m <<< more).toNat ≤ 1 := by cases (whole * whole != m <<< more) <;> decide
      generalize (whole * whole != m <<< more).toNat = st at hst
      obtain ⟨V, hV⟩ : ∃ V, V = 1074 := ⟨_, rfl⟩
      refine bd_nearest _ _ _ _ (1074 + more) (by omega) (by omega) (by omega) ?_
      have hpos : 0 < m <<< more := by rw [shl_eq]; exact Nat.mul_pos (by omega) (Nat.two_pow_pos _)
      have hq : (2 * whole + st) * (2 * whole + st) ≤ 16 * (m <<< more) := by
        rcases Nat.eq_zero_or_pos whole with h5 | h5
        · subst h5
          simp only [Nat.mul_zero, Nat.zero_add]
          have : st * st ≤ 1 * 1 := Nat.mul_le_mul hst hst
          omega
        · have h6 : 2 * whole + st ≤ 4 * whole := by omega
          have h7 := Nat.mul_le_mul h6 h6
          have h8 : 4 * whole * (4 * whole) = 16 * (whole * whole) := by rw [Nat.mul_mul_mul_comm]
          omega
      apply sq_le_sq
      generalize hE : ((i - (more : Int)) / 2 - 1 + 1074 + ((1074 + more : Nat) : Int)).toNat = E
      have hE2 : 2 * E + 2 = (i + 1074).toNat + more + (V + V + V) := by omega
      have hF : (h + 1 + 1074 + (1074 + more)) = h + 1 + V + (V + more) := by omega
      rw [hF]
      refine Nat.le_of_mul_le_mul_right ?_ (Nat.two_pow_pos 2)
      calc (2 * whole + st) * 2 ^ E * ((2 * whole + st) * 2 ^ E) * 2 ^ 2 = ((2 * whole + st) * (2 * whole + st)) * 2 ^ (2 * E + 2) := by
            rw [Nat.mul_mul_mul_comm, ← Nat.pow_add, Nat.mul_assoc, ← Nat.pow_add, show E + E + 2 = 2 * E + 2 by omega]
        _ ≤ (16 * (m <<< more)) * 2 ^ (2 * E + 2) := Nat.mul_le_mul_right _ hq
        _ = (m * 2 ^ (i + 1074).toNat) * 2 ^ (4 + more + more + (V + V + V)) := by
            rw [hE2, shl_eq, show (16 : Nat) = 2 ^ 4 from rfl]
            simp only [Nat.pow_add, Nat.mul_assoc, Nat.mul_comm, Nat.mul_left_comm]
        _ ≤ 2 ^ K * 2 ^ (4 + more + more + (V + V + V)) := Nat.mul_le_mul_right _ h3
        _ = 2 ^ (K + (4 + more + more + (V + V + V))) := (Nat.pow_add ..).symm
        _ ≤ 2 ^ ((h + 1 + V + (V + more)) + (h + 1 + V + (V + more)) + 2) := Nat.pow_le_pow_right (by decide) (by omega)
        _ = 2 ^ (h + 1 + V + (V + more)) * 2 ^ (h + 1 + V + (V + more)) * 2 ^ 2 := by rw [Nat.pow_add, Nat.pow_add]

end Fl
end Go.Proofs.YtjcjijfemedojaaGreatDoor
