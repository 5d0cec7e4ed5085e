/- Lengths of complex numbers whose parts are at most 2 ^ 127 can be narrowed: plain facts on floats. -/
import Derived.Test.YtmkpkkaedhekdaaBd
namespace Go.Proofs.Ytmkpkkaedhekdaa
namespace Fl
open Ieee

theorem nearest_le3 (f : Format) (s : Bool) (mag : Nat) (place : Int) (T D0 j : Nat) (hT : f.binade ≤ T) (hT2 : T < 2 * f.binade) (hj : 0 ≤ place - f.leastPlace + j)
    (h : mag * 2 ^ (place - f.leastPlace + j).toNat ≤ T * 2 ^ (D0 + j)) :
    ∃ rung, rung ≤ D0 * f.binade + T ∧ rung ≤ f.infRung ∧ f.nearest s mag place = f.word s rung := by
  by_cases hm : mag = 0
  · exact ⟨0, Nat.zero_le _, Nat.zero_le _, by unfold Format.nearest; rw [if_pos hm]⟩
  unfold Format.nearest
  rw [if_neg hm]
  dsimp only
  refine ⟨_, ?_, Nat.min_le_right _ _, rfl⟩
  refine Nat.le_trans (Nat.min_le_left _ _) ?_
  have hb : f.binade = 2 ^ f.fractionBits := rfl
  have hL : mag.log2 + (place - f.leastPlace + j).toNat < f.fractionBits + 1 + (D0 + j) := by
    apply (Nat.pow_lt_pow_iff_right (show 1 < 2 by decide)).1
    rw [Nat.pow_add, Nat.pow_add 2 (f.fractionBits + 1)]
    refine Nat.lt_of_le_of_lt (Nat.mul_le_mul_right _ (two_log_le mag hm)) (Nat.lt_of_le_of_lt h ?_)
    refine Nat.mul_lt_mul_of_pos_right ?_ (Nat.two_pow_pos _)
    rw [Nat.pow_succ, ← hb]; omega
  have hk0 : mag < 2 ^ (mag.log2 + 1) := lt_two_log mag
  generalize hlast : max (place + mag.log2 - f.fractionBits) f.leastPlace = last
  have hl1 : place + mag.log2 - f.fractionBits ≤ last := by omega
  have hl2 : f.leastPlace ≤ last := by omega
  have hl3 : (last - f.leastPlace).toNat ≤ D0 := by omega
  have hT1 : Toward.even.cut s (mag <<< (place - last).toNat) (last - place).toNat ≤ 2 ^ (f.fractionBits + 1) := by
    apply cut_le
    rw [shl_eq, ← Nat.pow_add]
    have e : mag.log2 + 1 + (place - last).toNat ≤ f.fractionBits + 1 + (last - place).toNat := by omega
    calc mag * 2 ^ (place - last).toNat ≤ 2 ^ (mag.log2 + 1) * 2 ^ (place - last).toNat := Nat.mul_le_mul_right _ (Nat.le_of_lt hk0)
      _ = 2 ^ (mag.log2 + 1 + (place - last).toNat) := (Nat.pow_add ..).symm
      _ ≤ _ := Nat.pow_le_pow_right (by decide) e
  have hT3 : (last - f.leastPlace).toNat = D0 → Toward.even.cut s (mag <<< (place - last).toNat) (last - place).toNat ≤ T := by
    intro hD
    apply cut_le
    rw [shl_eq]
    have hp : 0 < 2 ^ (j + D0) := Nat.two_pow_pos _
    refine Nat.le_of_mul_le_mul_right ?_ hp
    rw [Nat.mul_assoc, ← Nat.pow_add, Nat.mul_assoc, ← Nat.pow_add]
    have e1 : (place - last).toNat + (j + D0) = (place - f.leastPlace + j).toNat + (last - place).toNat := by omega
    have e2 : (last - place).toNat + (j + D0) = (D0 + j) + (last - place).toNat := by omega
    rw [e1, e2, Nat.pow_add, Nat.pow_add 2 (D0 + j), ← Nat.mul_assoc, ← Nat.mul_assoc]
    exact Nat.mul_le_mul_right _ h
  generalize Toward.even.cut s (mag <<< (place - last).toNat) (last - place).toNat = kept at *
  generalize (last - f.leastPlace).toNat = D at *
  rcases Nat.lt_or_ge D D0 with h1 | h1
  · have h2 : kept ≤ 2 * f.binade := by rw [hb]; rw [Nat.pow_succ] at hT1; omega
    have h3 : (D + 2) * f.binade ≤ (D0 + 1) * f.binade := Nat.mul_le_mul_right _ (by omega)
    rw [Nat.add_mul, Nat.add_mul, Nat.one_mul] at h3
    omega
  · have h2 : D = D0 := by omega
    have h3 := hT3 h2
    rw [h2]
    omega

theorem rung_value3 (f : Format) (s : Bool) (T D0 rung : Nat) (hT : f.binade ≤ T) (hr : rung ≤ D0 * f.binade + T) (hT2 : T < 2 * f.binade) (hi : rung < f.infRung) :
    ∃ m e, f.read (f.word s rung) = .number s m e ∧ f.leastPlace ≤ e ∧ m * 2 ^ (e - f.leastPlace).toNat ≤ T * 2 ^ D0 := by
  have hbp := bin_pos f
  rw [read_word f s rung (Nat.lt_trans hi f.infRung_lt)]
  by_cases h1 : rung < f.binade
  · rw [if_pos h1]
    refine ⟨_, _, rfl, Int.le_refl _, ?_⟩
    rw [show (f.leastPlace - f.leastPlace).toNat = 0 by omega, Nat.pow_zero, Nat.mul_one]
    have := Nat.mul_le_mul_left T (Nat.two_pow_pos D0)
    omega
  · rw [if_neg h1, if_pos hi]
    refine ⟨_, _, rfl, by omega, ?_⟩
    have hmod := Nat.mod_lt rung hbp
    have hdm := Nat.div_add_mod rung f.binade
    have he : (f.leastPlace + ((rung / f.binade - 1 : Nat) : Int) - f.leastPlace).toNat = rung / f.binade - 1 := by omega
    rw [he]
    have hq1 : 1 ≤ rung / f.binade := (Nat.one_le_div_iff hbp).2 (by omega)
    have hq : rung / f.binade ≤ D0 + 1 := by
      rw [Nat.div_le_iff_le_mul_add_pred hbp]
      rw [Nat.mul_add, Nat.mul_one, Nat.mul_comm f.binade]; omega
    rcases Nat.lt_or_ge (rung / f.binade) (D0 + 1) with h2 | h2
    · calc (f.binade + rung % f.binade) * 2 ^ (rung / f.binade - 1) ≤ (2 * f.binade) * 2 ^ (rung / f.binade - 1) := Nat.mul_le_mul_right _ (by omega)
        _ = f.binade * 2 ^ (rung / f.binade - 1 + 1) := by rw [Nat.pow_succ]; simp only [Nat.mul_assoc, Nat.mul_comm, Nat.mul_left_comm]
        _ ≤ T * 2 ^ D0 := Nat.mul_le_mul hT (Nat.pow_le_pow_right (by decide) (by omega))
    · have h3 : rung / f.binade = D0 + 1 := by omega
      rw [h3] at hdm
      rw [Nat.mul_add, Nat.mul_one, Nat.mul_comm f.binade] at hdm
      rw [h3]
      exact Nat.mul_le_mul (by omega) (Nat.le_refl _)

/-- 'the 64-bit number x is finite, and at most 3 * 2 ^ 126' -/
def Bd3 (x : Nat) : Prop := ∃ s m e, Ieee.double.read x = .number s m e ∧ (-1074 : Int) ≤ e ∧ ∃ E, E = 1200 ∧ m * 2 ^ (e + 1074).toNat ≤ 3 * 2 ^ E

theorem bd3_nearest (s : Bool) (mag : Nat) (place : Int) (j E : Nat) (hE : E = 1200) (hj : 0 ≤ place + 1074 + j) (h : mag * 2 ^ (place + 1074 + j).toNat ≤ 3 * 2 ^ (E + j)) : Bd3 (Ieee.double.nearest s mag place) := by
  have hb : Ieee.double.binade = 2 ^ 52 := rfl
  have hi : Ieee.double.infRung = 2047 * 2 ^ 52 := by decide
  have e0 : place - Ieee.double.leastPlace + j = place + 1074 + j := by rw [lp64]; omega
  obtain ⟨D, hD⟩ : ∃ D, D = 1149 := ⟨_, rfl⟩
  have eE : ∀ k, 3 * 2 ^ (E + k) = (3 * 2 ^ 51) * 2 ^ (D + k) := by
    intro k
    rw [Nat.mul_assoc, ← Nat.pow_add]
    congr 2
    omega
  obtain ⟨rung, h1, _, h3⟩ := nearest_le3 Ieee.double s mag place (3 * 2 ^ 51) D j (by rw [hb]; decide) (by rw [hb]; decide) (by rw [e0]; exact hj) (by rw [e0, ← eE]; exact h)
  rw [hb] at h1
  obtain ⟨m, e, g1, g2, g3⟩ := rung_value3 Ieee.double s (3 * 2 ^ 51) D rung (by rw [hb]; decide) (by rw [hb]; exact h1) (by rw [hb]; decide) (by rw [hi]; omega)
  rw [lp64] at g2 g3
  rw [h3]
  refine ⟨s, m, e, g1, g2, E, hE, ?_⟩
  have := eE 0
  rw [Nat.add_zero, Nat.add_zero] at this
  rw [this]
  simpa using g3
theorem narrow3_ok {x : Nat} (h : Bd3 x) : floatToFloatBits .f64 x .f32 = some (narrow x) ∧ nan32 (narrow x) = false := by
  obtain ⟨s, m, e, h1, h2, E, hE, h3⟩ := h
  have hlp : Ieee.single.leastPlace = -149 := lp32
  have hb : Ieee.single.binade = 2 ^ 23 := rfl
  have hi : Ieee.single.infRung = 255 * 2 ^ 23 := by decide
  obtain ⟨J, hJ⟩ : ∃ J, J = 925 := ⟨_, rfl⟩
  obtain ⟨D, hD⟩ : ∃ D, D = 253 := ⟨_, rfl⟩
  obtain ⟨rung, g1, _, g3⟩ := nearest_le3 Ieee.single s m e (3 * 2 ^ 22) D J (by rw [hb]; decide) (by rw [hb]; decide) (by rw [hlp]; omega) (by
    have e1 : (e - Ieee.single.leastPlace + (J : Nat)).toNat = (e + 1074).toNat := by rw [hlp]; omega
    rw [e1]
    refine Nat.le_trans h3 (Nat.le_of_eq ?_)
    rw [Nat.mul_assoc, ← Nat.pow_add]
    congr 2
    omega)
  rw [hb] at g1
  have hr : rung < Ieee.single.infRung := by rw [hi]; omega
  obtain ⟨m', e', k1, _, _⟩ := rung_value3 Ieee.single s (3 * 2 ^ 22) D rung (by rw [hb]; decide) (by rw [hb]; exact g1) (by rw [hb]; decide) hr
  have hn : narrow x = Ieee.single.word s rung := by
    unfold narrow; rw [h1]; exact g3
  refine ⟨?_, by unfold nan32; rw [hn, k1]; rfl⟩
  unfold floatToFloatBits
  rw [if_neg (by decide)]
  show (match Ieee.double.read x with | .nan _ _ => none | .infinity s => some (Ieee.single.write (.infinity s)) | .number s m e => if (Ieee.single.read (Ieee.single.write (.number s m e))).isInfinity then none else some (Ieee.single.write (.number s m e))) = some (narrow x)
  have hw : narrow x = Ieee.single.write (.number s m e) := by unfold narrow; rw [h1]
  rw [h1]
  simp only []
  rw [← hw, hn, k1]
  simp [Datum.isInfinity]

/-- the square root of a number that is at most 2 ^ 255, where there is one -/
theorem bd3_sqrt {x : Nat} (K : Nat) (hK : K = 1329) (hx : Bd x K) : (Ieee.double.sqrt x = none) ∨ ∃ r, Ieee.double.sqrt x = some r ∧ Bd3 r := by
  obtain ⟨s, m, i, h1, h2, h3⟩ := hx
  have h0 : Ieee.double.sqrt x = ((Datum.number s m i).root 54).map Ieee.double.write := by
    show ((Ieee.double.read x).root (52 + 2)).map Ieee.double.write = _
    rw [h1]
  rw [h0]
  simp only [Datum.root]
  obtain ⟨E, hE⟩ : ∃ E, E = 1200 := ⟨_, rfl⟩
  by_cases hm : m = 0
  · rw [if_pos hm]
    refine .inr ⟨_, rfl, ?_⟩
    show Bd3 (Ieee.double.nearest s m i)
    refine bd3_nearest s m i 0 E hE (by omega) ?_
    rw [hm]; simp
  · rw [if_neg hm]
    by_cases hs : s = true
    · rw [if_pos hs]; exact .inl rfl
    · rw [if_neg hs]
      refine .inr ⟨_, rfl, ?_⟩
      generalize hmore : 2 * 54 - m.log2 + ((i - ((2 * 54 - m.log2 : Nat) : Int)) % 2).toNat = more
      have heven : (i - (more : Int)) % 2 = 0 := by omega
      generalize hw : Datum.rootFrom (m <<< more) ((m <<< more).log2 / 2 + 1) 0 = whole
      have hsq : whole * whole ≤ m <<< more := by rw [← hw]; exact rootFrom_sq _ _ _ (Nat.zero_le _)
      show Bd3 (Ieee.double.nearest false (2 * whole + (whole * whole != m <<< more).toNat) ((i - more) / 2 - 1))
      have hst : (whole * whole != m <<< more).toNat ≤ 1 := by cases (whole * whole != m <<< more) <;> decide
      generalize (whole * whole != m <<< more).toNat = st at hst
      rw [shl_eq] at hsq
      have hlog : m.log2 + (i + 1074).toNat ≤ K := by
        apply pow_le_of
        rw [Nat.pow_add]
        exact Nat.le_trans (Nat.mul_le_mul_right _ (two_log_le m hm)) h3
      refine bd3_nearest _ _ _ (1074 + more) E hE (by omega) ?_
      generalize hF : ((i - (more : Int)) / 2 - 1 + 1074 + ((1074 + more : Nat) : Int)).toNat = F
      have hE2 : 2 * F + 2 = (i + 1074).toNat + more + (E + E + E + E) - 1578 := by omega
      rcases Nat.lt_or_ge whole 9 with h5 | h5
      · have h6 : 2 * whole + st ≤ 32 := by omega
        calc (2 * whole + st) * 2 ^ F ≤ 2 ^ 5 * 2 ^ F := Nat.mul_le_mul_right _ h6
          _ = 2 ^ (5 + F) := (Nat.pow_add ..).symm
          _ ≤ 2 ^ (E + (1074 + more)) := Nat.pow_le_pow_right (by decide) (by omega)
          _ ≤ 3 * 2 ^ (E + (1074 + more)) := by omega
      · apply sq_le_sq
        have h6 : 8 * ((2 * whole + st) * (2 * whole + st)) ≤ 36 * (whole * whole) := by
          have : 2 * whole + st ≤ 2 * whole + 1 := by omega
          refine Nat.le_trans (Nat.mul_le_mul_left 8 (Nat.mul_le_mul this this)) ?_
          have e : (2 * whole + 1) * (2 * whole + 1) = 4 * (whole * whole) + 4 * whole + 1 := by
            have h7 := Nat.mul_mul_mul_comm 2 whole 2 whole
            rw [Nat.add_mul, Nat.mul_add, Nat.one_mul, Nat.mul_one, h7]
            omega
          rw [e]
          have h9 := Nat.mul_le_mul_right whole h5
          omega
        generalize 2 * whole + st = B at h6
        generalize hG : E + (1074 + more) = G
        refine Nat.le_of_mul_le_mul_right ?_ (show 0 < 32 by decide)
        have eA : ∀ v u : Nat, v * u * 32 = 8 * v * (u * 2 ^ 2) := by
          intro v u
          rw [Nat.mul_comm 8 v, Nat.mul_assoc v 8, ← Nat.mul_assoc 8, Nat.mul_comm 8 u, Nat.mul_assoc u 8, ← Nat.mul_assoc]
        have eB : ∀ u : Nat, 3 * u * (3 * u) * 32 = 36 * (u * u * 2 ^ 3) := by
          intro u
          rw [Nat.mul_mul_mul_comm 3 u 3 u]
          generalize u * u = v
          omega
        calc B * 2 ^ F * (B * 2 ^ F) * 32 = 8 * (B * B) * 2 ^ (2 * F + 2) := by
              rw [Nat.mul_mul_mul_comm, ← Nat.pow_add, eA, ← Nat.pow_add, show F + F + 2 = 2 * F + 2 by omega]
          _ ≤ 36 * (whole * whole) * 2 ^ (2 * F + 2) := Nat.mul_le_mul_right _ h6
          _ ≤ 36 * (m * 2 ^ more) * 2 ^ (2 * F + 2) := Nat.mul_le_mul_right _ (Nat.mul_le_mul_left _ hsq)
          _ = 36 * ((m * 2 ^ (i + 1074).toNat) * 2 ^ (more + more + (E + E + E + E - 1578))) := by
              rw [hE2, show (i + 1074).toNat + more + (E + E + E + E) - 1578 = (i + 1074).toNat + (more + (E + E + E + E - 1578)) by omega, Nat.pow_add, Nat.add_assoc more more, Nat.pow_add 2 more (more + _)]
              simp only [Nat.mul_assoc, Nat.mul_left_comm]
          _ ≤ 36 * (2 ^ K * 2 ^ (more + more + (E + E + E + E - 1578))) := Nat.mul_le_mul_left _ (Nat.mul_le_mul_right _ h3)
          _ = 36 * (2 ^ G * 2 ^ G * 2 ^ 3) := by
              rw [← Nat.pow_add, ← Nat.pow_add, ← Nat.pow_add, show K + (more + more + (E + E + E + E - 1578)) = G + G + 3 by omega]
          _ = 3 * 2 ^ G * (3 * 2 ^ G) * 32 := (eB _).symm
end Fl
end Go.Proofs.Ytmkpkkaedhekdaa
