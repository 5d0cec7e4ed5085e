/- Numbers between bounds narrowed, added, taken from one another; lengths of small differences. Plain facts on floats. -/
import Derived.Test.YtmkpkkaedhekdaaCtr
import Derived.Test.YtmkpkkaedhekdaaGp
namespace Go.Proofs.Ytmkpkkaedhekdaa
open Fl Ieee Go.RowKit

theorem btw_narrow {x : Nat} {L U : Int} (D E : Nat) (hD : D = 1061) (hE : E = 136) (h : Btw double x D L U) (hLU : 0 ≤ L ∨ U ≤ 0) (lL : L.natAbs < 8388608) (lU : U.natAbs < 8388608) : ∃ r, floatToFloatBits .f64 x .f32 = some r ∧ Btw single r E L U := by
  obtain ⟨s, m, e, h1, h2, h3, h4⟩ := h
  rw [lp64] at h2 h3 h4
  obtain ⟨J, hJ⟩ : ∃ J, J = 925 := ⟨_, rfl⟩
  have ek : (e - single.leastPlace + J).toNat = (e - -1074).toNat := by rw [lp32]; omega
  have hb : single.binade = 8388608 := by decide
  have hi : single.infRung = 255 * 8388608 := by decide
  have hf : single.fractionBits = 23 := rfl
  have eD : D = E + J := by omega
  rw [eD] at h3 h4
  have hn := btw_nearest single s m e L U E J hLU (by rw [hb]; exact lL) (by rw [hb]; exact lU) (by rw [hf]; omega) (by rw [hb, hi]; omega) (by rw [lp32]; omega) (by rw [ek]; exact h3) (by rw [ek]; exact h4)
  refine ⟨single.nearest s m e, ?_, hn⟩
  obtain ⟨s', m', e', r1, _⟩ := hn
  unfold floatToFloatBits
  rw [if_neg (by decide)]
  show (match double.read x with | .nan _ _ => none | .infinity s => some (single.write (.infinity s)) | .number s m e => if (single.read (single.write (.number s m e))).isInfinity then none else some (single.write (.number s m e))) = some (single.nearest s m e)
  rw [h1]
  simp only []
  show (if (single.read (single.nearest s m e)).isInfinity then none else some (single.nearest s m e)) = _
  rw [r1]; rfl
theorem Btw.fin {x D : Nat} {L U : Int} (h : Btw single x D L U) : fin32 x = true := by
  obtain ⟨s, m, e, h1, _⟩ := h
  exact fin32_of h1
theorem exa_btw {y : Nat} {b : Int} (E : Nat) (hE : E = 136) (h : Exa single (-2) y b) (hb : b.natAbs < 1000000) : Btw single y E (b * 2048) (b * 2048) := by
  obtain ⟨s, m, k, h1, h2, h3, h4, h5⟩ := h.read he32 (fits32 (by omega) (by omega) (by omega))
  obtain ⟨_, g2, _, _⟩ := read_number single (by decide) y s m _ h1
  rw [lp32] at g2
  have e1 : (-2 - (k : Int) - single.leastPlace).toNat = 147 - k := by rw [lp32]; omega
  have hk : k ≤ 147 := by omega
  have hv : signed s m (-2 - (k : Int) - single.leastPlace).toNat = b * 2048 * ((2 ^ E : Nat) : Int) := by
    rw [e1, signed_up, h2, Int.mul_assoc, pow_split hk]
    obtain ⟨F, hF⟩ : ∃ F, F = 147 := ⟨_, rfl⟩
    rw [← hF, show F = 11 + E by omega, Nat.pow_add, Int.natCast_mul, Int.mul_assoc]
    rfl
  exact ⟨s, m, _, h1, by rw [lp32]; omega, by rw [hv]; exact Int.le_refl _, by rw [hv]; exact Int.le_refl _⟩
theorem nonneg_pow (k : Nat) : (0 : Int) ≤ ((2 ^ k : Nat) : Int) := Int.natCast_nonneg _
/-- what two numbers are together, in units of the least place -/
theorem sum_units {s t : Bool} {m n : Nat} {i j lp : Int} (hi : lp ≤ i) (hj : lp ≤ j) :
    (signed s m (i - min i j).toNat + signed t n (j - min i j).toNat) * ((2 ^ (min i j - lp).toNat : Nat) : Int) = signed s m (i - lp).toNat + signed t n (j - lp).toNat := by
  rw [Int.add_mul, signed_up s m (i - min i j).toNat, signed_up t n (j - min i j).toNat, signed_up s m (i - lp).toNat, signed_up t n (j - lp).toNat, Int.mul_assoc, Int.mul_assoc, ← Int.natCast_mul, ← Int.natCast_mul, ← Nat.pow_add, ← Nat.pow_add]
  have e1 : (i - min i j).toNat + (min i j - lp).toNat = (i - lp).toNat := by omega
  have e2 : (j - min i j).toNat + (min i j - lp).toNat = (j - lp).toNat := by omega
  rw [e1, e2]
theorem signed_total (T : Int) (b : Bool) (k : Nat) : signed (if T = 0 then b else decide (T < 0)) T.natAbs k = T * ((2 ^ k : Nat) : Int) := by
  by_cases h0 : T = 0
  · subst h0; rw [if_pos rfl]; cases b <;> simp [signed]
  · rw [if_neg h0]
    by_cases h : T < 0
    · rw [decide_eq_true h, signed_true, Int.natCast_mul, ← Int.neg_mul]; congr 1; omega
    · rw [decide_eq_false h, signed_false, Int.natCast_mul]; congr 1; omega
theorem btw_add {x y : Nat} {L U L' U' : Int} (E : Nat) (hE : E = 136) (hx : Btw single x E L U) (hy : Btw single y E L' U') (hLU : 0 ≤ L + L' ∨ U + U' ≤ 0) (lL : (L + L').natAbs < 8388608) (lU : (U + U').natAbs < 8388608) : ∃ r, floatBits .add .f32 x y = some r ∧ Btw single r E (L + L') (U + U') := by
  obtain ⟨s, m, i, h1, h2, h3, h4⟩ := hx
  obtain ⟨t, n, j, g1, g2, g3, g4⟩ := hy
  have h0 : floatBits .add .f32 x y = ((Datum.number s m i).sum (.number t n j)).map single.write := by
    show ((single.read x).sum (single.read y)).map single.write = _
    rw [h1, g1]
  rw [h0]
  refine ⟨_, rfl, ?_⟩
  have hb : single.binade = 8388608 := by decide
  have hi : single.infRung = 255 * 8388608 := by decide
  have hf : single.fractionBits = 23 := rfl
  have ht := sum_units (s := s) (t := t) (m := m) (n := n) h2 g2
  show Btw single (single.nearest _ (signed s m (i - min i j).toNat + signed t n (j - min i j).toNat).natAbs (min i j)) E (L + L') (U + U')
  generalize hT : signed s m (i - min i j).toNat + signed t n (j - min i j).toNat = T at ht
  have hp := nonneg_pow E
  refine btw_nearest single _ T.natAbs (min i j) (L + L') (U + U') E 0 hLU (by rw [hb]; exact lL) (by rw [hb]; exact lU) (by rw [hf]; omega) (by rw [hb, hi]; omega) (by omega) ?_ ?_
  · rw [signed_total, Nat.add_zero, show (min i j - single.leastPlace + ((0 : Nat) : Int)).toNat = (min i j - single.leastPlace).toNat by simp, ht, Int.add_mul]
    exact Int.add_le_add h3 g3
  · rw [signed_total, Nat.add_zero, show (min i j - single.leastPlace + ((0 : Nat) : Int)).toNat = (min i j - single.leastPlace).toNat by simp, ht, Int.add_mul]
    exact Int.add_le_add h4 g4
theorem signed_opposite (t : Bool) (n k : Nat) : signed (!t) n k = -signed t n k := by
  cases t
  · rw [Bool.not_false, signed_true, signed_false]
  · rw [Bool.not_true, signed_true, signed_false, Int.neg_neg]
/-- two numbers between the same neighbours are near one another -/
theorem btw_diff {x y : Nat} {L : Int} (E : Nat) (hE : E = 136) (hx : Btw single x E L (L + 1)) (hy : Btw single y E L (L + 1)) : ∃ r, floatBits .sub .f32 x y = some r ∧ Bd (wide r) 1061 ∧ nan32 r = false := by
  obtain ⟨s, m, i, h1, h2, h3, h4⟩ := hx
  obtain ⟨t, n, j, g1, g2, g3, g4⟩ := hy
  have h0 : floatBits .sub .f32 x y = ((Datum.number s m i).sum (.number (!t) n j)).map single.write := by
    show ((single.read x).sum (single.read y).opposite).map single.write = _
    rw [h1, g1]; rfl
  rw [h0]
  refine ⟨_, rfl, ?_⟩
  have hb : single.binade = 8388608 := by decide
  have hi : single.infRung = 255 * 8388608 := by decide
  have hf : single.fractionBits = 23 := rfl
  have ht := sum_units (s := s) (t := !t) (m := m) (n := n) h2 g2
  rw [signed_opposite t n (j - single.leastPlace).toNat] at ht
  show Bd (wide (single.nearest _ (signed s m (i - min i j).toNat + signed (!t) n (j - min i j).toNat).natAbs (min i j))) 1061 ∧ nan32 (single.nearest _ _ _) = false
  generalize hT : signed s m (i - min i j).toNat + signed (!t) n (j - min i j).toNat = T at ht
  have hp := nonneg_pow E
  have habs : (T * ((2 ^ (min i j - single.leastPlace).toNat : Nat) : Int)).natAbs ≤ 2 ^ E := by
    rw [ht]
    rw [Int.add_mul, Int.one_mul] at h4 g4
    generalize signed s m (i - single.leastPlace).toNat = A at *
    generalize signed t n (j - single.leastPlace).toNat = B at *
    generalize L * ((2 ^ E : Nat) : Int) = C at *
    generalize hq : 2 ^ E = q at *
    omega
  rw [Int.natAbs_mul, Int.natAbs_natCast] at habs
  obtain ⟨m', e', r1, r2, _, r3⟩ := near_btw single (if T = 0 then (s && !t) else decide (T < 0)) T.natAbs (min i j) 0 1 E 0 (by rw [hb]; decide) (by rw [hb]; decide) (by rw [hf]; omega) (by rw [hb, hi]; omega) (by omega)
    (by rw [Nat.zero_mul]; exact Nat.zero_le _) (by rw [show (min i j - single.leastPlace + ((0 : Nat) : Int)).toNat = (min i j - single.leastPlace).toNat by simp, Nat.one_mul, Nat.add_zero]; exact habs)
  rw [Nat.one_mul] at r3
  obtain ⟨m2, e2, q1, q2, q3⟩ := read_wide_number _ _ m' e' r1
  rw [lp32] at r2 r3
  refine ⟨⟨_, m2, e2, q1, q2, ?_⟩, fin_not_nan (fin32_of r1)⟩
  rw [← shl_eq, q3, shl_eq]
  obtain ⟨Z, hZ⟩ : ∃ Z, Z = 925 := ⟨_, rfl⟩
  obtain ⟨Y, hY⟩ : ∃ Y, Y = 1061 := ⟨_, rfl⟩
  have e3 : (e' + 1074).toNat = (e' - -149).toNat + Z := by omega
  rw [e3, ← hY, Nat.pow_add, ← Nat.mul_assoc]
  refine Nat.le_trans (Nat.mul_le_mul_right _ r3) ?_
  rw [← Nat.pow_add]
  exact Nat.pow_le_pow_right (by decide) (by omega)
end Go.Proofs.Ytmkpkkaedhekdaa
