/- Numbers between two bounds, rounded, stay between them. Plain facts on floats. -/
import Derived.Test.YtmkpkkaedhekdaaLgf
import Derived.Test.YtmkpkkaedhekdaaLo
import Derived.Test.YtmkpkkaedhekdaaExa
namespace Go.Proofs.Ytmkpkkaedhekdaa
open Fl Ieee

theorem nearest_ge3 (f : Format) (s : Bool) (mag : Nat) (place : Int) (T D0 j : Nat) (hT : f.binade ≤ T) (hT2 : T < 2 * f.binade) (hj : 0 ≤ place - f.leastPlace + j)
    (h : T * 2 ^ (D0 + j) ≤ mag * 2 ^ (place - f.leastPlace + j).toNat) (hi : D0 * f.binade + T ≤ f.infRung) :
    ∃ rung, D0 * f.binade + T ≤ rung ∧ rung ≤ f.infRung ∧ f.nearest s mag place = f.word s rung := by
  have hb : f.binade = 2 ^ f.fractionBits := rfl
  have hbp := bin_pos f
  have hm : mag ≠ 0 := by
    intro h0; subst h0
    have := Nat.mul_pos (Nat.lt_of_lt_of_le hbp hT) (Nat.two_pow_pos (D0 + j))
    rw [Nat.zero_mul] at h
    omega
  unfold Format.nearest
  rw [if_neg hm]
  dsimp only
  refine ⟨_, ?_, Nat.min_le_right _ _, rfl⟩
  refine Nat.le_min.2 ⟨?_, hi⟩
  have hL : f.fractionBits + (D0 + j) < mag.log2 + 1 + (place - f.leastPlace + j).toNat := by
    apply (Nat.pow_lt_pow_iff_right (by decide : 1 < 2)).1
    rw [Nat.pow_add 2 (mag.log2 + 1), Nat.pow_add 2 f.fractionBits, ← hb]
    exact Nat.lt_of_le_of_lt (Nat.le_trans (Nat.mul_le_mul_right _ hT) h) (Nat.mul_lt_mul_of_pos_right (lt_two_log mag) (Nat.two_pow_pos _))
  generalize hlast : max (place + mag.log2 - f.fractionBits) f.leastPlace = last
  have hl1 : place + mag.log2 - f.fractionBits ≤ last := by omega
  have hl2 : f.leastPlace ≤ last := by omega
  have hl3 : D0 ≤ (last - f.leastPlace).toNat := by omega
  rcases Nat.lt_or_ge D0 (last - f.leastPlace).toNat with h1 | h1
  · have hk : f.binade ≤ Toward.even.cut s (mag <<< (place - last).toNat) (last - place).toNat := by
      rw [hb]
      apply cut_ge
      rw [shl_eq, ← Nat.pow_add]
      calc 2 ^ (f.fractionBits + (last - place).toNat) ≤ 2 ^ (mag.log2 + (place - last).toNat) := Nat.pow_le_pow_right (by decide) (by omega)
        _ = 2 ^ mag.log2 * 2 ^ (place - last).toNat := Nat.pow_add ..
        _ ≤ mag * 2 ^ (place - last).toNat := Nat.mul_le_mul_right _ (two_log_le mag hm)
    have h3 : (D0 + 1) * f.binade ≤ (last - f.leastPlace).toNat * f.binade := Nat.mul_le_mul_right _ h1
    rw [Nat.add_mul, Nat.one_mul] at h3
    omega
  · have h2 : (last - f.leastPlace).toNat = D0 := by omega
    have hk : T ≤ Toward.even.cut s (mag <<< (place - last).toNat) (last - place).toNat := by
      apply cut_ge
      rw [shl_eq]
      have hp : 0 < 2 ^ (j + D0) := Nat.two_pow_pos _
      refine Nat.le_of_mul_le_mul_right ?_ hp
      rw [Nat.mul_assoc, ← Nat.pow_add, Nat.mul_assoc, ← Nat.pow_add]
      have e1 : (place - last).toNat + (j + D0) = (place - f.leastPlace + j).toNat + (last - place).toNat := by omega
      have e2 : (last - place).toNat + (j + D0) = (D0 + j) + (last - place).toNat := by omega
      rw [e1, e2, Nat.pow_add, Nat.pow_add 2 (place - f.leastPlace + j).toNat, ← Nat.mul_assoc, ← Nat.mul_assoc]
      exact Nat.mul_le_mul_right _ h
    rw [h2]
    omega
theorem rung_ge3 (f : Format) (s : Bool) (T D0 rung : Nat) (hT : f.binade ≤ T) (hT2 : T < 2 * f.binade) (hr : D0 * f.binade + T ≤ rung) (hi : rung < f.infRung) :
    ∃ m e, f.read (f.word s rung) = .number s m e ∧ f.leastPlace ≤ e ∧ T * 2 ^ D0 ≤ m * 2 ^ (e - f.leastPlace).toNat := by
  have hbp := bin_pos f
  have h1 : ¬ rung < f.binade := by omega
  rw [read_word f s rung (Nat.lt_trans hi f.infRung_lt), if_neg h1, if_pos hi]
  refine ⟨_, _, rfl, by omega, ?_⟩
  have hmod := Nat.mod_lt rung hbp
  have hdm := Nat.div_add_mod rung f.binade
  have he : (f.leastPlace + ((rung / f.binade - 1 : Nat) : Int) - f.leastPlace).toNat = rung / f.binade - 1 := by omega
  rw [he]
  have hq : D0 + 1 ≤ rung / f.binade := by
    rw [Nat.le_div_iff_mul_le hbp, Nat.add_mul, Nat.one_mul]; omega
  rcases Nat.lt_or_ge (D0 + 1) (rung / f.binade) with h2 | h2
  · calc T * 2 ^ D0 ≤ 2 * f.binade * 2 ^ D0 := Nat.mul_le_mul_right _ (Nat.le_of_lt hT2)
      _ = f.binade * 2 ^ (D0 + 1) := by rw [Nat.pow_succ, Nat.mul_comm 2 f.binade, Nat.mul_assoc, Nat.mul_comm 2]
      _ ≤ (f.binade + rung % f.binade) * 2 ^ (rung / f.binade - 1) := Nat.mul_le_mul (Nat.le_add_right _ _) (Nat.pow_le_pow_right (by decide) (by omega))
  · have h3 : rung / f.binade = D0 + 1 := by omega
    rw [h3] at hdm
    rw [Nat.mul_add, Nat.mul_one, Nat.mul_comm f.binade] at hdm
    rw [h3]
    exact Nat.mul_le_mul (by omega) (Nat.le_refl _)
/-- a number that fits, with its first digit in its place -/
theorem normal (f : Format) (B : Nat) (h0 : B ≠ 0) (hB : B < f.binade) : ∃ k, k ≤ f.fractionBits ∧ f.binade ≤ B * 2 ^ k ∧ B * 2 ^ k < 2 * f.binade := by
  have hb : f.binade = 2 ^ f.fractionBits := rfl
  have h1 := two_log_le B h0
  have h2 := lt_two_log B
  have h3 : B.log2 < f.fractionBits := by
    apply (Nat.pow_lt_pow_iff_right (by decide : 1 < 2)).1
    rw [← hb]; omega
  refine ⟨f.fractionBits - B.log2, Nat.sub_le _ _, ?_, ?_⟩
  · calc f.binade = 2 ^ B.log2 * 2 ^ (f.fractionBits - B.log2) := by rw [hb, ← Nat.pow_add]; congr 1; omega
      _ ≤ _ := Nat.mul_le_mul_right _ h1
  · calc B * 2 ^ (f.fractionBits - B.log2) < 2 ^ (B.log2 + 1) * 2 ^ (f.fractionBits - B.log2) := Nat.mul_lt_mul_of_pos_right h2 (Nat.two_pow_pos _)
      _ = 2 * f.binade := by rw [hb, ← Nat.pow_add, show B.log2 + 1 + (f.fractionBits - B.log2) = f.fractionBits + 1 by omega, Nat.pow_succ, Nat.mul_comm]
theorem near_btw (f : Format) (s : Bool) (mag : Nat) (place : Int) (A B D j : Nat) (hAB : A < f.binade) (hBb : B < f.binade) (hD : f.fractionBits ≤ D) (hi : (D + 2) * f.binade ≤ f.infRung) (hj : 0 ≤ place - f.leastPlace + j)
    (hA : A * 2 ^ (D + j) ≤ mag * 2 ^ (place - f.leastPlace + j).toNat) (hB : mag * 2 ^ (place - f.leastPlace + j).toNat ≤ B * 2 ^ (D + j)) :
    ∃ m e, f.read (f.nearest s mag place) = .number s m e ∧ f.leastPlace ≤ e ∧ A * 2 ^ D ≤ m * 2 ^ (e - f.leastPlace).toNat ∧ m * 2 ^ (e - f.leastPlace).toNat ≤ B * 2 ^ D := by
  by_cases hm : mag = 0
  · subst hm
    rw [read_nearest_zero]
    refine ⟨_, _, rfl, Int.le_refl _, ?_, by rw [Nat.zero_mul]; exact Nat.zero_le _⟩
    rw [Nat.zero_mul] at hA ⊢
    have : A = 0 := by
      rcases Nat.eq_zero_or_pos A with h | h
      · exact h
      · have := Nat.mul_pos h (Nat.two_pow_pos (D + j)); omega
    rw [this, Nat.zero_mul]; exact Nat.le_refl _
  · have hB0 : B ≠ 0 := by
      intro h; subst h
      have := Nat.mul_pos (Nat.pos_of_ne_zero hm) (Nat.two_pow_pos (place - f.leastPlace + j).toNat)
      rw [Nat.zero_mul] at hB; omega
    have ev : ∀ (X k : Nat), k ≤ D → X * 2 ^ (D + j) = X * 2 ^ k * 2 ^ (D - k + j) := by
      intro X k hk
      rw [Nat.mul_assoc, ← Nat.pow_add]; congr 2; omega
    have ev' : ∀ (X k : Nat), k ≤ D → X * 2 ^ k * 2 ^ (D - k) = X * 2 ^ D := by
      intro X k hk
      rw [Nat.mul_assoc, ← Nat.pow_add]; congr 2; omega
    obtain ⟨k, k0, k1, k2⟩ := normal f B hB0 hBb
    obtain ⟨rung, g1, g2, g3⟩ := nearest_le3 f s mag place (B * 2 ^ k) (D - k) j k1 k2 hj (by rw [← ev B k (by omega)]; exact hB)
    have hrung : rung < f.infRung := by
      have : (D - k) * f.binade ≤ D * f.binade := Nat.mul_le_mul_right _ (Nat.sub_le _ _)
      rw [Nat.add_mul] at hi
      omega
    obtain ⟨m, e, r1, r2, r3⟩ := rung_value3 f s (B * 2 ^ k) (D - k) rung k1 g1 k2 hrung
    refine ⟨m, e, by rw [g3]; exact r1, r2, ?_, by rw [← ev' B k (by omega)]; exact r3⟩
    by_cases hA0 : A = 0
    · rw [hA0, Nat.zero_mul]; exact Nat.zero_le _
    · obtain ⟨l, l0, l1, l2⟩ := normal f A hA0 hAB
      obtain ⟨rung', u1, u2, u3⟩ := nearest_ge3 f s mag place (A * 2 ^ l) (D - l) j l1 l2 hj (by rw [← ev A l (by omega)]; exact hA) (by
        have : (D - l) * f.binade ≤ D * f.binade := Nat.mul_le_mul_right _ (Nat.sub_le _ _)
        rw [Nat.add_mul] at hi
        omega)
      have hrr : rung' < f.infRung := by
        rcases Nat.lt_or_ge rung' f.infRung with h | h
        · exact h
        · have h9 : rung' = f.infRung := by omega
          have : f.read (f.word s f.infRung) = .infinity s := read_word_inf f s (by
            have : 1 * f.binade ≤ (D + 2) * f.binade := Nat.mul_le_mul_right _ (by omega)
            omega)
          rw [g3] at u3
          rw [u3, h9, this] at r1
          cases r1
      obtain ⟨m', e', v1, v2, v3⟩ := rung_ge3 f s (A * 2 ^ l) (D - l) rung' l1 l2 u1 hrr
      rw [g3] at u3
      rw [u3, v1] at r1
      injection r1 with _ a1 a2
      subst a1; subst a2
      rw [← ev' A l (by omega)]; exact v3
/-- 'x is a finite number between L and U, in units of 2 ^ D times the least' -/
def Btw (f : Format) (x D : Nat) (L U : Int) : Prop := ∃ s m e, f.read x = .number s m e ∧ f.leastPlace ≤ e ∧ L * ((2 ^ D : Nat) : Int) ≤ signed s m (e - f.leastPlace).toNat ∧ signed s m (e - f.leastPlace).toNat ≤ U * ((2 ^ D : Nat) : Int)
theorem signed_true (m k : Nat) : signed true m k = -((m * 2 ^ k : Nat) : Int) := by unfold signed; rw [shl_eq]; rfl
theorem signed_false (m k : Nat) : signed false m k = ((m * 2 ^ k : Nat) : Int) := by unfold signed; rw [shl_eq]; rfl
theorem btw_nearest (f : Format) (s : Bool) (mag : Nat) (place : Int) (L U : Int) (D j : Nat) (hLU : 0 ≤ L ∨ U ≤ 0) (hLb : L.natAbs < f.binade) (hUb : U.natAbs < f.binade) (hD : f.fractionBits ≤ D) (hi : (D + 2) * f.binade ≤ f.infRung) (hj : 0 ≤ place - f.leastPlace + j)
    (hL : L * ((2 ^ (D + j) : Nat) : Int) ≤ signed s mag (place - f.leastPlace + j).toNat) (hU : signed s mag (place - f.leastPlace + j).toNat ≤ U * ((2 ^ (D + j) : Nat) : Int)) : Btw f (f.nearest s mag place) D L U := by
  have hp := pow_pos' (D + j)
  have hp2 := Nat.two_pow_pos (place - f.leastPlace + j).toNat
  by_cases hm : mag = 0
  · subst hm
    refine ⟨_, _, _, read_nearest_zero f s place, Int.le_refl _, ?_⟩
    have e0 : ∀ k, signed s 0 k = 0 := by intro k; cases s <;> simp [signed]
    rw [e0] at hL hU ⊢
    have hp3 := pow_pos' D
    have h1 : L ≤ 0 := by
      rcases Int.lt_or_le 0 L with h | h
      · have := Int.mul_pos h hp; omega
      · exact h
    have h2 : 0 ≤ U := by
      rcases Int.lt_or_le U 0 with h | h
      · have := Int.mul_neg_of_neg_of_pos h hp; omega
      · exact h
    exact ⟨Int.mul_nonpos_of_nonpos_of_nonneg h1 (Int.le_of_lt hp3), Int.mul_nonneg h2 (Int.le_of_lt hp3)⟩
  · have hmp := Nat.mul_pos (Nat.pos_of_ne_zero hm) hp2
    cases s
    · rw [signed_false] at hL hU
      have hU0 : 0 < U := by
        rcases Int.lt_or_le 0 U with h | h
        · exact h
        · have := Int.mul_nonpos_of_nonpos_of_nonneg h (Int.le_of_lt hp); omega
      have hL0 : 0 ≤ L := by omega
      obtain ⟨l, rfl⟩ := Int.eq_ofNat_of_zero_le hL0
      obtain ⟨u, rfl⟩ := Int.eq_ofNat_of_zero_le (Int.le_of_lt hU0)
      obtain ⟨m, e, r1, r2, r3, r4⟩ := near_btw f false mag place l u D j (by simpa using hLb) (by simpa using hUb) hD hi hj (by exact_mod_cast hL) (by exact_mod_cast hU)
      refine ⟨_, _, _, r1, r2, ?_⟩
      rw [signed_false]
      exact ⟨by exact_mod_cast r3, by exact_mod_cast r4⟩
    · rw [signed_true] at hL hU
      have hL0 : L < 0 := by
        rcases Int.lt_or_le L 0 with h | h
        · exact h
        · have := Int.mul_nonneg h (Int.le_of_lt hp); omega
      have hU0 : U ≤ 0 := by omega
      obtain ⟨l, hl⟩ := Int.eq_ofNat_of_zero_le (show 0 ≤ -L by omega)
      obtain ⟨u, hu⟩ := Int.eq_ofNat_of_zero_le (show 0 ≤ -U by omega)
      have eL : L = -(l : Int) := by omega
      have eU : U = -(u : Int) := by omega
      subst eL; subst eU
      rw [Int.neg_mul] at hL hU
      obtain ⟨m, e, r1, r2, r3, r4⟩ := near_btw f true mag place u l D j (by simpa using hUb) (by simpa using hLb) hD hi hj (by have := Int.neg_le_neg_iff.1 hU; exact_mod_cast this) (by have := Int.neg_le_neg_iff.1 hL; exact_mod_cast this)
      refine ⟨_, _, _, r1, r2, ?_⟩
      rw [signed_true, Int.neg_mul, Int.neg_mul]
      exact ⟨Int.neg_le_neg (by exact_mod_cast r4), Int.neg_le_neg (by exact_mod_cast r3)⟩
end Go.Proofs.Ytmkpkkaedhekdaa
