/- How small the results of operations on 64-bit numbers can be, and of which sign they are: plain facts. -/
import Derived.Test.YtmkpkkaedhekdaaBd
namespace Go.Proofs.Ytmkpkkaedhekdaa
namespace Fl
open Ieee

theorem cut_ge (neg : Bool) (n drop T : Nat) (h : T * 2 ^ drop ≤ n) : T ≤ Toward.even.cut neg n drop := by
  unfold Toward.cut
  dsimp only
  refine Nat.le_trans ?_ (Nat.le_add_right _ _)
  by_cases hd : drop ≤ n.log2 + 2
  · have hg : (1 : Nat) <<< min drop (n.log2 + 2) = 2 ^ drop := by rw [Nat.min_eq_left hd, shl_eq, Nat.one_mul]
    rw [hg]
    exact (Nat.le_div_iff_mul_le (Nat.two_pow_pos _)).2 h
  · have h1 := lt_two_log n
    have h2 : 2 ^ (n.log2 + 1) ≤ 2 ^ drop := Nat.pow_le_pow_right (by decide) (by omega)
    have : T = 0 := by
      rcases Nat.eq_zero_or_pos T with h3 | h3
      · exact h3
      · have := Nat.mul_le_mul_right (2 ^ drop) h3; omega
    rw [this]; exact Nat.zero_le _

theorem nearest_ge (f : Format) (s : Bool) (mag : Nat) (place : Int) (K j : Nat) (hK : f.fractionBits ≤ K) (hj : 0 ≤ place - f.leastPlace + j)
    (h : 2 ^ (K + j) ≤ mag * 2 ^ (place - f.leastPlace + j).toNat) (hi : (K - f.fractionBits + 1) * f.binade ≤ f.infRung) :
    ∃ rung, (K - f.fractionBits + 1) * f.binade ≤ rung ∧ rung ≤ f.infRung ∧ f.nearest s mag place = f.word s rung := by
  have hm : mag ≠ 0 := by
    intro h0; subst h0
    have := Nat.two_pow_pos (K + j); simp at h
  unfold Format.nearest
  rw [if_neg hm]
  dsimp only
  refine ⟨_, ?_, Nat.min_le_right _ _, rfl⟩
  refine Nat.le_min.2 ⟨?_, hi⟩
  have hL : K + j < mag.log2 + 1 + (place - f.leastPlace + j).toNat := by
    apply (Nat.pow_lt_pow_iff_right (by decide : 1 < 2)).1
    rw [Nat.pow_add 2 (mag.log2 + 1)]
    exact Nat.lt_of_le_of_lt h (Nat.mul_lt_mul_of_pos_right (lt_two_log mag) (Nat.two_pow_pos _))
  have hb : f.binade = 2 ^ f.fractionBits := rfl
  generalize hlast : max (place + mag.log2 - f.fractionBits) f.leastPlace = last
  have hl1 : place + mag.log2 - f.fractionBits ≤ last := by omega
  have hl2 : f.leastPlace ≤ last := by omega
  have hl3 : K ≤ (last - f.leastPlace).toNat + f.fractionBits := by omega
  rcases Nat.lt_or_ge K ((last - f.leastPlace).toNat + f.fractionBits) with h1 | h1
  · refine Nat.le_trans ?_ (Nat.le_add_right _ _)
    exact Nat.mul_le_mul_right _ (by omega)
  · have h2 : (last - f.leastPlace).toNat = K - f.fractionBits := by omega
    rw [h2, Nat.add_mul, Nat.one_mul]
    refine Nat.add_le_add_left ?_ _
    rw [hb]
    apply cut_ge
    rw [shl_eq, ← Nat.pow_add]
    have hp : 0 < 2 ^ (j + (last - f.leastPlace).toNat) := Nat.two_pow_pos _
    refine Nat.le_of_mul_le_mul_right ?_ hp
    rw [Nat.mul_assoc, ← Nat.pow_add, ← Nat.pow_add]
    have e1 : (place - last).toNat + (j + (last - f.leastPlace).toNat) = (place - f.leastPlace + j).toNat + (last - place).toNat := by omega
    have e2 : f.fractionBits + (last - place).toNat + (j + (last - f.leastPlace).toNat) = (K + j) + (last - place).toNat := by omega
    rw [e1, e2, Nat.pow_add, Nat.pow_add 2 (place - f.leastPlace + j).toNat, ← Nat.mul_assoc]
    exact Nat.mul_le_mul_right _ h

/-- 'x is a finite number without a minus sign, at least 2 ^ (C - 1074) and at most 2 ^ (K - 1074)' -/
def Rg (x C K : Nat) : Prop := ∃ m e, Ieee.double.read x = .number false m e ∧ (-1074 : Int) ≤ e ∧ 2 ^ C ≤ m * 2 ^ (e + 1074).toNat ∧ m * 2 ^ (e + 1074).toNat ≤ 2 ^ K
theorem Rg.lo {x C K : Nat} (h : Rg x C K) : Lo x C := by obtain ⟨m, e, h1, h2, h3, _⟩ := h; exact ⟨false, m, e, h1, h2, h3⟩
theorem Rg.bd {x C K : Nat} (h : Rg x C K) : Bd x K := by obtain ⟨m, e, h1, h2, _, h3⟩ := h; exact ⟨false, m, e, h1, h2, h3⟩

/-- 'x is a finite number without a minus sign, at most 2 ^ (K - 1074)' -/
def Nn (x K : Nat) : Prop := ∃ m e, Ieee.double.read x = .number false m e ∧ (-1074 : Int) ≤ e ∧ m * 2 ^ (e + 1074).toNat ≤ 2 ^ K
theorem Nn.bd {x K : Nat} (h : Nn x K) : Bd x K := by obtain ⟨m, e, h1, h2, h3⟩ := h; exact ⟨false, m, e, h1, h2, h3⟩
theorem Rg.nn {x C K : Nat} (h : Rg x C K) : Nn x K := by obtain ⟨m, e, h1, h2, _, h3⟩ := h; exact ⟨m, e, h1, h2, h3⟩

theorem read_word_sign (f : Format) (s s' : Bool) (rung m : Nat) (e : Int) (h : f.read (f.word s rung) = .number s' m e) (hr : rung < f.signWeight) : s' = s := by
  rw [read_word f s rung hr] at h
  split at h
  · injection h with h; exact h.symm
  · split at h
    · injection h with h; exact h.symm
    · split at h <;> cases h

/-- a rounded number without a minus sign -/
theorem nn_nearest (mag : Nat) (place : Int) (K j : Nat) (hK : 52 ≤ K) (hK2 : K ≤ 2096) (hj : 0 ≤ place + 1074 + j) (h : mag * 2 ^ (place + 1074 + j).toNat ≤ 2 ^ (K + j)) :
    Nn (Ieee.double.nearest false mag place) K := by
  obtain ⟨s, m, e, h1, h2, h3⟩ := bd_nearest false mag place K j hK hK2 hj h
  have hs : s = false := by
    have hw : ∃ rung, rung ≤ Ieee.double.infRung ∧ Ieee.double.nearest false mag place = Ieee.double.word false rung := by
      unfold Format.nearest
      split
      · exact ⟨0, Nat.zero_le _, rfl⟩
      · exact ⟨_, Nat.min_le_right _ _, rfl⟩
    obtain ⟨rung, hr, hw⟩ := hw
    rw [hw] at h1
    exact read_word_sign _ _ _ _ _ _ h1 (Nat.lt_of_le_of_lt hr Ieee.double.infRung_lt)
  subst hs
  exact ⟨m, e, h1, h2, h3⟩

/-- .. that is not too small -/
theorem rg_nearest (mag : Nat) (place : Int) (C K j : Nat) (hC : 52 ≤ C) (hK : 52 ≤ K) (hK2 : K ≤ 2096) (hC2 : C ≤ 2096) (hj : 0 ≤ place + 1074 + j) (h : mag * 2 ^ (place + 1074 + j).toNat ≤ 2 ^ (K + j)) (h' : 2 ^ (C + j) ≤ mag * 2 ^ (place + 1074 + j).toNat) :
    Rg (Ieee.double.nearest false mag place) C K := by
  obtain ⟨m, e, h1, h2, h3⟩ := nn_nearest mag place K j hK hK2 hj h
  refine ⟨m, e, h1, h2, ?_, h3⟩
  have e0 : place - Ieee.double.leastPlace + j = place + 1074 + j := by rw [lp64]; omega
  have hb : Ieee.double.binade = 2 ^ 52 := rfl
  have hi : Ieee.double.infRung = 2047 * 2 ^ 52 := by decide
  have hf : Ieee.double.fractionBits = 52 := rfl
  obtain ⟨rung, g1, g2, g3⟩ := nearest_ge Ieee.double false mag place C j hC (by rw [e0]; exact hj) (by rw [e0]; exact h') (by rw [hf, hb, hi]; exact Nat.mul_le_mul_right _ (by omega))
  rw [g3] at h1
  rw [hf, hb] at g1
  rw [read_word Ieee.double false rung (Nat.lt_of_le_of_lt g2 Ieee.double.infRung_lt)] at h1
  have hp : (0 : Nat) < 2 ^ 52 := by decide
  have hnb : ¬ rung < Ieee.double.binade := by
    rw [hb]
    have : 1 * 2 ^ 52 ≤ (C - 52 + 1) * 2 ^ 52 := Nat.mul_le_mul_right _ (by omega)
    omega
  rw [if_neg hnb] at h1
  split at h1
  · injection h1 with _ hm he
    have hq : C - 52 + 1 ≤ rung / 2 ^ 52 := (Nat.le_div_iff_mul_le hp).2 g1
    rw [hb] at hm he
    rw [← hm, ← he, lp64]
    have e1 : C ≤ 52 + (-1074 + ((rung / 2 ^ 52 - 1 : Nat) : Int) + 1074).toNat := by omega
    calc 2 ^ C ≤ 2 ^ (52 + (-1074 + ((rung / 2 ^ 52 - 1 : Nat) : Int) + 1074).toNat) := Nat.pow_le_pow_right (by decide) e1
      _ = 2 ^ 52 * 2 ^ (-1074 + ((rung / 2 ^ 52 - 1 : Nat) : Int) + 1074).toNat := Nat.pow_add ..
      _ ≤ _ := Nat.mul_le_mul_right _ (Nat.le_add_right _ _)
  · split at h1 <;> cases h1

/-- 1 and a number without a minus sign -/
theorem rg_add_one {x K : Nat} (hx : Nn x K) (hK : 1074 ≤ K) (hK2 : K ≤ 2095) : ∃ r, floatBits .add .f64 4607182418800017408 x = some r ∧ Rg r 1074 (K + 1) := by
  obtain ⟨m, i, h1, h2, h3⟩ := hx
  have h4 : Ieee.double.read 4607182418800017408 = .number false (2 ^ 52) (-52) := by decide
  have h0 : floatBits .add .f64 4607182418800017408 x = ((Datum.number false (2 ^ 52) (-52)).sum (Datum.number false m i)).map Ieee.double.write := by
    show ((Ieee.double.read _).sum (Ieee.double.read x)).map Ieee.double.write = _
    rw [h1, h4]
  simp only [Datum.sum, Option.map_some] at h0
  refine ⟨_, h0, ?_⟩
  obtain ⟨V, hV⟩ : ∃ V, V = 1074 := ⟨_, rfl⟩
  rw [← hV] at hK ⊢
  have hs : signed false (2 ^ 52) (-52 - min (-52) i).toNat + signed false m (i - min (-52) i).toNat = ((2 ^ 52 * 2 ^ (-52 - min (-52) i).toNat + m * 2 ^ (i - min (-52) i).toNat : Nat) : Int) := by
    simp [signed, shl_eq]
  have hsg : (if signed false (2 ^ 52) (-52 - min (-52) i).toNat + signed false m (i - min (-52) i).toNat = 0 then false && false else decide (signed false (2 ^ 52) (-52 - min (-52) i).toNat + signed false m (i - min (-52) i).toNat < 0)) = false := by
    rw [hs]; split
    · rfl
    · exact decide_eq_false (Int.not_lt.2 (Int.natCast_nonneg _))
  show Rg (Ieee.double.nearest _ _ _) _ _
  rw [hsg, hs, Int.natAbs_natCast]
  have e1 : (i + 1074).toNat = (i - min (-52) i).toNat + (min (-52) i + 1074).toNat := by omega
  rw [e1, Nat.pow_add, ← Nat.mul_assoc] at h3
  have h5 : 2 ^ V = 2 ^ 52 * 2 ^ (-52 - min (-52) i).toNat * 2 ^ (min (-52) i + 1074).toNat := by
    have e3 : V = 52 + ((-52 - min (-52) i).toNat + (min (-52) i + 1074).toNat) := by omega
    rw [e3, Nat.pow_add, Nat.pow_add, ← Nat.mul_assoc]
  have h6 : (2 : Nat) ^ V ≤ 2 ^ K := Nat.pow_le_pow_right (by decide) hK
  refine rg_nearest _ _ V (K + 1) 0 (by omega) (by omega) (by omega) (by omega) (by omega) ?_ ?_
  · rw [show (min (-52) i + 1074 + (0 : Nat)).toNat = (min (-52) i + 1074).toNat by simp, Nat.add_zero, Nat.add_mul, ← h5, Nat.pow_succ]
    omega
  · rw [show (min (-52) i + 1074 + (0 : Nat)).toNat = (min (-52) i + 1074).toNat by simp, Nat.add_zero, Nat.add_mul, ← h5]
    exact Nat.le_add_right _ _

end Fl
end Go.Proofs.Ytmkpkkaedhekdaa
