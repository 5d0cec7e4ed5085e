/- Quotients, sums and differences between bounds; lengths of small differences are small. Plain facts on floats. -/
import Derived.Test.YtmkpkkaedhekdaaBtw
import Derived.Test.YtmkpkkaedhekdaaLg
namespace Go.Proofs.Ytmkpkkaedhekdaa
open Fl Ieee Go.RowKit

theorem sticky_le {dv n X : Nat} (hn : 0 < n) (h : 2 * dv ≤ X * n) : 2 * (dv / n) + (dv % n != 0).toNat ≤ X := by
  have h1 := Nat.div_add_mod dv n
  have h2 := Nat.mod_lt dv hn
  by_cases h3 : dv % n = 0
  · rw [h3] at h1 ⊢
    have : (2 * (dv / n)) * n ≤ X * n := by rw [Nat.mul_assoc, Nat.mul_comm (dv / n)]; omega
    have := Nat.le_of_mul_le_mul_right this hn
    simpa using this
  · have h4 : (dv % n != 0).toNat = 1 := by simp [h3]
    rw [h4]
    have : (2 * (dv / n)) * n < X * n := by rw [Nat.mul_assoc, Nat.mul_comm (dv / n)]; omega
    have := Nat.lt_of_mul_lt_mul_right this
    omega
theorem sticky_ge {dv n X : Nat} (hn : 0 < n) (h : X * n ≤ 2 * dv) : X ≤ 2 * (dv / n) + (dv % n != 0).toNat := by
  have h1 := Nat.div_add_mod dv n
  have h2 := Nat.mod_lt dv hn
  by_cases h3 : dv % n = 0
  · rw [h3] at h1 ⊢
    have : X * n ≤ (2 * (dv / n)) * n := by rw [Nat.mul_assoc, Nat.mul_comm (dv / n)]; omega
    have := Nat.le_of_mul_le_mul_right this hn
    simpa using this
  · have h4 : (dv % n != 0).toNat = 1 := by simp [h3]
    rw [h4]
    have : X * n < (2 * (dv / n) + 2) * n := by rw [Nat.add_mul, Nat.mul_assoc, Nat.mul_comm (dv / n)]; omega
    have := Nat.lt_of_mul_lt_mul_right this
    omega
theorem cast_le2 {A B C : Nat} (h : (A : Int) * (B : Int) ≤ (C : Int) * 2048) : A * B ≤ C * 2048 := by
  have : ((A * B : Nat) : Int) ≤ ((C * 2048 : Nat) : Int) := by rw [Int.natCast_mul, Int.natCast_mul]; exact h
  exact Int.ofNat_le.1 this
theorem cast_ge2 {A B C : Nat} (h : (C : Int) * 2048 ≤ (A : Int) * (B : Int)) : C * 2048 ≤ A * B := by
  have : ((C * 2048 : Nat) : Int) ≤ ((A * B : Nat) : Int) := by rw [Int.natCast_mul, Int.natCast_mul]; exact h
  exact Int.ofNat_le.1 this
theorem btw_quo {x y : Nat} {a b L U : Int} (D : Nat) (hD : D = 1061) (hx : Exa double (-6) x a) (hy : Exa double (-4) y b) (ha : a.natAbs < 1000000000) (hb0 : 0 < b) (hb : b < 1000000) (hLU : 0 ≤ L ∨ U ≤ 0) (hL : L * b ≤ a * 2048) (hU : a * 2048 ≤ U * b) (lL : L.natAbs < 100000000) (lU : U.natAbs < 100000000) :
    ∃ r, floatBits .quo .f64 x y = some r ∧ Btw double r D L U := by
  obtain ⟨s, m, k, h1, h2, h3, h4, h5⟩ := hx.read he64 (fits64 (by omega) (by omega) (by omega))
  obtain ⟨t, n, j, g1, g2, g3, g4, g5⟩ := hy.read he64 (fits64 (by omega) (by omega) (by omega))
  have hbn : b.natAbs ≠ 0 := by omega
  have hn0 : n ≠ 0 := by
    rw [g4]; have := Nat.mul_pos (Nat.pos_of_ne_zero hbn) (Nat.two_pow_pos j); omega
  have ht : t = false := by rw [g3 (by omega)]; simp; omega
  subst ht
  have hnl : n.log2 = b.natAbs.log2 + j := by rw [g4]; exact xlog2_scale _ _ hbn
  have h0 : floatBits .quo .f64 x y = ((Datum.number s m (-6 - k)).quotient 54 (.number false n (-4 - j))).map double.write := by
    show ((double.read x).quotient (52 + 2) (double.read y)).map double.write = _
    rw [h1, g1]
  rw [h0]
  simp only [Datum.quotient, if_neg hn0, Option.map_some, Bool.xor_false]
  refine ⟨_, rfl, ?_⟩
  obtain ⟨M, hM⟩ : ∃ M, 54 + n.log2 - m.log2 = M := ⟨_, rfl⟩
  rw [hM]
  have hf52 : double.fractionBits = 52 := rfl
  rw [hf52] at h5 g5
  have hml : m.log2 ≤ 31 + k := by
    by_cases ha0 : a.natAbs = 0
    · rw [h4, ha0]; simp
    · rw [h4, xlog2_scale _ _ ha0]
      have : a.natAbs.log2 < 31 := (Nat.log2_lt ha0).2 (by omega)
      omega
  have hN : j + 10 ≤ k + M := by omega
  show Btw double (double.nearest s (2 * (m <<< M / n) + (m <<< M % n != 0).toNat) (-6 - (k : Int) - (-4 - (j : Int)) - M - 1)) D L U
  have hbin : double.binade = 2 ^ 52 := rfl
  have hinf : double.infRung = 2047 * 2 ^ 52 := by decide
  obtain ⟨J, hJ⟩ : ∃ J, J = k + M + 3 := ⟨_, rfl⟩
  have ek : (-6 - (k : Int) - (-4 - (j : Int)) - M - 1 - double.leastPlace + J).toNat = 1074 + j := by rw [lp64]; omega
  obtain ⟨V, hV⟩ : ∃ V, V = 1074 := ⟨_, rfl⟩
  rw [← hV] at ek
  have hpos : 0 < n := Nat.pos_of_ne_zero hn0
  -- how great the quotient is
  have up : ∀ B : Nat, a.natAbs * 2048 ≤ B * b.natAbs → 2 * (m <<< M / n) + (m <<< M % n != 0).toNat ≤ B * 2 ^ (k + M - 10 - j) := by
    intro B hB
    refine sticky_le hpos ?_
    rw [shl_eq, h4, g4]
    calc 2 * (a.natAbs * 2 ^ k * 2 ^ M) = a.natAbs * 2048 * 2 ^ (k + M - 10) := by
          rw [Nat.mul_assoc, ← Nat.pow_add, Nat.mul_left_comm, show k + M = (k + M - 10) + 10 by omega, Nat.pow_add 2 (k + M - 10) 10, show k + M - 10 + 10 - 10 = k + M - 10 by omega]
          generalize 2 ^ (k + M - 10) = u
          rw [show (2 : Nat) ^ 10 = 1024 from rfl, Nat.mul_assoc, ← Nat.mul_assoc 2 u, Nat.mul_comm 2 u, Nat.mul_assoc u, Nat.mul_comm u]
      _ ≤ B * b.natAbs * 2 ^ (k + M - 10) := Nat.mul_le_mul_right _ hB
      _ = B * 2 ^ (k + M - 10 - j) * (b.natAbs * 2 ^ j) := by
          rw [Nat.mul_mul_mul_comm, ← Nat.pow_add, show k + M - 10 - j + j = k + M - 10 by omega]
  have lo : ∀ A : Nat, A * b.natAbs ≤ a.natAbs * 2048 → A * 2 ^ (k + M - 10 - j) ≤ 2 * (m <<< M / n) + (m <<< M % n != 0).toNat := by
    intro A hA
    refine sticky_ge hpos ?_
    rw [shl_eq, h4, g4]
    calc A * 2 ^ (k + M - 10 - j) * (b.natAbs * 2 ^ j) = A * b.natAbs * 2 ^ (k + M - 10) := by
          rw [Nat.mul_mul_mul_comm, ← Nat.pow_add, show k + M - 10 - j + j = k + M - 10 by omega]
      _ ≤ a.natAbs * 2048 * 2 ^ (k + M - 10) := Nat.mul_le_mul_right _ hA
      _ = 2 * (a.natAbs * 2 ^ k * 2 ^ M) := by
          rw [Nat.mul_assoc a.natAbs (2 ^ k), ← Nat.pow_add, Nat.mul_left_comm, show k + M = (k + M - 10) + 10 by omega, Nat.pow_add 2 (k + M - 10) 10, show k + M - 10 + 10 - 10 = k + M - 10 by omega]
          generalize 2 ^ (k + M - 10) = u
          rw [show (2 : Nat) ^ 10 = 1024 from rfl, Nat.mul_assoc, ← Nat.mul_assoc 2 u, Nat.mul_comm 2 u, Nat.mul_assoc u, Nat.mul_comm u]
  generalize 2 * (m <<< M / n) + (m <<< M % n != 0).toNat = mag at up lo
  have sc : ∀ B : Nat, B * 2 ^ (k + M - 10 - j) * 2 ^ (V + j) = B * 2 ^ (D + J) := by
    intro B
    rw [Nat.mul_assoc, ← Nat.pow_add]; congr 2; omega
  have up2 : ∀ B : Nat, a.natAbs * 2048 ≤ B * b.natAbs → mag * 2 ^ (V + j) ≤ B * 2 ^ (D + J) := fun B hB => by
    rw [← sc]; exact Nat.mul_le_mul_right _ (up B hB)
  have lo2 : ∀ A : Nat, A * b.natAbs ≤ a.natAbs * 2048 → A * 2 ^ (D + J) ≤ mag * 2 ^ (V + j) := fun A hA => by
    rw [← sc]; exact Nat.mul_le_mul_right _ (lo A hA)
  have eb : b = (b.natAbs : Int) := by omega
  have hs : signed s mag (V + j) = if a < 0 then -((mag * 2 ^ (V + j) : Nat) : Int) else ((mag * 2 ^ (V + j) : Nat) : Int) := by
    by_cases ha0 : a = 0
    · have hm0 : mag = 0 := by
        have := up 0 (by rw [ha0]; simp)
        rw [Nat.zero_mul] at this; omega
      rw [hm0]; cases s <;> simp [signed]
    · rw [h3 ha0]
      by_cases hneg : a < 0
      · rw [if_pos hneg, decide_eq_true hneg, signed_true]
      · rw [if_neg hneg, decide_eq_false hneg, signed_false]
  refine btw_nearest double s mag _ L U D J hLU (by rw [hbin]; omega) (by rw [hbin]; omega) (by rw [hf52]; omega) (by rw [hbin, hinf]; exact Nat.mul_le_mul_right _ (by omega)) (by rw [lp64]; omega) ?_ ?_
  · rw [ek, hs]
    by_cases hneg : a < 0
    · rw [if_pos hneg]
      have hl : L < 0 := by
        rcases Int.lt_or_le L 0 with h | h
        · exact h
        · have := Int.mul_nonneg h (Int.le_of_lt hb0); omega
      have := up2 L.natAbs (by
        have e : L = -(L.natAbs : Int) := by omega
        have e2 : a = -(a.natAbs : Int) := by omega
        rw [e, e2, eb, Int.neg_mul, Int.neg_mul] at hL
        exact cast_ge2 (Int.neg_le_neg_iff.1 hL))
      have e : L = -(L.natAbs : Int) := by omega
      rw [e, Int.neg_mul]
      refine Int.neg_le_neg ?_
      exact_mod_cast this
    · rw [if_neg hneg]
      rcases Int.lt_or_le L 0 with h | h
      · have h9 := Int.mul_neg_of_neg_of_pos h (pow_pos' (D + J))
        have : (0 : Int) ≤ ((mag * 2 ^ (V + j) : Nat) : Int) := Int.natCast_nonneg _
        omega
      · have := lo2 L.natAbs (by
          have e : L = (L.natAbs : Int) := by omega
          have e2 : a = (a.natAbs : Int) := by omega
          rw [e, e2, eb] at hL
          exact cast_le2 hL)
        have e : L = (L.natAbs : Int) := by omega
        rw [e]
        exact_mod_cast this
  · rw [ek, hs]
    by_cases hneg : a < 0
    · rw [if_pos hneg]
      rcases Int.lt_or_le 0 U with h | h
      · have h9 := Int.mul_pos h (pow_pos' (D + J))
        have : (0 : Int) ≤ ((mag * 2 ^ (V + j) : Nat) : Int) := Int.natCast_nonneg _
        omega
      · have := lo2 U.natAbs (by
          have e : U = -(U.natAbs : Int) := by omega
          have e2 : a = -(a.natAbs : Int) := by omega
          rw [e, e2, eb, Int.neg_mul, Int.neg_mul] at hU
          exact cast_le2 (Int.neg_le_neg_iff.1 hU))
        have e : U = -(U.natAbs : Int) := by omega
        rw [e, Int.neg_mul]
        refine Int.neg_le_neg ?_
        exact_mod_cast this
    · rw [if_neg hneg]
      have hu : 0 ≤ U := by
        rcases Int.lt_or_le U 0 with h | h
        · have := Int.mul_neg_of_neg_of_pos h hb0; omega
        · exact h
      have := up2 U.natAbs (by
        have e : U = (U.natAbs : Int) := by omega
        have e2 : a = (a.natAbs : Int) := by omega
        rw [e, e2, eb] at hU
        exact cast_ge2 hU)
      have e : U = (U.natAbs : Int) := by omega
      rw [e]
      exact_mod_cast this
end Go.Proofs.Ytmkpkkaedhekdaa
