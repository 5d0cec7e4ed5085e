/- Results that are kept exactly: a number with few enough digits is rounded to itself. Plain facts. -/
import Derived.Test.YtpocclcijkopnaaLo
namespace Go.Proofs.Ytpocclcijkopnaa
namespace Fl
open Ieee

theorem log2_shift (t k : Nat) (ht : t ≠ 0) : (t * 2 ^ k).log2 = t.log2 + k := by
  have hp := Nat.two_pow_pos k
  have hne : t * 2 ^ k ≠ 0 := by have := Nat.mul_pos (Nat.pos_of_ne_zero ht) hp; omega
  refine (Nat.log2_eq_iff hne).2 ⟨?_, ?_⟩
  · rw [Nat.pow_add]; exact Nat.mul_le_mul_right _ (two_log_le t ht)
  · rw [show t.log2 + k + 1 = (t.log2 + 1) + k by omega, Nat.pow_add]; exact Nat.mul_lt_mul_of_pos_right (lt_two_log t) hp

theorem nearest_shift (f : Format) (s : Bool) (t k : Nat) (p : Int) (ht : t ≠ 0) (hL : t.log2 ≤ f.fractionBits) (hp : f.leastPlace ≤ p + k) : f.nearest s (t * 2 ^ k) p = f.nearest s t (p + k) := by
  rw [nearest_exact_word f s t (p + k) ht hL hp]
  have h2 := Nat.two_pow_pos k
  have hne : t * 2 ^ k ≠ 0 := by have := Nat.mul_pos (Nat.pos_of_ne_zero ht) h2; omega
  unfold Format.nearest
  rw [if_neg hne]
  dsimp only
  rw [log2_shift t k ht]
  have hlast : max (p + ((t.log2 + k : Nat) : Int) - f.fractionBits) f.leastPlace = lastPlace f t (p + k) := by unfold lastPlace; omega
  rw [hlast]
  have hl : lastPlace f t (p + k) ≤ p + k := by unfold lastPlace; omega
  generalize lastPlace f t (p + k) = last at *
  congr 3
  -- what is kept
  have e : t <<< (p + (k : Int) - last).toNat * 2 ^ (last - p).toNat = (t * 2 ^ k) <<< (p - last).toNat := by
    rw [shl_eq, shl_eq, Nat.mul_assoc, Nat.mul_assoc, ← Nat.pow_add, ← Nat.pow_add]
    congr 2; omega
  apply Nat.le_antisymm
  · exact cut_le _ _ _ _ (by rw [e]; exact Nat.le_refl _)
  · exact cut_ge _ _ _ _ (by rw [e]; exact Nat.le_refl _)

/-- the value of an exact result, in units of 2 ^ -1074 -/
theorem exact_read (s : Bool) (t k : Nat) (p : Int) (ht : t ≠ 0) (hL : t.log2 ≤ 52) (hp : -1074 ≤ p + k) (hb : p + k + t.log2 ≤ 1000) :
    ∃ m e, Ieee.double.read (Ieee.double.nearest s (t * 2 ^ k) p) = .number s m e ∧ (-1074 : Int) ≤ e ∧ m * 2 ^ (e + 1074).toNat = t * 2 ^ (p + k + 1074).toNat := by
  rw [nearest_shift Ieee.double s t k p ht hL (by rw [lp64]; exact hp)]
  have h1 := read_nearest_exact Ieee.double s t (p + k) ht hL (by rw [lp64]; exact hp) (by rw [lp64]; show (p + k + (t.log2 : Int) - 52 - -1074).toNat + 2 ≤ 2047; omega)
  refine ⟨_, _, h1, by unfold lastPlace; rw [lp64]; omega, ?_⟩
  have h2 : lastPlace Ieee.double t (p + k) ≤ p + k := by unfold lastPlace; rw [lp64]; show max (p + k + (t.log2 : Int) - 52) (-1074) ≤ p + k; omega
  have h3 : -1074 ≤ lastPlace Ieee.double t (p + k) := by unfold lastPlace; rw [lp64]; omega
  rw [shl_eq, Nat.mul_assoc, ← Nat.pow_add]
  congr 2
  omega

end Fl
end Go.Proofs.Ytpocclcijkopnaa
