/- Contracts of ReadDecimal on the spec's side: what a text spells, if it is the decimal text of a number within the limits. -/
import Derived.Test.YtjcjijfemedojaaGreatDoorRdf
import Derived.Test.YtjcjijfemedojaaGreatDoorDecw
import Derived.Test.YtjcjijfemedojaaGreatDoorBits
namespace Go.Proofs.YtjcjijfemedojaaGreatDoor
open Go.RowKit

theorem take_snocB (s : ByteArray) (k : Nat) (h : k < s.size) : s.data.toList.take (k + 1) = s.data.toList.take k ++ [s[k]] := by
  rw [List.take_succ_eq_append_getElem (by simpa using h)]; rfl
theorem scan_dig {c : UInt8} (l : List UInt8) (h1 : 48 ≤ (c.toNat : Int)) (h2 : (c.toNat : Int) ≤ 57) : (scan 0 (l ++ [c]) : Int) = 10 * (scan 0 l : Int) + ((c.toNat : Int) - 48) := by
  rw [scan_snoc, if_pos (by simp only [isDig, Bool.and_eq_true, decide_eq_true_eq]; omega)]; omega
theorem scan_other {c : UInt8} (l : List UInt8) (h : ¬ (48 ≤ (c.toNat : Int) ∧ (c.toNat : Int) ≤ 57)) : scan 0 (l ++ [c]) = scan 0 l := by
  rw [scan_snoc, if_neg (by simp only [isDig, Bool.and_eq_true, decide_eq_true_eq]; omega)]
theorem scan_small (l : List UInt8) (h : l.length ≤ 17) : scan 0 l < 100000000000000000 := by
  have h1 := scan_lt l 0 0 (by decide)
  have h2 : 10 ^ (0 + l.length) ≤ 10 ^ 17 := Nat.pow_le_pow_right (by decide) (by omega)
  have : (10 : Nat) ^ 17 = 100000000000000000 := by decide
  omega

end Go.Proofs.YtjcjijfemedojaaGreatDoor
