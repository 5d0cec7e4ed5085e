/- The lowest grain that is not held. -/
import Derived.Test.YtmkpkkaedhekdaaDb
namespace Go.Proofs.Ytmkpkkaedhekdaa
open Go.RowKit Fl

/-- the lowest one of the first k grains, where none is held -/
def LfInv (is : List GrI) (k : Nat) (lo le : Value) : Prop := (k = 0 ∧ lo = .int .i64 (-1) ∧ le = .float .f32 0) ∨
  ∃ (j y : Nat) (v : Int), j < k ∧ lo = .int .i64 (j : Int) ∧ le = .float .f32 y ∧ Exa Ieee.single (-2) y v ∧ (-100 ≤ v ∧ v ≤ 100) ∧ ∀ q, q < k → v ≤ (is.getD q default).y - (is.getD q default).r
def LowQ (is : List GrI) (n : Nat) (w : World) (e : Ending) (w' : World) : Prop := ∃ (j y : Nat) (v : Int), j < n ∧ Exa Ieee.single (-2) y v ∧ (-100 ≤ v ∧ v ≤ 100) ∧ (∀ q, q < n → v ≤ (is.getD q default).y - (is.getD q default).r) ∧ e = .returned (.tuple #[.int .i64 (j : Int), .float .f32 y, .bool true]) ∧ Below w.heap.size w w'
theorem cmp_lt' (a b : Int) : (some (compare a b) == some Ordering.lt) = decide (a < b) := by
  simp only [compare, compareOfLessAndEq]
  by_cases h : a < b
  · simp [h]
  · by_cases h2 : a = b
    · simp [h2]
    · simp [h, h2]
end Go.Proofs.Ytmkpkkaedhekdaa
