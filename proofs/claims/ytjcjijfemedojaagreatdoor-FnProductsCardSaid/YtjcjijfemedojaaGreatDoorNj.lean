/- Texts of lists of numbers: the program's side. -/
import Derived.Test.YtjcjijfemedojaaGreatDoorNn
namespace Go.Proofs.YtjcjijfemedojaaGreatDoor
open Go.RowKit Fl

theorem made_str (n : Nat) : (madeCells (Value.string ⟨#[]⟩).cells (n * 1)).toList = List.replicate n (.string ⟨#[]⟩) := by
  rw [Nat.mul_one]; exact toList_madeCells_one _ n
def strs (xs : List ByteArray) (m : Nat) : List Value := xs.map Value.string ++ List.replicate m (.string ⟨#[]⟩)
theorem strs_set (xs : List ByteArray) (n k : Nat) (x : ByteArray) (hl : xs.length = k) (hk : k < n) : (strs xs (n - k)).set k (.string x) = strs (xs ++ [x]) (n - (k + 1)) := by
  unfold strs
  rw [List.set_append_right _ _ (by simp [hl]), List.length_map, hl, Nat.sub_self, show n - k = (n - (k + 1)) + 1 by omega, List.replicate_succ, List.set_cons_zero]
  simp
theorem join_len : ∀ (zs : List Nat), (Lib.joinTail [44] (zs.map hx8)).length = 9 * zs.length
  | [] => by simp [Lib.joinTail]
  | z :: zs => by
    have ih := join_len zs
    unfold Lib.joinTail at ih ⊢
    simp only [List.map_cons, List.flatten_cons, List.length_append, List.length_cons, List.length_nil, hx8_len]
    omega
theorem join_len' (zs : List Nat) : (Lib.join (zs.map hx8) [44]).length ≤ 9 * zs.length := by
  cases zs with
  | nil => simp [Lib.join_nil]
  | cons z zs =>
    have := join_len zs
    rw [List.map_cons, Lib.join_cons, List.length_append, List.length_cons, this, hx8_len]
    omega
end Go.Proofs.YtjcjijfemedojaaGreatDoor
