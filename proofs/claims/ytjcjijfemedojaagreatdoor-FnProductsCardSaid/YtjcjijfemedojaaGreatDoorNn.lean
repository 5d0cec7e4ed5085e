/- Texts of lists of numbers: both sides. -/
import Derived.Test.YtjcjijfemedojaaGreatDoorHx
import Derived.Test.YtjcjijfemedojaaGreatDoorBits
import Derived.Test.YtjcjijfemedojaaGreatDoorBlk
import Derived.Laws.BitsAllLaws
import Derived.Test.YtjcjijfemedojaaGreatDoorNt
import Derived.Test.YtjcjijfemedojaaGreatDoorList
import Derived.Lib.Join
import Derived.Test.YtjcjijfemedojaaGreatDoorSheljoin
namespace Go.Proofs.YtjcjijfemedojaaGreatDoor
open Go.RowKit Fl

def noneText : List UInt8 := [110, 111, 110, 101]
def ntext (zs : List Nat) : List UInt8 := if zs = [] then noneText else Lib.join (zs.map hx8) [44]
theorem joinT_snoc (sep x : List UInt8) : ∀ r : List (List UInt8), Lib.joinTail sep (r ++ [x]) = Lib.joinTail sep r ++ (sep ++ x) := by
  intro r; simp [Lib.joinTail]
theorem join_snoc (sep x : List UInt8) (r : List (List UInt8)) (h : r ≠ []) : Lib.join (r ++ [x]) sep = Lib.join r sep ++ (sep ++ x) := by
  cases r with
  | nil => exact absurd rfl h
  | cons y r => rw [List.cons_append, Lib.join_cons, Lib.join_cons, joinT_snoc, List.append_assoc]
theorem text_snoc (zs : List Nat) (k : Nat) (h0 : 0 < k) (h : k < zs.length) : Lib.join ((zs.take (k + 1)).map hx8) [44] = Lib.join ((zs.take k).map hx8) [44] ++ ([44] ++ hx8 (zs.getD k 0)) := by
  rw [List.take_succ_eq_append_getElem h, List.map_append, List.map_cons, List.map_nil, join_snoc _ _ _ (by
    intro e
    have := congrArg List.length e
    rw [List.length_map, List.length_take, List.length_nil] at this
    omega)]
  simp [List.getD, List.getElem?_eq_getElem h]
theorem text_one (zs : List Nat) (h : 0 < zs.length) : Lib.join ((zs.take 1).map hx8) [44] = hx8 (zs.getD 0 0) := by
  cases zs with
  | nil => simp at h
  | cons z zs => simp [Lib.join_one]
theorem small_at {zs : List Nat} (h : ∀ x ∈ zs, x < 4294967296) (k : Nat) : zs.getD k 0 < 4294967296 := by
  rw [List.getD_eq_getElem?_getD]
  cases hk : zs[k]? with
  | none => simp
  | some x => exact h x (List.mem_of_getElem? hk)
theorem size_of {T : ByteArray} {a : Nat} (h : T.data.toList = hx8 a) : T.size = 8 := by
  have := congrArg List.length h
  rw [hx8_len] at this
  simpa using this

/-- the answer of both sides -/
def ntAns (zs : List Nat) : Ending := .returned (.tuple #[.string (if zs.length ≤ 256 then ⟨(ntext zs).toArray⟩ else ⟨#[]⟩), .bool (decide (zs.length ≤ 256))])
end Go.Proofs.YtjcjijfemedojaaGreatDoor
