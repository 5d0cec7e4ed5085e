/- Lists of strings: how much they hold. -/
import Derived.Test.YtokllkngikcoiaaDoorSL
namespace Go.Proofs.YtokllkngikcoiaaDoor
open Go.RowKit

/-- what szStringS tells -/
def SzAns (n : Nat) (zs : List ByteArray) (w : World) (e : Ending) (w' : World) : Prop := ∃ z : Int, e = .returned (.int .i64 z) ∧ w = w' ∧ (0 ≤ z → n ≤ 1048576 ∧ ∀ k, (zs.getD k ⟨#[]⟩).size ≤ 1048576)
def sizesB (zs : List ByteArray) : Prop := ∀ k, (zs.getD k ⟨#[]⟩).size ≤ 1048576
set_option maxHeartbeats 1600000 in
theorem szStringS_of (ao : Option Addr) (n c : Nat) (zs : List ByteArray) (w : World) (hr : SRow w ao n zs) (hn : n ≤ 9223372036854775807) (hz : ∀ x ∈ zs, x.size ≤ maxLen) :
    Calls Tryd.prog 8 #[.slice ao n c, .int .i64 1048576] w (SzAns n zs w) := by
  have HL := Lib.hid hr.len
  have HR := Lib.hid hr
  have HZ := Lib.hid (fun k => (show (zs.getD k ⟨#[]⟩).size ≤ 9223372036854775807 by
    by_cases hk : k < zs.length
    · have := hz _ (List.getElem_mem hk)
      unfold maxLen at this
      simp only [List.getD, List.getElem?_eq_getElem hk, Option.getD_some]; omega
    · simp only [List.getD, List.getElem?_eq_none (Nat.le_of_not_lt hk), Option.getD_none]; exact Nat.zero_le _))
  clear hr hz
  by_cases hbig : n ≤ 1048576
  · go_enter Tryd.func8, Tryd.ntmps8
    go_wp2
    all_goals first
      | omega
      | skip
    go_loop [1, 5] (fun l i => ∃ (k : Nat) (z : Int), k ≤ n ∧ i = .int .i64 k ∧ l = .int .i64 z ∧ 0 ≤ z ∧ z ≤ 1048576 ∧ Hid (∀ j, j < k → (zs.getD j ⟨#[]⟩).size ≤ 1048576)) (fun _ i => n - (intOf i).toNat)
    case atStart => exact ⟨0, 1048576 - n, by omega, rfl, rfl, by omega, by omega, fun j hj => by omega⟩
    case round =>
      obtain ⟨k, z, hk, rfl, rfl, hz0, hz1, hall⟩ := hrel
      by_cases hlt : k < n
      · obtain ⟨a, rfl⟩ := HR.out.addr (by omega)
        have hx := HR.out.cell a rfl k hlt
        have hzk := HZ.out k
        have hzE : ∀ t : ByteArray, zs.getD k ⟨#[]⟩ = t → t.size ≤ 1048576 → ∀ j, j < k + 1 → (zs.getD j ⟨#[]⟩).size ≤ 1048576 := by
          intro t ht h1 j hj
          by_cases h : j = k
          · subst h; rw [ht]; exact h1
          · exact hall.out j (by omega)
        have HE := Lib.hid (fun h => hzE _ rfl h)
        clear hzE
        generalize zs.getD k ⟨#[]⟩ = t at hx hzk HE
        by_cases hneg : z < t.size
        · go_wp2
          go_ret
          exact ⟨-1, rfl, rfl, fun h => by omega⟩
        · go_wp2
          go_round
          case rel => exact ⟨k + 1, z - t.size, hlt, by go_num, rfl, by omega, by omega, HE.out (by omega)⟩
          case measure => simp [intOf]; omega
      · obtain rfl : k = n := by omega
        go_wp2
        go_ret
        refine ⟨z, rfl, rfl, fun _ => ⟨hbig, fun j => ?_⟩⟩
        by_cases hj : j < k
        · exact hall.out j hj
        · simp only [List.getD, List.getElem?_eq_none (show zs.length ≤ j by rw [HL.out]; omega), Option.getD_none]; exact Nat.zero_le _
  · go_enter Tryd.func8, Tryd.ntmps8
    go_wp2
    go_ret
    exact ⟨-1, rfl, rfl, fun h => by omega⟩
end Go.Proofs.YtokllkngikcoiaaDoor
