/- The laws' small helpers: too long an input, and a number chosen by a byte. -/
import Derived.Test.YtjcjijfemedojaaGreatDoorBrow
import Derived.Lib.Hide
namespace Go.Proofs.YtjcjijfemedojaaGreatDoor
open Go.RowKit Fl

theorem b10Long_of (ao bo : Option Addr) (n c n' c' : Nat) (w : World) :
    Calls Tryz.prog 4 #[.slice ao n c, .slice bo n' c'] w fun e w' => e = .returned (.bool (decide (1048576 < n) || decide (1048576 < n'))) ∧ w = w' := by
  by_cases h : 1048576 < n <;> by_cases h' : 1048576 < n'
  all_goals
    go_enter Tryz.func4, Tryz.ntmps4
    go_wp2
    go_ret
    exact ⟨by first | rfl | (simp [h, h']; done) | (simp [h, h']; omega), rfl⟩
/-- a number below k -/
def At (k : Int) (w : World) (e : Ending) (w' : World) : Prop := ∃ x : Int, 0 ≤ x ∧ x < k ∧ e = .returned (.int .i64 x) ∧ w = w'
set_option maxHeartbeats 800000 in
theorem b10At_of (ao : Option Addr) (n c i : Nat) (k : Int) (w : World) (hr : BRow w ao n) (hn : n ≤ 1048576) (hi : i ≤ 1000) (h1 : 1 ≤ k) (h2 : k ≤ 1000000) :
    Calls Tryz.prog 15 #[.slice ao n c, .int .i64 i, .int .i64 k] w (At k w) := by
  have HR := Lib.hid hr
  clear hr
  by_cases hk : k ≤ 1
  · go_enter Tryz.func15, Tryz.ntmps15
    go_wp2
    go_ret
    exact ⟨0, by omega, by omega, rfl, rfl⟩
  · by_cases hin : i < n
    · obtain ⟨a, rfl⟩ := HR.out.addr (by omega)
      obtain ⟨v, hv, hc⟩ := HR.out.cell a rfl i hin
      go_enter Tryz.func15, Tryz.ntmps15
      go_wp2
      go_ret
      exact ⟨_, Int.emod_nonneg _ (by omega), Int.emod_lt_of_pos _ (by omega), rfl, rfl⟩
    · go_enter Tryz.func15, Tryz.ntmps15
      go_wp2
      go_ret
      exact ⟨_, Int.emod_nonneg _ (by omega), Int.emod_lt_of_pos _ (by omega), rfl, rfl⟩
end Go.Proofs.YtjcjijfemedojaaGreatDoor
