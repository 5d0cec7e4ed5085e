/- The laws' small helpers of the second kind: too long an input, a number chosen by a byte. -/
import Derived.Test.YtklceohoghjhdaaBrow
import Derived.Lib.Hide
namespace Go.Proofs.Ytklceohoghjhdaa
open Go.RowKit Fl

theorem r8Long_of (ao bo : Option Addr) (n c n' c' : Nat) (w : World) :
    Calls Try.prog 7 #[.slice ao n c, .slice bo n' c'] w fun e w' => e = .returned (.bool (decide (48 < n) || decide (48 < n'))) ∧ w = w' := by
  by_cases h : 48 < n <;> by_cases h' : 48 < n'
  all_goals
    go_enter Try.func7, Try.ntmps7
    go_wp2
    go_ret
    exact ⟨by first | rfl | (simp [h, h']; done) | (simp [h, h']; omega), rfl⟩
/-- a number below k -/
def At8 (k : Int) (w : World) (e : Ending) (w' : World) : Prop := ∃ x : Int, 0 ≤ x ∧ x < k ∧ e = .returned (.int .i64 x) ∧ w = w'
set_option maxHeartbeats 800000 in
theorem r8At_of (ao : Option Addr) (n c i : Nat) (k : Int) (w : World) (hr : BRow w ao n) (hn : n ≤ 1048576) (hi : i ≤ 1000) (h1 : 1 ≤ k) (h2 : k ≤ 1000000) :
    Calls Try.prog 9 #[.slice ao n c, .int .i64 i, .int .i64 k] w (At8 k w) := by
  have HR := Lib.hid hr
  clear hr
  by_cases hk : k ≤ 1
  · go_enter Try.func9, Try.ntmps9
    go_wp2
    go_ret
    exact ⟨0, by omega, by omega, rfl, rfl⟩
  · by_cases hin : i < n
    · obtain ⟨a, rfl⟩ := HR.out.addr (by omega)
      obtain ⟨v, hv, hc⟩ := HR.out.cell a rfl i hin
      go_enter Try.func9, Try.ntmps9
      go_wp2
      go_ret
      exact ⟨_, Int.emod_nonneg _ (by omega), Int.emod_lt_of_pos _ (by omega), rfl, rfl⟩
    · go_enter Try.func9, Try.ntmps9
      go_wp2
      go_ret
      exact ⟨0, by omega, by omega, rfl, rfl⟩
end Go.Proofs.Ytklceohoghjhdaa
