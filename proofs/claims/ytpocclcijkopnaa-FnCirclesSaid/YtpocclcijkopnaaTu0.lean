/- The table of the tenths is right: found by the kernel. -/
import Derived.Test.YtpocclcijkopnaaTt
import Derived.Test.YtpocclcijkopnaaTr
namespace Go.Proofs.Ytpocclcijkopnaa
open Go.RowKit Fl
def oneTab0 (N : Nat) : Bool := cond (Nat.beq (tab N) 0) true (tenOk N (tab N))
set_option maxRecDepth 1000000
theorem tb0 : allUp (fun i => allUp (fun k => oneTab0 (Nat.add (Nat.mul 100 (Nat.add 0 i)) k)) 100) 10 = true := by kernel_rfl
theorem tb1 : allUp (fun i => allUp (fun k => oneTab0 (Nat.add (Nat.mul 100 (Nat.add 10 i)) k)) 100) 10 = true := by kernel_rfl
theorem tb2 : allUp (fun i => allUp (fun k => oneTab0 (Nat.add (Nat.mul 100 (Nat.add 20 i)) k)) 100) 10 = true := by kernel_rfl
theorem tb3 : allUp (fun i => allUp (fun k => oneTab0 (Nat.add (Nat.mul 100 (Nat.add 30 i)) k)) 100) 10 = true := by kernel_rfl
theorem allTab0 (N : Nat) (h1 : 0 ≤ N) (h2 : N < 4000) : oneTab0 N = true := by
  have e : ∀ b, N / 1000 = b → 10 * b + N / 100 % 10 = N / 100 := by omega
  have e2 : N = Nat.add (Nat.mul 100 (N / 100)) (N % 100) := (Nat.div_add_mod N 100).symm
  have hb : N / 1000 = 0 ∨ N / 1000 = 1 ∨ N / 1000 = 2 ∨ N / 1000 = 3 := by omega
  rcases hb with h | h | h | h
  · have := allUp_at _ _ (allUp_at _ _ tb0 (N / 100 % 10) (by omega)) (N % 100) (by omega)
    have e3 : Nat.add 0 (N / 100 % 10) = N / 100 := by have := e 0 h; show 0 + N / 100 % 10 = N / 100; omega
    rw [e3, ← e2] at this
    exact this
  · have := allUp_at _ _ (allUp_at _ _ tb1 (N / 100 % 10) (by omega)) (N % 100) (by omega)
    have e3 : Nat.add 10 (N / 100 % 10) = N / 100 := by have := e 1 h; show 10 + N / 100 % 10 = N / 100; omega
    rw [e3, ← e2] at this
    exact this
  · have := allUp_at _ _ (allUp_at _ _ tb2 (N / 100 % 10) (by omega)) (N % 100) (by omega)
    have e3 : Nat.add 20 (N / 100 % 10) = N / 100 := by have := e 2 h; show 20 + N / 100 % 10 = N / 100; omega
    rw [e3, ← e2] at this
    exact this
  · have := allUp_at _ _ (allUp_at _ _ tb3 (N / 100 % 10) (by omega)) (N % 100) (by omega)
    have e3 : Nat.add 30 (N / 100 % 10) = N / 100 := by have := e 3 h; show 30 + N / 100 % 10 = N / 100; omega
    rw [e3, ← e2] at this
    exact this
end Go.Proofs.Ytpocclcijkopnaa
