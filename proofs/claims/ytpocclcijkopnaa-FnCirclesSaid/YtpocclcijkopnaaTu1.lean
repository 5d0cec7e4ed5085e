/- The table of the tenths is right: found by the kernel. -/
import Derived.Test.YtpocclcijkopnaaTt
import Derived.Test.YtpocclcijkopnaaTr
namespace Go.Proofs.Ytpocclcijkopnaa
open Go.RowKit Fl
def oneTab1 (N : Nat) : Bool := cond (Nat.beq (tab N) 0) true (tenOk N (tab N))
set_option maxRecDepth 1000000
theorem tb4 : allUp (fun i => allUp (fun k => oneTab1 (Nat.add (Nat.mul 100 (Nat.add 40 i)) k)) 100) 10 = true := by kernel_rfl
theorem tb5 : allUp (fun i => allUp (fun k => oneTab1 (Nat.add (Nat.mul 100 (Nat.add 50 i)) k)) 100) 10 = true := by kernel_rfl
theorem tb6 : allUp (fun i => allUp (fun k => oneTab1 (Nat.add (Nat.mul 100 (Nat.add 60 i)) k)) 100) 10 = true := by kernel_rfl
theorem tb7 : allUp (fun i => allUp (fun k => oneTab1 (Nat.add (Nat.mul 100 (Nat.add 70 i)) k)) 100) 10 = true := by kernel_rfl
theorem tb8 : allUp (fun i => allUp (fun k => oneTab1 (Nat.add (Nat.mul 100 (Nat.add 80 i)) k)) 100) 10 = true := by kernel_rfl
theorem tb9 : allUp (fun i => allUp (fun k => oneTab1 (Nat.add (Nat.mul 100 (Nat.add 90 i)) k)) 100) 10 = true := by kernel_rfl
theorem tb10 : allUp (fun i => allUp (fun k => oneTab1 (Nat.add (Nat.mul 100 (Nat.add 100 i)) k)) 100) 10 = true := by kernel_rfl
theorem allTab1 (N : Nat) (h1 : 4000 ≤ N) (h2 : N < 11000) : oneTab1 N = true := by
  have e : ∀ b, N / 1000 = b → 10 * b + N / 100 % 10 = N / 100 := by omega
  have e2 : N = Nat.add (Nat.mul 100 (N / 100)) (N % 100) := (Nat.div_add_mod N 100).symm
  have hb : N / 1000 = 4 ∨ N / 1000 = 5 ∨ N / 1000 = 6 ∨ N / 1000 = 7 ∨ N / 1000 = 8 ∨ N / 1000 = 9 ∨ N / 1000 = 10 := by omega
  rcases hb with h | h | h | h | h | h | h
  · have := allUp_at _ _ (allUp_at _ _ tb4 (N / 100 % 10) (by omega)) (N % 100) (by omega)
    have e3 : Nat.add 40 (N / 100 % 10) = N / 100 := by have := e 4 h; show 40 + N / 100 % 10 = N / 100; omega
    rw [e3, ← e2] at this
    exact this
  · have := allUp_at _ _ (allUp_at _ _ tb5 (N / 100 % 10) (by omega)) (N % 100) (by omega)
    have e3 : Nat.add 50 (N / 100 % 10) = N / 100 := by have := e 5 h; show 50 + N / 100 % 10 = N / 100; omega
    rw [e3, ← e2] at this
    exact this
  · have := allUp_at _ _ (allUp_at _ _ tb6 (N / 100 % 10) (by omega)) (N % 100) (by omega)
    have e3 : Nat.add 60 (N / 100 % 10) = N / 100 := by have := e 6 h; show 60 + N / 100 % 10 = N / 100; omega
    rw [e3, ← e2] at this
    exact this
  · have := allUp_at _ _ (allUp_at _ _ tb7 (N / 100 % 10) (by omega)) (N % 100) (by omega)
    have e3 : Nat.add 70 (N / 100 % 10) = N / 100 := by have := e 7 h; show 70 + N / 100 % 10 = N / 100; omega
    rw [e3, ← e2] at this
    exact this
  · have := allUp_at _ _ (allUp_at _ _ tb8 (N / 100 % 10) (by omega)) (N % 100) (by omega)
    have e3 : Nat.add 80 (N / 100 % 10) = N / 100 := by have := e 8 h; show 80 + N / 100 % 10 = N / 100; omega
    rw [e3, ← e2] at this
    exact this
  · have := allUp_at _ _ (allUp_at _ _ tb9 (N / 100 % 10) (by omega)) (N % 100) (by omega)
    have e3 : Nat.add 90 (N / 100 % 10) = N / 100 := by have := e 9 h; show 90 + N / 100 % 10 = N / 100; omega
    rw [e3, ← e2] at this
    exact this
  · have := allUp_at _ _ (allUp_at _ _ tb10 (N / 100 % 10) (by omega)) (N % 100) (by omega)
    have e3 : Nat.add 100 (N / 100 % 10) = N / 100 := by have := e 10 h; show 100 + N / 100 % 10 = N / 100; omega
    rw [e3, ← e2] at this
    exact this
end Go.Proofs.Ytpocclcijkopnaa
