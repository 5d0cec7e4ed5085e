/- The table of the tenths is right: found by the kernel. -/
import Derived.Test.YtpocclcijkopnaaTt
import Derived.Test.YtpocclcijkopnaaTr
namespace Go.Proofs.Ytpocclcijkopnaa
open Go.RowKit Fl
def oneTab2 (N : Nat) : Bool := cond (Nat.beq (tab N) 0) true (tenOk N (tab N))
set_option maxRecDepth 1000000
theorem tb11 : allUp (fun i => allUp (fun k => oneTab2 (Nat.add (Nat.mul 100 (Nat.add 110 i)) k)) 100) 10 = true := by kernel_rfl
theorem tb12 : allUp (fun i => allUp (fun k => oneTab2 (Nat.add (Nat.mul 100 (Nat.add 120 i)) k)) 100) 10 = true := by kernel_rfl
theorem tb13 : allUp (fun i => allUp (fun k => oneTab2 (Nat.add (Nat.mul 100 (Nat.add 130 i)) k)) 100) 10 = true := by kernel_rfl
theorem tb14 : allUp (fun i => allUp (fun k => oneTab2 (Nat.add (Nat.mul 100 (Nat.add 140 i)) k)) 100) 10 = true := by kernel_rfl
theorem tb15 : allUp (fun i => allUp (fun k => oneTab2 (Nat.add (Nat.mul 100 (Nat.add 150 i)) k)) 100) 10 = true := by kernel_rfl
theorem tb16 : allUp (fun i => allUp (fun k => oneTab2 (Nat.add (Nat.mul 100 (Nat.add 160 i)) k)) 100) 10 = true := by kernel_rfl
theorem tb17 : allUp (fun i => allUp (fun k => oneTab2 (Nat.add (Nat.mul 100 (Nat.add 170 i)) k)) 100) 10 = true := by kernel_rfl
theorem tb18 : allUp (fun i => allUp (fun k => oneTab2 (Nat.add (Nat.mul 100 (Nat.add 180 i)) k)) 100) 10 = true := by kernel_rfl
theorem tb19 : allUp (fun i => allUp (fun k => oneTab2 (Nat.add (Nat.mul 100 (Nat.add 190 i)) k)) 100) 10 = true := by kernel_rfl
theorem tb20 : allUp (fun i => allUp (fun k => oneTab2 (Nat.add (Nat.mul 100 (Nat.add 200 i)) k)) 100) 10 = true := by kernel_rfl
theorem tb21 : allUp (fun i => allUp (fun k => oneTab2 (Nat.add (Nat.mul 100 (Nat.add 210 i)) k)) 100) 10 = true := by kernel_rfl
theorem tb22 : allUp (fun i => allUp (fun k => oneTab2 (Nat.add (Nat.mul 100 (Nat.add 220 i)) k)) 100) 10 = true := by kernel_rfl
theorem tb23 : allUp (fun i => allUp (fun k => oneTab2 (Nat.add (Nat.mul 100 (Nat.add 230 i)) k)) 100) 10 = true := by kernel_rfl
theorem tb24 : allUp (fun i => allUp (fun k => oneTab2 (Nat.add (Nat.mul 100 (Nat.add 240 i)) k)) 100) 10 = true := by kernel_rfl
theorem tb25 : allUp (fun i => allUp (fun k => oneTab2 (Nat.add (Nat.mul 100 (Nat.add 250 i)) k)) 100) 10 = true := by kernel_rfl
theorem tb26 : allUp (fun i => allUp (fun k => oneTab2 (Nat.add (Nat.mul 100 (Nat.add 260 i)) k)) 100) 10 = true := by kernel_rfl
theorem tb27 : allUp (fun i => allUp (fun k => oneTab2 (Nat.add (Nat.mul 100 (Nat.add 270 i)) k)) 100) 10 = true := by kernel_rfl
theorem tb28 : allUp (fun i => allUp (fun k => oneTab2 (Nat.add (Nat.mul 100 (Nat.add 280 i)) k)) 100) 10 = true := by kernel_rfl
theorem tb29 : allUp (fun i => allUp (fun k => oneTab2 (Nat.add (Nat.mul 100 (Nat.add 290 i)) k)) 100) 10 = true := by kernel_rfl
theorem tb30 : allUp (fun i => allUp (fun k => oneTab2 (Nat.add (Nat.mul 100 (Nat.add 300 i)) k)) 100) 10 = true := by kernel_rfl
theorem tb31 : allUp (fun i => allUp (fun k => oneTab2 (Nat.add (Nat.mul 100 (Nat.add 310 i)) k)) 100) 10 = true := by kernel_rfl
theorem tb32 : allUp (fun i => allUp (fun k => oneTab2 (Nat.add (Nat.mul 100 (Nat.add 320 i)) k)) 100) 10 = true := by kernel_rfl
theorem tb33 : allUp (fun i => allUp (fun k => oneTab2 (Nat.add (Nat.mul 100 (Nat.add 330 i)) k)) 100) 10 = true := by kernel_rfl
theorem tb34 : allUp (fun i => allUp (fun k => oneTab2 (Nat.add (Nat.mul 100 (Nat.add 340 i)) k)) 100) 10 = true := by kernel_rfl
theorem tb35 : allUp (fun i => allUp (fun k => oneTab2 (Nat.add (Nat.mul 100 (Nat.add 350 i)) k)) 100) 10 = true := by kernel_rfl
theorem tb36 : allUp (fun i => allUp (fun k => oneTab2 (Nat.add (Nat.mul 100 (Nat.add 360 i)) k)) 100) 10 = true := by kernel_rfl
theorem tb37 : allUp (fun i => allUp (fun k => oneTab2 (Nat.add (Nat.mul 100 (Nat.add 370 i)) k)) 100) 10 = true := by kernel_rfl
theorem tb38 : allUp (fun i => allUp (fun k => oneTab2 (Nat.add (Nat.mul 100 (Nat.add 380 i)) k)) 100) 10 = true := by kernel_rfl
theorem tb39 : allUp (fun i => allUp (fun k => oneTab2 (Nat.add (Nat.mul 100 (Nat.add 390 i)) k)) 100) 10 = true := by kernel_rfl
theorem allTab2 (N : Nat) (h1 : 11000 ≤ N) (h2 : N < 40000) : oneTab2 N = true := by
  have e : ∀ b, N / 1000 = b → 10 * b + N / 100 % 10 = N / 100 := by omega
  have e2 : N = Nat.add (Nat.mul 100 (N / 100)) (N % 100) := (Nat.div_add_mod N 100).symm
  have hb : N / 1000 = 11 ∨ N / 1000 = 12 ∨ N / 1000 = 13 ∨ N / 1000 = 14 ∨ N / 1000 = 15 ∨ N / 1000 = 16 ∨ N / 1000 = 17 ∨ N / 1000 = 18 ∨ N / 1000 = 19 ∨ N / 1000 = 20 ∨ N / 1000 = 21 ∨ N / 1000 = 22 ∨ N / 1000 = 23 ∨ N / 1000 = 24 ∨ N / 1000 = 25 ∨ N / 1000 = 26 ∨ N / 1000 = 27 ∨ N / 1000 = 28 ∨ N / 1000 = 29 ∨ N / 1000 = 30 ∨ N / 1000 = 31 ∨ N / 1000 = 32 ∨ N / 1000 = 33 ∨ N / 1000 = 34 ∨ N / 1000 = 35 ∨ N / 1000 = 36 ∨ N / 1000 = 37 ∨ N / 1000 = 38 ∨ N / 1000 = 39 := by omega
  rcases hb with h | h | h | h | h | h | h | h | h | h | h | h | h | h | h | h | h | h | h | h | h | h | h | h | h | h | h | h | h
  · have := allUp_at _ _ (allUp_at _ _ tb11 (N / 100 % 10) (by omega)) (N % 100) (by omega)
    have e3 : Nat.add 110 (N / 100 % 10) = N / 100 := by have := e 11 h; show 110 + N / 100 % 10 = N / 100; omega
    rw [e3, ← e2] at this
    exact this
  · have := allUp_at _ _ (allUp_at _ _ tb12 (N / 100 % 10) (by omega)) (N % 100) (by omega)
    have e3 : Nat.add 120 (N / 100 % 10) = N / 100 := by have := e 12 h; show 120 + N / 100 % 10 = N / 100; omega
    rw [e3, ← e2] at this
    exact this
  · have := allUp_at _ _ (allUp_at _ _ tb13 (N / 100 % 10) (by omega)) (N % 100) (by omega)
    have e3 : Nat.add 130 (N / 100 % 10) = N / 100 := by have := e 13 h; show 130 + N / 100 % 10 = N / 100; omega
    rw [e3, ← e2] at this
    exact this
  · have := allUp_at _ _ (allUp_at _ _ tb14 (N / 100 % 10) (by omega)) (N % 100) (by omega)
    have e3 : Nat.add 140 (N / 100 % 10) = N / 100 := by have := e 14 h; show 140 + N / 100 % 10 = N / 100; omega
    rw [e3, ← e2] at this
    exact this
  · have := allUp_at _ _ (allUp_at _ _ tb15 (N / 100 % 10) (by omega)) (N % 100) (by omega)
    have e3 : Nat.add 150 (N / 100 % 10) = N / 100 := by have := e 15 h; show 150 + N / 100 % 10 = N / 100; omega
    rw [e3, ← e2] at this
    exact this
  · have := allUp_at _ _ (allUp_at _ _ tb16 (N / 100 % 10) (by omega)) (N % 100) (by omega)
    have e3 : Nat.add 160 (N / 100 % 10) = N / 100 := by have := e 16 h; show 160 + N / 100 % 10 = N / 100; omega
    rw [e3, ← e2] at this
    exact this
  · have := allUp_at _ _ (allUp_at _ _ tb17 (N / 100 % 10) (by omega)) (N % 100) (by omega)
    have e3 : Nat.add 170 (N / 100 % 10) = N / 100 := by have := e 17 h; show 170 + N / 100 % 10 = N / 100; omega
    rw [e3, ← e2] at this
    exact this
  · have := allUp_at _ _ (allUp_at _ _ tb18 (N / 100 % 10) (by omega)) (N % 100) (by omega)
    have e3 : Nat.add 180 (N / 100 % 10) = N / 100 := by have := e 18 h; show 180 + N / 100 % 10 = N / 100; omega
    rw [e3, ← e2] at this
    exact this
  · have := allUp_at _ _ (allUp_at _ _ tb19 (N / 100 % 10) (by omega)) (N % 100) (by omega)
    have e3 : Nat.add 190 (N / 100 % 10) = N / 100 := by have := e 19 h; show 190 + N / 100 % 10 = N / 100; omega
    rw [e3, ← e2] at this
    exact this
  · have := allUp_at _ _ (allUp_at _ _ tb20 (N / 100 % 10) (by omega)) (N % 100) (by omega)
    have e3 : Nat.add 200 (N / 100 % 10) = N / 100 := by have := e 20 h; show 200 + N / 100 % 10 = N / 100; omega
    rw [e3, ← e2] at this
    exact this
  · have := allUp_at _ _ (allUp_at _ _ tb21 (N / 100 % 10) (by omega)) (N % 100) (by omega)
    have e3 : Nat.add 210 (N / 100 % 10) = N / 100 := by have := e 21 h; show 210 + N / 100 % 10 = N / 100; omega
    rw [e3, ← e2] at this
    exact this
  · have := allUp_at _ _ (allUp_at _ _ tb22 (N / 100 % 10) (by omega)) (N % 100) (by omega)
    have e3 : Nat.add 220 (N / 100 % 10) = N / 100 := by have := e 22 h; show 220 + N / 100 % 10 = N / 100; omega
    rw [e3, ← e2] at this
    exact this
  · have := allUp_at _ _ (allUp_at _ _ tb23 (N / 100 % 10) (by omega)) (N % 100) (by omega)
    have e3 : Nat.add 230 (N / 100 % 10) = N / 100 := by have := e 23 h; show 230 + N / 100 % 10 = N / 100; omega
    rw [e3, ← e2] at this
    exact this
  · have := allUp_at _ _ (allUp_at _ _ tb24 (N / 100 % 10) (by omega)) (N % 100) (by omega)
    have e3 : Nat.add 240 (N / 100 % 10) = N / 100 := by have := e 24 h; show 240 + N / 100 % 10 = N / 100; omega
    rw [e3, ← e2] at this
    exact this
  · have := allUp_at _ _ (allUp_at _ _ tb25 (N / 100 % 10) (by omega)) (N % 100) (by omega)
    have e3 : Nat.add 250 (N / 100 % 10) = N / 100 := by have := e 25 h; show 250 + N / 100 % 10 = N / 100; omega
    rw [e3, ← e2] at this
    exact this
  · have := allUp_at _ _ (allUp_at _ _ tb26 (N / 100 % 10) (by omega)) (N % 100) (by omega)
    have e3 : Nat.add 260 (N / 100 % 10) = N / 100 := by have := e 26 h; show 260 + N / 100 % 10 = N / 100; omega
    rw [e3, ← e2] at this
    exact this
  · have := allUp_at _ _ (allUp_at _ _ tb27 (N / 100 % 10) (by omega)) (N % 100) (by omega)
    have e3 : Nat.add 270 (N / 100 % 10) = N / 100 := by have := e 27 h; show 270 + N / 100 % 10 = N / 100; omega
    rw [e3, ← e2] at this
    exact this
  · have := allUp_at _ _ (allUp_at _ _ tb28 (N / 100 % 10) (by omega)) (N % 100) (by omega)
    have e3 : Nat.add 280 (N / 100 % 10) = N / 100 := by have := e 28 h; show 280 + N / 100 % 10 = N / 100; omega
    rw [e3, ← e2] at this
    exact this
  · have := allUp_at _ _ (allUp_at _ _ tb29 (N / 100 % 10) (by omega)) (N % 100) (by omega)
    have e3 : Nat.add 290 (N / 100 % 10) = N / 100 := by have := e 29 h; show 290 + N / 100 % 10 = N / 100; omega
    rw [e3, ← e2] at this
    exact this
  · have := allUp_at _ _ (allUp_at _ _ tb30 (N / 100 % 10) (by omega)) (N % 100) (by omega)
    have e3 : Nat.add 300 (N / 100 % 10) = N / 100 := by have := e 30 h; show 300 + N / 100 % 10 = N / 100; omega
    rw [e3, ← e2] at this
    exact this
  · have := allUp_at _ _ (allUp_at _ _ tb31 (N / 100 % 10) (by omega)) (N % 100) (by omega)
    have e3 : Nat.add 310 (N / 100 % 10) = N / 100 := by have := e 31 h; show 310 + N / 100 % 10 = N / 100; omega
    rw [e3, ← e2] at this
    exact this
  · have := allUp_at _ _ (allUp_at _ _ tb32 (N / 100 % 10) (by omega)) (N % 100) (by omega)
    have e3 : Nat.add 320 (N / 100 % 10) = N / 100 := by have := e 32 h; show 320 + N / 100 % 10 = N / 100; omega
    rw [e3, ← e2] at this
    exact this
  · have := allUp_at _ _ (allUp_at _ _ tb33 (N / 100 % 10) (by omega)) (N % 100) (by omega)
    have e3 : Nat.add 330 (N / 100 % 10) = N / 100 := by have := e 33 h; show 330 + N / 100 % 10 = N / 100; omega
    rw [e3, ← e2] at this
    exact this
  · have := allUp_at _ _ (allUp_at _ _ tb34 (N / 100 % 10) (by omega)) (N % 100) (by omega)
    have e3 : Nat.add 340 (N / 100 % 10) = N / 100 := by have := e 34 h; show 340 + N / 100 % 10 = N / 100; omega
    rw [e3, ← e2] at this
    exact this
  · have := allUp_at _ _ (allUp_at _ _ tb35 (N / 100 % 10) (by omega)) (N % 100) (by omega)
    have e3 : Nat.add 350 (N / 100 % 10) = N / 100 := by have := e 35 h; show 350 + N / 100 % 10 = N / 100; omega
    rw [e3, ← e2] at this
    exact this
  · have := allUp_at _ _ (allUp_at _ _ tb36 (N / 100 % 10) (by omega)) (N % 100) (by omega)
    have e3 : Nat.add 360 (N / 100 % 10) = N / 100 := by have := e 36 h; show 360 + N / 100 % 10 = N / 100; omega
    rw [e3, ← e2] at this
    exact this
  · have := allUp_at _ _ (allUp_at _ _ tb37 (N / 100 % 10) (by omega)) (N % 100) (by omega)
    have e3 : Nat.add 370 (N / 100 % 10) = N / 100 := by have := e 37 h; show 370 + N / 100 % 10 = N / 100; omega
    rw [e3, ← e2] at this
    exact this
  · have := allUp_at _ _ (allUp_at _ _ tb38 (N / 100 % 10) (by omega)) (N % 100) (by omega)
    have e3 : Nat.add 380 (N / 100 % 10) = N / 100 := by have := e 38 h; show 380 + N / 100 % 10 = N / 100; omega
    rw [e3, ← e2] at this
    exact this
  · have := allUp_at _ _ (allUp_at _ _ tb39 (N / 100 % 10) (by omega)) (N % 100) (by omega)
    have e3 : Nat.add 390 (N / 100 % 10) = N / 100 := by have := e 39 h; show 390 + N / 100 % 10 = N / 100; omega
    rw [e3, ← e2] at this
    exact this
theorem allTab3 : tenOk 40000 (tab 40000) = true := by kernel_rfl
end Go.Proofs.Ytpocclcijkopnaa
