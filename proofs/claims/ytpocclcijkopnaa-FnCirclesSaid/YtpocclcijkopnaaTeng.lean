/- Rounding a small number down gives a small number; the contracts of math.Floor. -/
import Derived.Test.YtpocclcijkopnaaTenf
import Derived.Test.YtpocclcijkopnaaBits
namespace Go.Proofs.Ytpocclcijkopnaa
open Go.RowKit Fl
open Ieee (Datum Toward)

theorem cut_down_le (s : Bool) (n k T : Nat) (h : n ≤ T * 2 ^ k) : Toward.down.cut s n k ≤ T + 1 := by
  have key : n / ((1 : Nat) <<< min k (n.log2 + 2)) ≤ T := by
    rw [shl_eq, Nat.one_mul]
    by_cases hk : k ≤ n.log2 + 2
    · rw [Nat.min_eq_left hk]
      exact Nat.div_le_of_le_mul (by rw [Nat.mul_comm]; exact h)
    · rw [Nat.min_eq_right (by omega)]
      have h1 := lt_two_log n
      have h2 : 2 ^ (n.log2 + 2) = 2 * 2 ^ (n.log2 + 1) := by rw [Nat.pow_succ, Nat.mul_comm]
      rw [Nat.div_eq_of_lt (by omega)]
      exact Nat.zero_le _
  unfold Toward.cut
  dsimp only
  refine Nat.add_le_add key ?_
  generalize (s && n % ((1 : Nat) <<< min k (n.log2 + 2)) != 0) = b
  cases b <;> decide

/-- the number that math.Floor gives -/
def floorOf (r : Nat) : Nat := FloatKind.f64.encode ((FloatKind.f64.decode r).integral .down)

theorem floor_bd (r : Nat) (h : Bd r 1099) : Bd (floorOf r) 1126 := by
  obtain ⟨s, m, e, h1, h2, h3⟩ := h
  have h0 : floorOf r = Ieee.double.nearest s (Toward.down.cut s (m <<< e.toNat) (-e).toNat) 0 := by
    unfold floorOf
    show Ieee.double.write ((Ieee.double.read r).integral .down) = _
    rw [h1]; rfl
  have hc : Toward.down.cut s (m <<< e.toNat) (-e).toNat ≤ 2 ^ 25 + 1 := by
    refine cut_down_le _ _ _ _ ?_
    rw [shl_eq]
    have hU := Nat.two_pow_pos U
    refine Nat.le_of_mul_le_mul_right ?_ hU
    rw [Nat.mul_assoc, Nat.mul_assoc]
    have e1 : 2 ^ e.toNat * 2 ^ U = 2 ^ (e + 1074).toNat * 2 ^ (-e).toNat := by
      rw [← Nat.pow_add, ← Nat.pow_add, show e.toNat + U = (e + 1074).toNat + (-e).toNat by rw [U_eq]; omega]
    rw [e1, ← Nat.mul_assoc, Nat.mul_comm (2 ^ (-e).toNat) (2 ^ U), ← Nat.mul_assoc]
    refine Nat.mul_le_mul_right _ ?_
    rw [← Nat.pow_add, show 25 + U = 1099 by rw [U_eq]]
    exact h3
  rw [h0]
  refine bd_nearest _ _ _ 1126 0 (by decide) (by decide) (by decide) ?_
  rw [show (0 + 1074 + ((0 : Nat) : Int)).toNat = U by rw [U_eq]; rfl, show 1126 + 0 = 52 + U by rw [U_eq], Nat.pow_add]
  refine Nat.mul_le_mul_right _ (Nat.le_trans hc (by decide))

theorem floor_int (r : Nat) (h : Bd r 1099) : ∃ n, floatToIntVal .f64 (floorOf r) .i64 = some n := by
  obtain ⟨n, _, hn, _⟩ := part_facts _ (floor_bd r h)
  exact ⟨n, hn⟩

theorem call_archFloor (r : Nat) (h : Bd r 1099) (w : World) : (callFunc 155 #[.float .f64 r]).run Try.prog w = .ok (.value (.float .f64 (floorOf r))) w := by
  obtain ⟨s, m, e, h1, h2, h3⟩ := h
  refine (run_callFunc_extern (e := Extern.MathFloor.toIntegral "math.archFloor" .down) Try.func155 (by kernel_rfl) (by kernel_rfl) (by kernel_rfl) (by kernel_rfl) _ w).trans ?_
  have hd : FloatKind.f64.decode r = .number s m e := h1
  change ((match FloatKind.f64.decode r with | .nan s t => if FloatKind.f64.format.quiet t = t then (pure (.float .f64 r) : Sem Value) else do let kept ← choose (.extern "math.Floor,Ceil,Trunc,RoundToEven.signallingNaN kept" 2); pure (.float .f64 (if kept == 1 then r else FloatKind.f64.encode (.nan s (FloatKind.f64.format.quiet t)))) | d => pure (.float .f64 (FloatKind.f64.encode (d.integral .down)))).run Try.prog w).andThen (fun v w' => Result.ok (Next.value v) w') = _
  unfold floorOf
  rw [hd]
  rfl
set_option maxHeartbeats 400000 in
theorem floor_of (r : Nat) (h : Bd r 1099) (w : World) : Calls Try.prog 121 #[.float .f64 r] w fun e w' => e = .returned (.float .f64 (floorOf r)) ∧ w = w' := by
  have hc := fun w => call_archFloor r h w
  clear h
  go_enter Try.func121, Try.ntmps121
  go_wp2
  go_ret
  exact ⟨rfl, rfl⟩

end Go.Proofs.Ytpocclcijkopnaa
