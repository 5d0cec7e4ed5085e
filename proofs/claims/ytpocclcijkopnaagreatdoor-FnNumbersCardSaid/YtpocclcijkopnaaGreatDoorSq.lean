/- SineTurns of a quarter of a turn is 1; the angle of a point is that of its complex number; a 32-bit number widened and narrowed is itself. -/
import Derived.Test.YtpocclcijkopnaaGreatDoorAngt
namespace Go.Proofs.YtpocclcijkopnaaGreatDoor
open Go.RowKit Fl

def pq : Nat → Nat
  | 0 => 4603909380684499324
  | 1 => 4606134293848575110
  | 2 => 4606671000400092530
  | 3 => 4606880562504908746
  | 4 => 4606983537433042945
  | 5 => 4607041613568030269
  | 6 => 4607077548472490218
  | 7 => 4607100711545048584
  | _ => 4607182418800017408
theorem pq_step (k : Nat) (h1 : 1 ≤ k) (h8 : k ≤ 8) : SinStep 4612738512137897438 (pq k) k (pq (k - 1)) := by
  have hk : k = 1 ∨ k = 2 ∨ k = 3 ∨ k = 4 ∨ k = 5 ∨ k = 6 ∨ k = 7 ∨ k = 8 := by omega
  have key : ∀ u p k p', ((floatBits .mul .f64 u p).bind fun a => (floatBits .quo .f64 a (den k)).bind fun b => floatBits .sub .f64 4607182418800017408 b) = some p' → SinStep u p k p' := by
    intro u p k p' h
    cases ha : floatBits .mul .f64 u p with
    | none => rw [ha] at h; cases h
    | some a =>
      rw [ha] at h
      cases hb : floatBits .quo .f64 a (den k) with
      | none => simp only [Option.bind_some, hb] at h; cases h
      | some b => simp only [Option.bind_some, hb] at h; exact ⟨a, b, ha, hb, h⟩
  rcases hk with rfl | rfl | rfl | rfl | rfl | rfl | rfl | rfl <;> exact key _ _ _ _ (by decide +kernel)
theorem sine_quarter (w : World) : Calls Tryz.prog 20 #[.float .f32 1048576000] w fun e w' => e = .returned (.float .f32 1065353216) ∧ w = w' := by
  have hn : nan32 1048576000 = false := by decide
  have hwd : wide 1048576000 = 4598175219545276416 := by decide +kernel
  have hc := fun w => run_convert_float_float (P := Tryz.prog) w 24 44 .f32 .f64 1048576000 4598175219545276416 (by kernel_rfl) Tryz.underlying44 (by rw [← hwd]; exact wide_conv _ hn)
  have hF := Lib.hid (show fin64 4598175219545276416 = true by decide)
  have HFi := Lib.hid fun w => (show Calls Tryz.prog 58 #[.float .f64 4598175219545276416] w fun e w' => e = .returned (.bool true) ∧ w = w' by have := isFiniteLong_any 4598175219545276416 w (by decide); rw [hF.out] at this; exact this)
  have HW := Lib.hid fun w => isWhole_any 4598175219545276416 w false (by decide) (by decide +kernel)
  have HS := Lib.hid fun w => sineLong_of 4598175219545276416 4607182418800017604 4598175219545276416 w
    (fun w => partOfTurn_of _ 4598175219545276416 4598175219545276416 0 false w (by decide +kernel) (by decide +kernel) (by decide +kernel) (by simp))
    ⟨4598175219545276416, 4598175219545276416, 4609753056924675352, 4612738512137897438, 4607182418800017604, pq, false, false, by decide +kernel, by simp, by decide +kernel, by simp, by decide +kernel, by decide +kernel, rfl, pq_step, by decide +kernel, by simp⟩
  have HN := Lib.hid fun w => narrowNumber_ok 4607182418800017604 1065353216 w (by decide +kernel)
  clear hn hwd hF
  go_enter Tryz.func20, Tryz.ntmps20
  go_wp2_with (first | (go_at_call 58; (with_reducible refine (HFi.out _).mono ?_); rintro e w' ⟨rfl, rfl⟩) | (go_at_call 59; (with_reducible refine (HW.out _).mono ?_); rintro e w' ⟨rfl, rfl⟩) | (go_at_call 60; (with_reducible refine (HS.out _).mono ?_); rintro e w' ⟨rfl, rfl⟩) | (go_at_call 19; (with_reducible refine (HN.out _).mono ?_); rintro e w' ⟨rfl, rfl⟩))
  go_ret
  exact ⟨rfl, rfl⟩
theorem angleOf_any (y x : Nat) (o : Option Nat) (w : World) (h : ∀ w, Calls Tryz.prog 17 #[.float .f32 y, .float .f32 x] w fun e w' => (∃ v, e = .returned (.float .f32 v) ∧ RepR v o) ∧ Quiet w w') :
    Calls Tryz.prog 18 #[.complex .f32 x y] w fun e w' => (∃ v, e = .returned (.float .f32 v) ∧ RepR v o) ∧ Quiet w w' := by
  have H := Lib.hid h
  clear h
  go_enter Tryz.func18, Tryz.ntmps18
  go_wp2_with (go_at_call 17; go_loud (refine (H.out _).mono ?_); rintro e w' ⟨⟨v, rfl, hv⟩, hq⟩)
  go_ret
  exact ⟨⟨_, rfl, hv⟩, hq⟩
end Go.Proofs.YtpocclcijkopnaaGreatDoor
