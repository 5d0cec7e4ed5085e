/- Refusals: functions that panic, and the one that turns a panic into 'not ok'. -/
import Derived.Test.YtljcgfgkfkoeeaaGreatDoorCs
import Derived.Defers
import Derived.Recover
namespace Go.Proofs.YtljcgfgkfkoeeaaGreatDoor
open Go.RowKit

/-- what errRefused holds -/
def Ref (w : World) (p : Value) : Prop := w.cell? ⟨0, 0, none⟩ = some (.iface 145 p)
theorem Ref.below {w w' : World} {p : Value} (h : Ref w p) (hb : Below w.heap.size w w') : Ref w' p := by
  unfold Ref at *
  rw [hb.cell (p := ⟨0, 0, none⟩) (World.block_lt_of_cell? w _ h)]; exact h
/-- the panic of a refusal -/
def refused (p : Value) : Ending := .panicked [{ v := .iface 145 p, recovered := false }]
set_option maxHeartbeats 400000 in
theorem require_yes (w : World) : Calls Tryz.prog 29 #[.bool true] w fun e w' => e = .returned (.tuple #[]) ∧ w = w' := by
  go_enter Tryz.func29, Tryz.ntmps29
  go_wp2
  go_end0
  exact ⟨rfl, rfl⟩
set_option maxHeartbeats 400000 in
theorem require_no (w : World) (p : Value) (h : Ref w p) : Calls Tryz.prog 29 #[.bool false] w fun e w' => e = refused p ∧ w = w' := by
  unfold Ref at h
  go_enter Tryz.func29, Tryz.ntmps29
  go_wp2
  exact ⟨rfl, rfl, rfl⟩
set_option maxHeartbeats 400000 in
theorem mustC_yes (v : Value) (w : World) : Calls Tryz.prog 47 #[v, .bool true] w fun e w' => e = .returned v ∧ w = w' := by
  have H := Lib.hid fun w => require_yes w
  go_enter Tryz.func47, Tryz.ntmps47
  go_wp2_with (go_at_call 29; ((with_reducible refine (H.out _).mono ?_); rintro e w1 ⟨rfl, rfl⟩))
  go_ret
  exact ⟨rfl, rfl⟩
set_option maxHeartbeats 400000 in
theorem mustC_no (v p : Value) (w : World) (h : Ref w p) : Calls Tryz.prog 47 #[v, .bool false] w fun e w' => e = refused p ∧ w = w' := by
  have H := Lib.hid (require_no w p h)
  unfold refused at H ⊢
  go_enter Tryz.func47, Tryz.ntmps47
  go_wp2_with (go_at_call 29; ((with_reducible refine (H.out).mono ?_); rintro e w1 ⟨rfl, rfl⟩))
  exact ⟨rfl, rfl, rfl⟩
end Go.Proofs.YtljcgfgkfkoeeaaGreatDoor
