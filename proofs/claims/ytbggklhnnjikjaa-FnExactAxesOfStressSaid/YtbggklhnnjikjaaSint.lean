/- Contracts of SineTurns, on both sides: the same number, or a not-a-number. Every 32-bit number. -/
import Derived.Test.YtbggklhnnjikjaaSinf
namespace Go.Proofs.Ytbggklhnnjikjaa
open Go.RowKit Fl

theorem mathNaN_any (w : World) : Calls Try.prog 119 #[] w fun e w' => e = .returned (.float .f64 9221120237041090561) ∧ w = w' := by
  have h2 := call_from64
  go_enter Try.func119, Try.ntmps119
  go_wp2
  go_ret
  exact ⟨rfl, rfl⟩
theorem notNumber_any (w : World) : Calls Try.prog 121 #[] w fun e w' => (∃ v, e = .returned (.float .f32 v) ∧ nan32 v = true) ∧ Quiet w w' := by
  have hc := fun w => run_narrow_nan (P := Try.prog) 47 35 9221120237041090561 w (by kernel_rfl) Try.underlying35 (by decide)
  go_enter Try.func121, Try.ntmps121
  go_wp2_with (go_at_call 119; go_loud (refine (mathNaN_any _).mono ?_); rintro e w' ⟨rfl, rfl⟩)
  go_ret
  exact ⟨⟨_, rfl, nanc32_nan _ _⟩, Quiet.one _⟩
theorem fin_wide {x : Nat} (hn : nan32 x = false) : fin64 (wide x) = fin32 x := by
  simp [fin64, fin32, nan_wide x hn, inf_wide x hn, hn]

theorem repr_some {P : Program} {f : FuncId} {args : Array Value} {w : World} {r : Nat} (h : Calls P f args w fun e w' => (∃ v, e = .returned (.float .f32 v) ∧ RepR v (some r)) ∧ Quiet w w') :
    Calls P f args w fun e w' => e = .returned (.float .f32 r) ∧ Quiet w w' :=
  h.mono fun e w' ⟨⟨v, he, hv⟩, hq⟩ => by obtain ⟨rfl, _⟩ := hv; exact ⟨he, hq⟩
theorem repr_none {P : Program} {f : FuncId} {args : Array Value} {w : World} (h : Calls P f args w fun e w' => (∃ v, e = .returned (.float .f32 v) ∧ RepR v none) ∧ Quiet w w') :
    Calls P f args w fun e w' => (∃ v, e = .returned (.float .f32 v) ∧ nan32 v = true) ∧ Quiet w w' := h

end Go.Proofs.Ytbggklhnnjikjaa
