/- Contracts of SineTurns, on both sides: the same number, or a not-a-number. Every 32-bit number. -/
import Derived.Test.YtpocclcijkopnaaSinf
namespace Go.Proofs.Ytpocclcijkopnaa
open Go.RowKit Fl

theorem mathNaN_any (w : World) : Calls Try.prog 152 #[] w fun e w' => e = .returned (.float .f64 9221120237041090561) ∧ w = w' := by
  have h2 := call_from64
  go_enter Try.func152, Try.ntmps152
  go_wp2
  go_ret
  exact ⟨rfl, rfl⟩
theorem notNumber_any (w : World) : Calls Try.prog 113 #[] w fun e w' => (∃ v, e = .returned (.float .f32 v) ∧ nan32 v = true) ∧ Quiet w w' := by
  have hc := fun w => run_narrow_nan (P := Try.prog) 47 35 9221120237041090561 w (by kernel_rfl) Try.underlying35 (by decide)
  go_enter Try.func113, Try.ntmps113
  go_wp2_with (go_at_call 152; go_loud (refine (mathNaN_any _).mono ?_); rintro e w' ⟨rfl, rfl⟩)
  go_ret
  exact ⟨⟨_, rfl, nanc32_nan _ _⟩, Quiet.one _⟩
theorem isWhole_any (y : Nat) (w : World) (c : Bool) (hy : y < 18446744073709551616) (hc : (FloatKind.f64.format.order (y % 2 ^ 63) 4841369599423283200 == some .gt || FloatKind.f64.format.order (y % 2 ^ 63) 4841369599423283200 == some .eq) = c) :
    Calls Try.prog 114 #[.float .f64 y] w fun e w' => e = .returned (.bool c) ∧ w = w' := by
  have HC := Lib.hid hc
  clear hc
  go_enter Try.func114, Try.ntmps114
  go_wp2_with (go_at_call 153; go_loud (refine (abs_any _ _ hy).mono ?_); rintro e w' ⟨rfl, rfl⟩)
  go_ret
  exact ⟨by rw [← HC.out]; rfl, rfl⟩
theorem fin_wide {x : Nat} (hn : nan32 x = false) : fin64 (wide x) = fin32 x := by
  simp [fin64, fin32, nan_wide x hn, inf_wide x hn, hn]

theorem repr_some {P : Program} {f : FuncId} {args : Array Value} {w : World} {r : Nat} (h : Calls P f args w fun e w' => (∃ v, e = .returned (.float .f32 v) ∧ RepR v (some r)) ∧ Quiet w w') :
    Calls P f args w fun e w' => e = .returned (.float .f32 r) ∧ Quiet w w' :=
  h.mono fun e w' ⟨⟨v, he, hv⟩, hq⟩ => by obtain ⟨rfl, _⟩ := hv; exact ⟨he, hq⟩
theorem repr_none {P : Program} {f : FuncId} {args : Array Value} {w : World} (h : Calls P f args w fun e w' => (∃ v, e = .returned (.float .f32 v) ∧ RepR v none) ∧ Quiet w w') :
    Calls P f args w fun e w' => (∃ v, e = .returned (.float .f32 v) ∧ nan32 v = true) ∧ Quiet w w' := h

end Go.Proofs.Ytpocclcijkopnaa
