/- Contracts of SineTurns, on both sides: the same number, or a not-a-number. Every 32-bit number. -/
import Derived.Test.YtagebhbjpadddabSinf
namespace Go.Proofs.Ytagebhbjpadddab
open Go.RowKit Fl

theorem mathNaN_any (w : World) : Calls Try.prog 37 #[] w fun e w' => e = .returned (.float .f64 9221120237041090561) ∧ w = w' := by
  have h2 := call_from64
  go_enter Try.func37, Try.ntmps37
  go_wp2
  go_ret
  exact ⟨rfl, rfl⟩
theorem notNumber_any (w : World) : Calls Try.prog 19 #[] w fun e w' => (∃ v, e = .returned (.float .f32 v) ∧ nan32 v = true) ∧ Quiet w w' := by
  have hc := fun w => run_narrow_nan (P := Try.prog) 22 28 9221120237041090561 w (by kernel_rfl) Try.underlying28 (by decide)
  go_enter Try.func19, Try.ntmps19
  go_wp2_with (go_at_call 37; go_loud (refine (mathNaN_any _).mono ?_); rintro e w' ⟨rfl, rfl⟩)
  go_ret
  exact ⟨⟨_, rfl, nanc32_nan _ _⟩, Quiet.one _⟩
theorem isWhole_any (y : Nat) (w : World) (c : Bool) (hy : y < 18446744073709551616) (hc : (FloatKind.f64.format.order (y % 2 ^ 63) 4841369599423283200 == some .gt || FloatKind.f64.format.order (y % 2 ^ 63) 4841369599423283200 == some .eq) = c) :
    Calls Try.prog 20 #[.float .f64 y] w fun e w' => e = .returned (.bool c) ∧ w = w' := by
  have HC := Lib.hid hc
  clear hc
  go_enter Try.func20, Try.ntmps20
  go_wp2_with (go_at_call 38; go_loud (refine (abs_any _ _ hy).mono ?_); rintro e w' ⟨rfl, rfl⟩)
  go_ret
  exact ⟨by rw [← HC.out]; rfl, rfl⟩
set_option maxHeartbeats 800000 in
theorem l01SineWide_nan (y : Nat) (w : World) (hf : fin64 y = false) :
    Calls Try.prog 33 #[.float .f64 y] w fun e w' => e = .returned (.float .f64 9221120237041090561) ∧ Quiet w w' := by
  have hnone : floatBits .sub .f64 y y = none := by
    refine sub_self_none _ y ?_
    simp only [fin64, nan64, inf64, Bool.and_eq_false_iff, Bool.not_eq_false'] at hf
    exact hf
  have hs := fun w => run_arith_nan (P := Try.prog) .sub 22 .f64 y y w (by simp) hnone
  have ho : ∀ w, FloatKind.f64.format.order (nanb .f64 y y w) 0 = none := fun w => order_nan_left Ieee.double (nanb .f64 y y w) 0 (nanb64_nan y y w)
  clear hnone hf
  go_enter Try.func33, Try.ntmps33
  go_wp2_with (go_at_call 37; go_loud (refine (mathNaN_any _).mono ?_); rintro e w' ⟨rfl, rfl⟩)
  go_ret
  exact ⟨rfl, Quiet.one _⟩
set_option maxHeartbeats 800000 in
theorem l01SineWide_zero (y : Nat) (w : World) (a b : Bool) (hfin : fin64 y = true)
    (hge : (FloatKind.f64.format.order y 4841369599423283200 == some .gt || FloatKind.f64.format.order y 4841369599423283200 == some .eq) = a)
    (hle : (FloatKind.f64.format.order y 14064741636278059008 == some .lt || FloatKind.f64.format.order y 14064741636278059008 == some .eq) = b) (hab : (a || b) = true) :
    Calls Try.prog 33 #[.float .f64 y] w fun e w' => e = .returned (.float .f64 0) ∧ w = w' := by
  have ey := fun w => run_float_arith (P := Try.prog) w .sub 22 .f64 y y 0 (by obtain ⟨s, m, e, hx⟩ := fin64_number hfin; exact (sub_self_fin _ y s m e hx).trans rfl)
  have ho0 : FloatKind.f64.format.order 0 0 = some .eq := by decide
  clear hfin
  cases a
  · cases b
    · cases hab
    · clear hab
      go_enter Try.func33, Try.ntmps33
      go_wp2
      go_ret
      exact ⟨rfl, rfl⟩
  · clear hab
    go_enter Try.func33, Try.ntmps33
    go_wp2
    go_ret
    exact ⟨rfl, rfl⟩
theorem fin_wide {x : Nat} (hn : nan32 x = false) : fin64 (wide x) = fin32 x := by
  simp [fin64, fin32, nan_wide x hn, inf_wide x hn, hn]

theorem repr_some {P : Program} {f : FuncId} {args : Array Value} {w : World} {r : Nat} (h : Calls P f args w fun e w' => (∃ v, e = .returned (.float .f32 v) ∧ RepR v (some r)) ∧ Quiet w w') :
    Calls P f args w fun e w' => e = .returned (.float .f32 r) ∧ Quiet w w' :=
  h.mono fun e w' ⟨⟨v, he, hv⟩, hq⟩ => by obtain ⟨rfl, _⟩ := hv; exact ⟨he, hq⟩
theorem repr_none {P : Program} {f : FuncId} {args : Array Value} {w : World} (h : Calls P f args w fun e w' => (∃ v, e = .returned (.float .f32 v) ∧ RepR v none) ∧ Quiet w w') :
    Calls P f args w fun e w' => (∃ v, e = .returned (.float .f32 v) ∧ nan32 v = true) ∧ Quiet w w' := h

end Go.Proofs.Ytagebhbjpadddab
