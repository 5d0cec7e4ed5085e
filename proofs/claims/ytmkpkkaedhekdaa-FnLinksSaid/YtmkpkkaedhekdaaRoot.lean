/- Contracts of the square root. Every 32-bit number. -/
import Derived.Test.YtmkpkkaedhekdaaBits
import Derived.Test.YtmkpkkaedhekdaaBd
import Derived.Lib.Hide
namespace Go.Proofs.Ytmkpkkaedhekdaa
open Go.RowKit Fl

theorem call_sqrt_some (y r : Nat) (h : Ieee.double.sqrt y = some r) (w : World) : (callFunc 47 #[.float .f64 y]).run Try.prog w = .ok (.value (.float .f64 r)) w := by
  refine (run_callFunc_extern (e := Extern.MathSqrt.sqrt) Try.func47 (by kernel_rfl) (by kernel_rfl) (by kernel_rfl) (by kernel_rfl) _ w).trans ?_
  have : FloatKind.f64.format.sqrt y = some r := h
  change ((match FloatKind.f64.format.sqrt y with | some r => (pure (.float .f64 r) : Sem Value) | none => do pure (.float .f64 (← choose (.nanBits .f64 y y)))).run Try.prog w).andThen (fun v w' => Result.ok (Next.value v) w') = _
  rw [this]
  rfl
theorem call_sqrt_none (y : Nat) (h : Ieee.double.sqrt y = none) (w : World) : (callFunc 47 #[.float .f64 y]).run Try.prog w = .ok (.value (.float .f64 (nanb .f64 y y w))) w.drew := by
  refine (run_callFunc_extern (e := Extern.MathSqrt.sqrt) Try.func47 (by kernel_rfl) (by kernel_rfl) (by kernel_rfl) (by kernel_rfl) _ w).trans ?_
  have : FloatKind.f64.format.sqrt y = none := h
  change ((match FloatKind.f64.format.sqrt y with | some r => (pure (.float .f64 r) : Sem Value) | none => do pure (.float .f64 (← choose (.nanBits .f64 y y)))).run Try.prog w).andThen (fun v w' => Result.ok (Next.value v) w') = _
  rw [this]
  simp [Question.forced, nanb]
theorem sqrt_nan {y : Nat} (h : nan64 y = true) : Ieee.double.sqrt y = none := by
  unfold nan64 at h
  cases hy : Ieee.double.read y with
  | nan s t => unfold Ieee.Format.sqrt; rw [hy]; rfl
  | number s m e => simp [hy, Ieee.Datum.isNaN] at h
  | infinity s => simp [hy, Ieee.Datum.isNaN] at h

/-- 'v is the number o, or a not-a-number where o is none' -/
def RepR (v : Nat) : Option Nat → Prop
  | none => nan32 v = true
  | some r => v = r ∧ nan32 r = false

/-- RootNumber -/
def rootO (x : Nat) : Option Nat := if nan32 x then none else (Ieee.double.sqrt (wide x)).bind fun r => floatToFloatBits .f64 r .f32

theorem root_ok {x r : Nat} (hn : nan32 x = false) (h : Ieee.double.sqrt (wide x) = some r) : ∃ q, floatToFloatBits .f64 r .f32 = some q ∧ nan32 q = false := by
  cases hi : inf32 x
  · have hf : fin32 x = true := by simp [fin32, hn, hi]
    rcases bd_sqrt 64 (bd_wide hf) (by omega) (by omega) with h1 | ⟨r', h1, h2⟩
    · rw [h] at h1; cases h1
    · rw [h] at h1; cases h1
      exact ⟨_, narrow_ok h2 (by omega) (by omega)⟩
  · have hx : ∃ s, Ieee.single.read x = .infinity s := by
      unfold inf32 at hi
      cases hx : Ieee.single.read x with
      | infinity s => exact ⟨s, rfl⟩
      | number s m e => simp [hx, Ieee.Datum.isInfinity] at hi
      | nan s t => simp [hx, Ieee.Datum.isInfinity] at hi
    obtain ⟨s, hx⟩ := hx
    have hw := read_wide_inf x s hx
    unfold Ieee.Format.sqrt at h
    rw [hw] at h
    cases s
    · have : r = Ieee.double.write (.infinity false) := by cases h; rfl
      subst this
      exact ⟨2139095040, by decide, by decide⟩
    · cases h

theorem sqrt_some (y r : Nat) (w : World) (h : Ieee.double.sqrt y = some r) :
    Calls Try.prog 36 #[.float .f64 y] w fun e w' => e = .returned (.float .f64 r) ∧ w = w' := by
  have hc := call_sqrt_some y r h
  clear h
  go_enter Try.func36, Try.ntmps36
  go_wp2
  go_ret
  exact ⟨rfl, rfl⟩
theorem sqrt_none (y : Nat) (w : World) (h : Ieee.double.sqrt y = none) :
    Calls Try.prog 36 #[.float .f64 y] w fun e w' => (∃ v, e = .returned (.float .f64 v) ∧ nan64 v = true) ∧ Quiet w w' := by
  have hc := call_sqrt_none y h
  clear h
  go_enter Try.func36, Try.ntmps36
  go_wp2
  go_ret
  exact ⟨⟨_, rfl, nanb64_nan _ _ _⟩, Quiet.one _⟩

theorem narrowNumber_ok (y q : Nat) (w : World) (h : floatToFloatBits .f64 y .f32 = some q) :
    Calls Try.prog 35 #[.float .f64 y] w fun e w' => e = .returned (.float .f32 q) ∧ w = w' := by
  have hc := fun w => run_convert_float_float (P := Try.prog) w 78 46 .f64 .f32 y q (by kernel_rfl) Try.underlying46 h
  clear h
  go_enter Try.func35, Try.ntmps35
  go_wp2
  go_ret
  exact ⟨rfl, rfl⟩
theorem narrowNumber_nan (y : Nat) (w : World) (h : nan64 y = true) :
    Calls Try.prog 35 #[.float .f64 y] w fun e w' => (∃ v, e = .returned (.float .f32 v) ∧ nan32 v = true) ∧ Quiet w w' := by
  have hc := fun w => run_narrow_nan (P := Try.prog) 78 46 y w (by kernel_rfl) Try.underlying46 h
  clear h
  go_enter Try.func35, Try.ntmps35
  go_wp2
  go_ret
  exact ⟨⟨_, rfl, nanc32_nan _ _⟩, Quiet.one _⟩

end Go.Proofs.Ytmkpkkaedhekdaa
