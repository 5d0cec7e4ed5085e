/- Contracts of the square root. Every 32-bit number. -/
import Derived.Test.YtljcgfgkfkoeeaaBits
import Derived.Test.YtljcgfgkfkoeeaaBd
import Derived.Lib.Hide
namespace Go.Proofs.Ytljcgfgkfkoeeaa
open Go.RowKit Fl

theorem sqrt_nan {y : Nat} (h : nan64 y = true) : Ieee.double.sqrt y = none := by
  unfold nan64 at h
  cases hy : Ieee.double.read y with
  | nan s t => unfold Ieee.Format.sqrt; rw [hy]; rfl
  | number s m e => simp [hy, Ieee.Datum.isNaN] at h
  | infinity s => simp [hy, Ieee.Datum.isNaN] at h

/-- 'v is the number o, or a not-a-number where o is none' -/
def RepR (v : Nat) : Option Nat → Prop
  | none => nan32 v = true
  | some r => v = r ∧ nan32 r = false

/-- RootNumber -/
def rootO (x : Nat) : Option Nat := if nan32 x then none else (Ieee.double.sqrt (wide x)).bind fun r => floatToFloatBits .f64 r .f32

theorem root_ok {x r : Nat} (hn : nan32 x = false) (h : Ieee.double.sqrt (wide x) = some r) : ∃ q, floatToFloatBits .f64 r .f32 = some q ∧ nan32 q = false := by
  cases hi : inf32 x
  · have hf : fin32 x = true := by simp [fin32, hn, hi]
    rcases bd_sqrt 64 (bd_wide hf) (by omega) (by omega) with h1 | ⟨r', h1, h2⟩
    · rw [h] at h1; cases h1
    · rw [h] at h1; cases h1
      exact ⟨_, narrow_ok h2 (by omega) (by omega)⟩
  · have hx : ∃ s, Ieee.single.read x = .infinity s := by
      unfold inf32 at hi
      cases hx : Ieee.single.read x with
      | infinity s => exact ⟨s, rfl⟩
      | number s m e => simp [hx, Ieee.Datum.isInfinity] at hi
      | nan s t => simp [hx, Ieee.Datum.isInfinity] at hi
    obtain ⟨s, hx⟩ := hx
    have hw := read_wide_inf x s hx
    unfold Ieee.Format.sqrt at h
    rw [hw] at h
    cases s
    · have : r = Ieee.double.write (.infinity false) := by cases h; rfl
      subst this
      exact ⟨2139095040, by decide, by decide⟩
    · cases h


theorem narrowNumber_ok (y q : Nat) (w : World) (h : floatToFloatBits .f64 y .f32 = some q) :
    Calls Try.prog 45 #[.float .f64 y] w fun e w' => e = .returned (.float .f32 q) ∧ w = w' := by
  have hc := fun w => run_convert_float_float (P := Try.prog) w 59 25 .f64 .f32 y q (by kernel_rfl) Try.underlying25 h
  clear h
  go_enter Try.func45, Try.ntmps45
  go_wp2
  go_ret
  exact ⟨rfl, rfl⟩
theorem narrowNumber_nan (y : Nat) (w : World) (h : nan64 y = true) :
    Calls Try.prog 45 #[.float .f64 y] w fun e w' => (∃ v, e = .returned (.float .f32 v) ∧ nan32 v = true) ∧ Quiet w w' := by
  have hc := fun w => run_narrow_nan (P := Try.prog) 59 25 y w (by kernel_rfl) Try.underlying25 h
  clear h
  go_enter Try.func45, Try.ntmps45
  go_wp2
  go_ret
  exact ⟨⟨_, rfl, nanc32_nan _ _⟩, Quiet.one _⟩

end Go.Proofs.Ytljcgfgkfkoeeaa
