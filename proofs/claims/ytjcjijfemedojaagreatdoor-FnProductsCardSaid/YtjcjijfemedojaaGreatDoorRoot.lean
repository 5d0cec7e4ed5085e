/- Contracts of the square root. Every 32-bit number. -/
import Derived.Test.YtjcjijfemedojaaGreatDoorBits
import Derived.Test.YtjcjijfemedojaaGreatDoorBd
import Derived.Lib.Hide
namespace Go.Proofs.YtjcjijfemedojaaGreatDoor
open Go.RowKit Fl

theorem call_sqrt_some (y r : Nat) (h : Ieee.double.sqrt y = some r) (w : World) : (callFunc 55 #[.float .f64 y]).run Tryz.prog w = .ok (.value (.float .f64 r)) w := by
  refine (run_callFunc_extern (e := Extern.MathSqrt.sqrt) Tryz.func55 (by kernel_rfl) (by kernel_rfl) (by kernel_rfl) (by kernel_rfl) _ w).trans ?_
  have : FloatKind.f64.format.sqrt y = some r := h
  change ((match FloatKind.f64.format.sqrt y with | some r => (pure (.float .f64 r) : Sem Value) | none => do pure (.float .f64 (← choose (.nanBits .f64 y y)))).run Tryz.prog w).andThen (fun v w' => Result.ok (Next.value v) w') = _
  rw [this]
  rfl
theorem call_sqrt_none (y : Nat) (h : Ieee.double.sqrt y = none) (w : World) : (callFunc 55 #[.float .f64 y]).run Tryz.prog w = .ok (.value (.float .f64 (nanb .f64 y y w))) w.drew := by
  refine (run_callFunc_extern (e := Extern.MathSqrt.sqrt) Tryz.func55 (by kernel_rfl) (by kernel_rfl) (by kernel_rfl) (by kernel_rfl) _ w).trans ?_
  have : FloatKind.f64.format.sqrt y = none := h
  change ((match FloatKind.f64.format.sqrt y with | some r => (pure (.float .f64 r) : Sem Value) | none => do pure (.float .f64 (← choose (.nanBits .f64 y y)))).run Tryz.prog w).andThen (fun v w' => Result.ok (Next.value v) w') = _
  rw [this]
  simp [Question.forced, nanb]
theorem sqrt_nan {y : Nat} (h : nan64 y = true) : Ieee.double.sqrt y = none := by
  unfold nan64 at h
  cases hy : Ieee.double.read y with
  | nan s t => unfold Ieee.Format.sqrt; rw [hy]; rfl
  | number s m e => simp [hy, Ieee.Datum.isNaN] at h
  | infinity s => simp [hy, Ieee.Datum.isNaN] at h

/-- 'v is the number o, or a not-a-number where o is none' -/
def RepR (v : Nat) : Option Nat → Prop
  | none => nan32 v = true
  | some r => v = r ∧ nan32 r = false

/-- RootNumber -/
def rootO (x : Nat) : Option Nat := if nan32 x then none else (Ieee.double.sqrt (wide x)).bind fun r => floatToFloatBits .f64 r .f32

theorem root_ok {x r : Nat} (hn : nan32 x = false) (h : Ieee.double.sqrt (wide x) = some r) : ∃ q, floatToFloatBits .f64 r .f32 = some q ∧ nan32 q = false := by
  cases hi : inf32 x
  · have hf : fin32 x = true := by simp [fin32, hn, hi]
    rcases bd_sqrt 64 (bd_wide hf) (by omega) (by omega) with h1 | ⟨r', h1, h2⟩
    · rw [h] at h1; cases h1
    · rw [h] at h1; cases h1
      exact ⟨_, narrow_ok h2 (by omega) (by omega)⟩
  · have hx : ∃ s, Ieee.single.read x = .infinity s := by
      unfold inf32 at hi
      cases hx : Ieee.single.read x with
      | infinity s => exact ⟨s, rfl⟩
      | number s m e => simp [hx, Ieee.Datum.isInfinity] at hi
      | nan s t => simp [hx, Ieee.Datum.isInfinity] at hi
    obtain ⟨s, hx⟩ := hx
    have hw := read_wide_inf x s hx
    unfold Ieee.Format.sqrt at h
    rw [hw] at h
    cases s
    · have : r = Ieee.double.write (.infinity false) := by cases h; rfl
      subst this
      exact ⟨2139095040, by decide, by decide⟩
    · cases h

theorem sqrt_some (y r : Nat) (w : World) (h : Ieee.double.sqrt y = some r) :
    Calls Tryz.prog 33 #[.float .f64 y] w fun e w' => e = .returned (.float .f64 r) ∧ w = w' := by
  have hc := call_sqrt_some y r h
  clear h
  go_enter Tryz.func33, Tryz.ntmps33
  go_wp2
  go_ret
  exact ⟨rfl, rfl⟩
theorem sqrt_none (y : Nat) (w : World) (h : Ieee.double.sqrt y = none) :
    Calls Tryz.prog 33 #[.float .f64 y] w fun e w' => (∃ v, e = .returned (.float .f64 v) ∧ nan64 v = true) ∧ Quiet w w' := by
  have hc := call_sqrt_none y h
  clear h
  go_enter Tryz.func33, Tryz.ntmps33
  go_wp2
  go_ret
  exact ⟨⟨_, rfl, nanb64_nan _ _ _⟩, Quiet.one _⟩

theorem l01Narrow_ok (y q : Nat) (w : World) (h : floatToFloatBits .f64 y .f32 = some q) :
    Calls Tryz.prog 56 #[.float .f64 y] w fun e w' => e = .returned (.float .f32 q) ∧ w = w' := by
  have hc := fun w => run_convert_float_float (P := Tryz.prog) w 46 28 .f64 .f32 y q (by kernel_rfl) Tryz.underlying28 h
  clear h
  go_enter Tryz.func56, Tryz.ntmps56
  go_wp2
  go_ret
  exact ⟨rfl, rfl⟩
theorem l01Narrow_nan (y : Nat) (w : World) (h : nan64 y = true) :
    Calls Tryz.prog 56 #[.float .f64 y] w fun e w' => (∃ v, e = .returned (.float .f32 v) ∧ nan32 v = true) ∧ Quiet w w' := by
  have hc := fun w => run_narrow_nan (P := Tryz.prog) 46 28 y w (by kernel_rfl) Tryz.underlying28 h
  clear h
  go_enter Tryz.func56, Tryz.ntmps56
  go_wp2
  go_ret
  exact ⟨⟨_, rfl, nanc32_nan _ _⟩, Quiet.one _⟩
theorem narrowNumber_ok (y q : Nat) (w : World) (h : floatToFloatBits .f64 y .f32 = some q) :
    Calls Tryz.prog 30 #[.float .f64 y] w fun e w' => e = .returned (.float .f32 q) ∧ w = w' := by
  have hc := fun w => run_convert_float_float (P := Tryz.prog) w 46 28 .f64 .f32 y q (by kernel_rfl) Tryz.underlying28 h
  clear h
  go_enter Tryz.func30, Tryz.ntmps30
  go_wp2
  go_ret
  exact ⟨rfl, rfl⟩
theorem narrowNumber_nan (y : Nat) (w : World) (h : nan64 y = true) :
    Calls Tryz.prog 30 #[.float .f64 y] w fun e w' => (∃ v, e = .returned (.float .f32 v) ∧ nan32 v = true) ∧ Quiet w w' := by
  have hc := fun w => run_narrow_nan (P := Tryz.prog) 46 28 y w (by kernel_rfl) Tryz.underlying28 h
  clear h
  go_enter Tryz.func30, Tryz.ntmps30
  go_wp2
  go_ret
  exact ⟨⟨_, rfl, nanc32_nan _ _⟩, Quiet.one _⟩

set_option maxHeartbeats 400000 in
theorem l01Sqrt_any (x : Nat) (w : World) :
    Calls Tryz.prog 34 #[.float .f32 x] w fun e w' => (∃ v, e = .returned (.float .f32 v) ∧ RepR v (rootO x)) ∧ Quiet w w' := by
  cases hn : nan32 x
  · have hc := fun w => run_convert_float_float (P := Tryz.prog) w 28 46 .f32 .f64 x (wide x) (by kernel_rfl) Tryz.underlying46 (wide_conv x hn)
    cases hs : Ieee.double.sqrt (wide x) with
    | some r =>
      obtain ⟨q, hq, hqn⟩ := root_ok hn hs
      have hR : Hid (RepR q (rootO x)) := by show RepR _ _; simp only [rootO, hn, hs, Option.bind_some, hq]; exact ⟨rfl, hqn⟩
      have hs' := Lib.hid hs
      clear hs
      have hq' := Lib.hid hq
      clear hq
      go_enter Tryz.func34, Tryz.ntmps34
      go_wp2_with (first | (go_at_call 33; go_loud (refine (sqrt_some _ _ _ hs'.out).mono ?_); rintro e w' ⟨rfl, rfl⟩) | (go_at_call 56; go_loud (refine (l01Narrow_ok _ _ _ hq'.out).mono ?_); rintro e w' ⟨rfl, rfl⟩))
      go_ret
      exact ⟨⟨q, rfl, hR.out⟩, Quiet.refl _⟩
    | none =>
      have hR : Hid (rootO x = none) := by show _ = _; simp [rootO, hn, hs]
      have hs' := Lib.hid hs
      clear hs
      go_enter Tryz.func34, Tryz.ntmps34
      go_wp2_with (first | (go_at_call 33; go_loud (refine (sqrt_none _ _ hs'.out).mono ?_); rintro e w' ⟨⟨v1, rfl, hv1⟩, hq1⟩) | (go_at_call 56; go_loud (refine (l01Narrow_nan _ _ hv1).mono ?_); rintro e w' ⟨⟨v2, rfl, hv2⟩, hq2⟩))
      go_ret
      exact ⟨⟨_, rfl, by rw [hR.out]; exact hv2⟩, hq1.trans hq2⟩
  · have hc := fun w => run_widen_nan (P := Tryz.prog) 28 46 x w (by kernel_rfl) Tryz.underlying46 hn
    have hR : Hid (rootO x = none) := by show _ = _; simp [rootO, hn]
    go_enter Tryz.func34, Tryz.ntmps34
    go_wp2_with (first | (go_at_call 33; go_loud (refine (sqrt_none _ _ (sqrt_nan (nanc64_nan _ _))).mono ?_); rintro e w' ⟨⟨v1, rfl, hv1⟩, hq1⟩) | (go_at_call 56; go_loud (refine (l01Narrow_nan _ _ hv1).mono ?_); rintro e w' ⟨⟨v2, rfl, hv2⟩, hq2⟩))
    go_ret
    exact ⟨⟨_, rfl, by rw [hR.out]; exact hv2⟩, ((Quiet.one _).trans hq1).trans hq2⟩
theorem specRootNumber_any (x : Nat) (w : World) :
    Calls Tryz.prog 11 #[.float .f32 x] w fun e w' => (∃ v, e = .returned (.float .f32 v) ∧ RepR v (rootO x)) ∧ Quiet w w' := by
  go_enter Tryz.func11, Tryz.ntmps11
  go_wp2_with (go_at_call 34; go_loud (refine (l01Sqrt_any _ _).mono ?_); rintro e w' ⟨⟨v, rfl, hv⟩, hq⟩)
  go_ret
  exact ⟨⟨_, rfl, hv⟩, hq⟩
end Go.Proofs.YtjcjijfemedojaaGreatDoor
