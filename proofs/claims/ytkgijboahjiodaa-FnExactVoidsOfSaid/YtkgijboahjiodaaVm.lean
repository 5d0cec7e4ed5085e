/- The mean of a view's values: both sides give the same number, or fail. -/
import Derived.Test.YtkgijboahjiodaaVw
import Derived.Test.YtkgijboahjiodaaSums
import Derived.Laws.Cover2
namespace Go.Proofs.Ytkgijboahjiodaa
open Go.RowKit Fl

theorem quot_not_nan (g : Nat) (a b d : Ieee.Datum) (h : a.quotient g b = some d) : d.isNaN = false := by
  cases a <;> cases b <;> simp only [Ieee.Datum.quotient] at h <;> first | (cases h; rfl) | cases h | skip
  repeat' split at h
  all_goals first | (cases h; rfl) | cases h
theorem quo32_not_nan {x y r : Nat} (h : floatBits .quo .f32 x y = some r) : nan32 r = false :=
  map_write_not_nan Ieee.single (by decide) (d := (Ieee.single.read x).quotient (Ieee.single.fractionBits + 2) (Ieee.single.read y)) h (fun _ hd => quot_not_nan _ _ _ _ hd)
theorem quo32_nan_left {x : Nat} (y : Nat) (h : nan32 x = true) : floatBits .quo .f32 x y = none := by
  obtain ⟨s, t, hx⟩ := nan_read h
  show Ieee.single.div x y = none
  unfold Ieee.Format.div; rw [hx]; cases Ieee.single.read y <;> rfl
def quoO (o : Option Nat) (y : Nat) : Option Nat := o.bind fun s => floatBits .quo .f32 s y
theorem quoO_nan {o : Option Nat} {y r : Nat} (h : quoO o y = some r) : nan32 r = false := by
  cases o with
  | none => cases h
  | some s => exact quo32_not_nan h
/-- one quotient: its result, in whatever world; the world has drawn, or not -/
theorem quo_step {P : Program} (t : TypeId) (v y : Nat) (o : Option Nat) (w : World) (h : Rep v o) :
    ∃ r w', (binOp .quo t (.float .f32 v) (.float .f32 y)).run P w = .ok (.float .f32 r) w' ∧ Rep r (quoO o y) ∧ Quiet w w' := by
  cases hf : floatBits .quo .f32 v y with
  | none =>
    refine ⟨_, _, run_arith_nan .quo t .f32 v y w (by simp) hf, ?_, Quiet.one _⟩
    have : quoO o y = none := by
      cases o with
      | none => rfl
      | some r => obtain ⟨rfl, _⟩ := h; exact hf
    rw [this]
    exact nanb32_nan _ _ _
  | some r =>
    refine ⟨r, w, run_float_arith w .quo t .f32 v y r hf, ?_, Quiet.refl _⟩
    cases o with
    | none => have := quo32_nan_left y h; rw [hf] at this; cases this
    | some s => obtain ⟨rfl, _⟩ := h; exact (show Rep r (floatBits .quo .f32 v y) by rw [hf]; exact ⟨rfl, quo32_not_nan hf⟩)

/-- what a finite number is returned as -/
def fitN (o : Option Nat) : Nat × Bool := match o with | some r => if fin32 r then (r, true) else (0, false) | none => (0, false)
theorem fitN_nan (o : Option Nat) : nan32 (fitN o).1 = false := by
  cases o with
  | none => decide
  | some r =>
    cases h : fin32 r
    · rw [show fitN (some r) = (0, false) by simp [fitN, h]]; decide
    · rw [show fitN (some r) = (r, true) by simp [fitN, h]]
      simp only [fin32, Bool.and_eq_true, Bool.not_eq_true'] at h; exact h.1
theorem fitN_rep {v : Nat} {o : Option Nat} (h : Rep v o) : (if fin32 v then v else 0, fin32 v) = fitN o := by
  cases o with
  | none => have : fin32 v = false := by have h' : nan32 v = true := h; simp [fin32, h']
            rw [this]; rfl
  | some r =>
    obtain ⟨rfl, _⟩ := h
    cases h : fin32 v <;> simp [fitN, h]
theorem finiteNumber_any (v : Nat) (w : World) : Calls Try.prog 37 #[.float .f32 v] w fun e w' => e = .returned (.tuple #[.float .f32 (if fin32 v then v else 0), .bool (fin32 v)]) ∧ Quiet w w' := by
  have HC := Lib.hid fun w => isFinite_any v w
  cases h : fin32 v
  all_goals
    rw [h] at HC
    clear h
    go_enter Try.func37, Try.ntmps37
    go_wp2_with (go_at_call 47; go_loud (refine (HC.out _).mono ?_); rintro e w1 ⟨rfl, q⟩)
    go_ret2
    exact ⟨rfl, q⟩
theorem finiteNumber_of (v : Nat) (o : Option Nat) (w : World) (h : Rep v o) : Calls Try.prog 37 #[.float .f32 v] w fun e w' => e = .returned (.tuple #[.float .f32 (fitN o).1, .bool (fitN o).2]) ∧ Quiet w w' := by
  rw [← fitN_rep h]; exact finiteNumber_any v w
/-- the mean -/
def meanP (W H : Int) (zs : List Nat) : Nat × Bool := if okView W H zs then fitN (quoO (sumO zs) (floatOfInt .f32 (zs.length : Int))) else (0, false)
theorem meanP_nan (W H : Int) (zs : List Nat) : nan32 (meanP W H zs).1 = false := by
  unfold meanP
  split
  · exact fitN_nan _
  · decide
theorem okView_len {W H : Int} {zs : List Nat} (h : okView W H zs = true) : 1 ≤ zs.length ∧ zs.length ≤ 256 := by
  simp only [okView, Bool.and_eq_true, decide_eq_true_eq] at h
  obtain ⟨h1, h2, h3, _⟩ := h
  have := mul_bounds h1 h2
  omega
end Go.Proofs.Ytkgijboahjiodaa
