/- The law FnExactAxesOfStress is true at every input that its row speaks of. No condition beyond the given row's. -/
import Derived.Test.YtbggklhnnjikjaaAx
import Derived.Test.YtbggklhnnjikjaaOpen
import Derived.ProofKit
import Derived.OpenShut
import Derived.Laws.Cover2
import Derived.ShutString
import Derived.ChangeOld
import Derived.Below
namespace Go.Proofs.Ytbggklhnnjikjaa.pFnExactAxesOfStress
open Go.ChangeShapes Go.WideShapes Go.ChangeAt Go.RowKit Fl
open Go.ChangeMaps (open_string shut_string)

theorem own : ownKnob Try.prog.godebug = none := by kernel_rfl
theorem laidOut : laidOutB Try.prog = true := by kernel_rfl

set_option maxRecDepth 100000 in
set_option maxHeartbeats 3200000 in
theorem walk (a0 : Option Addr) (n0 c0 : Nat) (z0 : List Nat) (w : World) (h0 : FRow w a0 n0 z0) (_b0 : ∀ x ∈ z0, x < 4294967296) :
    Calls Try.prog 4 #[.slice a0 n0 c0] w fun e w' => e = .returned (.bool true) ∧ Below w.heap.size w w' := by
  by_cases hl : n0 ≤ 1048576
  · have hm4 : n0 * 4 ≤ 140737488351232 := by omega
    obtain ⟨r1, r2, r3, k, n1, n2, n3, hS, hI⟩ := axes_both n0 n0 z0 h0.len hl
    have hc1 := fun w => run_convert_float_float (P := Try.prog) w 35 47 .f32 .f64 r1 (wide r1) (by kernel_rfl) Try.underlying47 (wide_conv r1 n1)
    have hc2 := fun w => run_convert_float_float (P := Try.prog) w 35 47 .f32 .f64 r2 (wide r2) (by kernel_rfl) Try.underlying47 (wide_conv r2 n2)
    have hc3 := fun w => run_convert_float_float (P := Try.prog) w 35 47 .f32 .f64 r3 (wide r3) (by kernel_rfl) Try.underlying47 (wide_conv r3 n3)
    have F1 := Lib.hid fun w => sameFloat_self (wide r1) w (nan_wide r1 n1)
    have F2 := Lib.hid fun w => sameFloat_self (wide r2) w (nan_wide r2 n2)
    have F3 := Lib.hid fun w => sameFloat_self (wide r3) w (nan_wide r3 n3)
    have HS := Lib.hid hS
    have HI := Lib.hid hI
    have HT := Lib.hid fun w (h : FRow w a0 n0 z0) => toFloat32S_any a0 n0 n0 z0 w h hm4
    have HT0 := Lib.hid fun w (h : FRow w a0 n0 z0) => toFloat32S_any a0 n0 c0 z0 w h hm4
    have HE := Lib.hid fun g g' w (h : FRow w (some ⟨g, 0, none⟩) n0 z0) (h' : FRow w (some ⟨g', 0, none⟩) n0 z0) => eqFloat32S_same (some ⟨g, 0, none⟩) (some ⟨g', 0, none⟩) n0 n0 n0 z0 w h h' (by omega)
    have H0 := Lib.hid h0
    clear hS hI n1 n2 n3 h0 hm4 HT
    cases k
    all_goals
      go_enter Try.func4, Try.ntmps4
      go_wp2_with fail
      refine (HT0.out _ H0.out).mono ?_
      rintro e w1 ⟨rfl, f, hb, _⟩
      have G1 := Lib.hid f
      have P1 := Lib.hid (H0.out.below hb (Nat.le_refl _))
      have K1 := Lib.hid hb
      clear f hb
      go_wp2_with fail
      refine (HS.out _ _ G1.out).mono ?_
      rintro e w2 ⟨rfl, hb⟩
      have P2 := Lib.hid (P1.out.below hb (Nat.le_refl _))
      have K2 := Lib.hid (below_next K1.out hb)
      clear hb
      go_wp2_with fail
      refine (HT0.out _ P2.out).mono ?_
      rintro e w3 ⟨rfl, f, hb, _⟩
      have G3 := Lib.hid f
      have P3 := Lib.hid (P2.out.below hb (Nat.le_refl _))
      have K3 := Lib.hid (below_next K2.out hb)
      clear f hb
      go_wp2_with fail
      refine (HI.out _ _ G3.out).mono ?_
      rintro e w4 ⟨rfl, hb⟩
      have P4 := Lib.hid (P3.out.below hb (Nat.le_refl _))
      have G4 := Lib.hid (G3.out.below hb (Nat.le_refl _))
      have K4 := Lib.hid (below_next K3.out hb)
      clear hb
      go_wp2_with (first | (go_at_call 29; (with_reducible refine (F1.out _).mono ?_); rintro e w5 ⟨rfl, rfl⟩) | (go_at_call 29; (with_reducible refine (F2.out _).mono ?_); rintro e w5 ⟨rfl, rfl⟩) | (go_at_call 29; (with_reducible refine (F3.out _).mono ?_); rintro e w5 ⟨rfl, rfl⟩))
      refine (HT0.out _ P4.out).mono ?_
      rintro e w6 ⟨rfl, f, hb, _⟩
      have G6 := Lib.hid f
      have H6 := Lib.hid (G4.out.below hb (Nat.le_refl _))
      have K6 := Lib.hid (below_next K4.out hb)
      clear f hb
      go_wp2_with (go_at_call 30; (with_reducible refine (HE.out _ _ _ H6.out G6.out).mono ?_); rintro e w7 ⟨rfl, q⟩)
      go_ret
      exact ⟨rfl, below_next K6.out (q.below _)⟩
  · go_enter Try.func4, Try.ntmps4
    go_wp2
    go_ret
    exact ⟨rfl, Below.refl _ _⟩

set_option maxRecDepth 100000 in
theorem lifted (os : Os) (started : os.Started) (H : Type) (enc : TypeId × Value → H) :
    ReturnsInHanded {} Try.checked os 4 .any (Rows.fnExactAxesOfStressSpec.pre6 enc Try.prog Try.f4 Rows.fnExactAxesOfStressRow.domain false) (Rows.fnExactAxesOfStressSpec.post enc Try.prog Try.f4 false true false false) := by
  refine returnsInHanded_of_change (C := Try.checked) own started (by kernel_rfl) Try.func4
    (ChangeSpec.witness6 (enc := enc) (C := Try.checked) false ⟨#[], #[.slice none 0 0], []⟩ 8 (by kernel_rfl) (by kernel_rfl) (by kernel_rfl) (by kernel_rfl)) ?_
  intro W base args ds gs before hval0 hW hcnd _
  have hval : ∀ (j : Nat) t v, Try.f4.params[j]? = some t → args[j]? = some v → Value.okWide Try.prog W .any base t v := hval0
  have hW' := hW
  obtain ⟨p, q, hA0, hV, rfl, hfz, hnd⟩ := hW
  have hA : DataW.TrodAll enc Try.prog W 0 (fun _ => true) true Try.f4.params.toList args.toList ds p := hA0
  rw [Try.params4] at hA hval
  obtain ⟨v0, vs0, d0, ds0, p0, q0, hargs, rfl, rfl, h0, r0⟩ := trodAll_cons hA
  obtain ⟨rfl, rfl, rfl⟩ := trodAll_nil r0
  obtain rfl : args = #[v0] := by cases args; simp_all
  obtain ⟨rfl, rfl⟩ := trodVars_none hV
  obtain ⟨a0, n0, c0, rfl⟩ := okWide_slice Try.underlying50 (hval 0 50 v0 rfl rfl)
  have k0 := h0
  have lt0 : ∀ x ∈ p0, x.block < W.heap.size := by obtain ⟨m, hm⟩ := k0; exact DataW.trod_lt m _ _ _ hm
  obtain ⟨z0, fr0, b0⟩ := open_floats Try.underlying50 Try.underlying35 (by kernel_rfl) h0
  clear hA0 hval0
  refine (walk a0 n0 c0 z0 W fr0 b0).mono fun e W' ⟨he, bel⟩ => ?_
  subst he
  exact ⟨_, rfl, _, _, _, [], _, [], hW', trodAll_mk1 (shut_bool Try.underlying4 _), (trodAll_cons_mk (Below.trod laidOut (by kernel_rfl) (of_decide_eq_true (by kernel_rfl)) k0 bel lt0) trodAll_mk0), rfl, bel.frame _, fun h => by cases h⟩

theorem fnExactAxesOfStress_holds : Rows.FnExactAxesOfStressSaid :=
  OpenClaim.holds_of_wide 4 Try.f4 rfl rfl rfl rfl rfl rfl rfl ⟨rfl, rfl, rfl, rfl, rfl⟩ rfl rfl rfl rfl rfl (by kernel_rfl) Try.func4 (by kernel_rfl)
    (of_decide_eq_true (by kernel_rfl)) (by unfold Func.isWrapper; rw [if_neg (of_decide_eq_false (by kernel_rfl))]; exact ⟨rfl, rfl⟩)
    (fun os started H enc _ => lifted os started H enc)

end Go.Proofs.Ytbggklhnnjikjaa.pFnExactAxesOfStress
