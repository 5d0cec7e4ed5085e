/- The law FnExactPhasorOf is true at every input that its row speaks of. No condition beyond the given row's. -/
import Derived.Test.YtagebhbjpadddabPhat
import Derived.ProofKit
import Derived.OpenShut
import Derived.Laws.Cover2
import Derived.ShutString
namespace Go.Proofs.Ytagebhbjpadddab.pFnExactPhasorOf
open Go.ChangeShapes Go.WideShapes Go.ChangeAt Go.RowKit Fl
open Go.ChangeMaps (open_string shut_string)

theorem own : ownKnob Try.prog.godebug = none := by kernel_rfl

set_option maxHeartbeats 800000 in
theorem walk (a0 : Nat) (w : World) (b0 : a0 < 18446744073709551616) :
    Calls Try.prog 3 #[.float .f64 a0] w fun e w' => e = .returned (.bool true) ∧ Quiet w w' := by
  obtain ⟨o, ho, hs, hi⟩ := phasor_both a0 b0
  cases o with
  | some r =>
    obtain ⟨n1, n2⟩ := ho r rfl
    obtain ⟨R, I⟩ := r
    have hc := fun w => run_cwiden (P := Try.prog) 23 26 R I w (by kernel_rfl) Try.underlying26 n1 n2
    have z1 := nan_wide R n1
    have z2 := nan_wide I n2
    clear ho
    go_enter Try.func3, Try.ntmps3
    go_wp2_with (first | (go_at_call 7; go_loud (refine (repc_some (specPhasor_of _ _ _ hs)).mono ?_); rintro e w1 ⟨rfl, hq1⟩) | (go_at_call 8; go_loud (refine (repc_some (hi _)).mono ?_); rintro e w2 ⟨rfl, hq2⟩) | (go_at_call 9; go_loud (refine (sameComplex_self _ _ _ z1 z2).mono ?_); rintro e w' ⟨rfl, rfl⟩))
    all_goals (go_ret; exact ⟨rfl, hq1.trans hq2⟩)
  | none =>
    have hc := fun (a b : Nat) (w : World) (h1 : nan32 a = true) (h2 : nan32 b = true) => run_cwiden_nan (P := Try.prog) 23 26 a b w (by kernel_rfl) Try.underlying26 h1 h2
    clear ho
    go_enter Try.func3, Try.ntmps3
    go_wp2_with (first | (go_at_call 7; go_loud (refine (repc_none (specPhasor_of _ _ _ hs)).mono ?_); rintro e w1 ⟨⟨v1, v2, rfl, hv1, hv2⟩, hq1⟩) | (go_at_call 8; go_loud (refine (repc_none (hi _)).mono ?_); rintro e w2 ⟨⟨v3, v4, rfl, hv3, hv4⟩, hq2⟩) | (go_at_call 9; go_loud (refine (sameComplex_nan _ _ _ _ _ (nanc64_nan _ _) (nanc64_nan _ _) (nanc64_nan _ _) (nanc64_nan _ _)).mono ?_); rintro e w' ⟨rfl, rfl⟩))
    all_goals (go_ret; exact ⟨rfl, ((((hq1.trans hq2).drew).drew).drew).drew⟩)

set_option maxRecDepth 100000 in
theorem lifted (os : Os) (started : os.Started) (H : Type) (enc : TypeId × Value → H) :
    ReturnsInHanded {} Try.checked os 3 .any (Rows.fnExactPhasorOfSpec.pre6 enc Try.prog Try.f3 Rows.fnExactPhasorOfRow.domain false) (Rows.fnExactPhasorOfSpec.post enc Try.prog Try.f3 false true false false) := by
  refine returnsInHanded_of_change (C := Try.checked) own started (by kernel_rfl) Try.func3
    (ChangeSpec.witness6 (enc := enc) (C := Try.checked) false ⟨#[], #[.float .f64 0], []⟩ 8 (by kernel_rfl) (by kernel_rfl) (by kernel_rfl) (by kernel_rfl)) ?_
  intro W base args ds gs before hval0 hW hcnd _
  have hval : ∀ (j : Nat) t v, Try.f3.params[j]? = some t → args[j]? = some v → Value.okWide Try.prog W .any base t v := hval0
  have hW' := hW
  obtain ⟨p, q, hA0, hV, rfl, hfz, hnd⟩ := hW
  have hA : DataW.TrodAll enc Try.prog W 0 (fun _ => true) true Try.f3.params.toList args.toList ds p := hA0
  rw [Try.params3] at hA hval
  obtain ⟨v0, d0, rfl, rfl, h0⟩ := trodAll_one hA
  obtain ⟨rfl, rfl⟩ := trodVars_none hV
  obtain ⟨a0, rfl, rfl, rfl, wf0⟩ := open_float Try.underlying22 (hval 0 22 v0 rfl rfl) h0
  have b0 : a0 < 18446744073709551616 := by simpa [Lit.wf] using wf0
  clear hA0 hval0
  refine (walk a0 W b0).mono fun e W' ⟨he, hw⟩ => ?_
  subst he
  exact ⟨_, rfl, ChangeSpec.post_alike (post_of_same (pa := []) (pv := []) hW' (fun _ _ _ => trodAll_mk1 (shut_bool Try.underlying4 true)) (fun sp _ => trodAll_mk1 (shut_float Try.underlying22 wf0)) (fun _ _ => rfl) rfl
    (World.keptBut_refl _ _) (fun _ => rfl) (ok_one (by kernel_rfl) rfl (okWide_bool_mk Try.underlying4 true))) hw.alike⟩

theorem fnExactPhasorOf_holds : Rows.FnExactPhasorOfSaid :=
  OpenClaim.holds_of_wide 3 Try.f3 rfl rfl rfl rfl rfl rfl rfl ⟨rfl, rfl, rfl, rfl, rfl⟩ rfl rfl rfl rfl rfl (by kernel_rfl) Try.func3 (by kernel_rfl)
    (of_decide_eq_true (by kernel_rfl)) (by unfold Func.isWrapper; rw [if_neg (of_decide_eq_false (by kernel_rfl))]; exact ⟨rfl, rfl⟩)
    (fun os started H enc _ => lifted os started H enc)

end Go.Proofs.Ytagebhbjpadddab.pFnExactPhasorOf
