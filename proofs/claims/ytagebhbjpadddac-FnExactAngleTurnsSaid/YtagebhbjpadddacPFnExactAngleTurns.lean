/- The law FnExactAngleTurns is true at every input that its row speaks of. No condition beyond the given row's. -/
import Derived.Test.YtagebhbjpadddacAngt
import Derived.ProofKit
import Derived.OpenShut
import Derived.Laws.Cover2
import Derived.ShutString
namespace Go.Proofs.Ytagebhbjpadddac.pFnExactAngleTurns
open Go.ChangeShapes Go.WideShapes Go.ChangeAt Go.RowKit Fl
open Go.ChangeMaps (open_string shut_string)

theorem own : ownKnob Try.prog.godebug = none := by kernel_rfl

set_option maxHeartbeats 400000 in
theorem walk (a0 a1 : Nat) (w : World) (_b0 : a0 < 4294967296) (_b1 : a1 < 4294967296) :
    Calls Try.prog 8 #[.float .f32 a0, .float .f32 a1] w fun e w' => e = .returned (.bool true) ∧ Quiet w w' := by
  obtain ⟨o, ho, hs, hi⟩ := angle_both a0 a1
  cases o with
  | some q =>
    have hn := ho q rfl
    have hc := fun w => run_convert_float_float (P := Try.prog) w 26 25 .f32 .f64 q (wide q) (by kernel_rfl) Try.underlying25 (wide_conv q hn)
    have hw := nan_wide q hn
    clear ho
    go_enter Try.func8, Try.ntmps8
    go_wp2_with (first | (go_at_call 22; go_loud (refine (repr_some (specAngle_of _ _ _ _ hs)).mono ?_); rintro e w1 ⟨rfl, hq1⟩) | (go_at_call 23; go_loud (refine (repr_some (hi _)).mono ?_); rintro e w2 ⟨rfl, hq2⟩) | (go_at_call 15; go_loud (refine (sameFloat_self _ _ hw).mono ?_); rintro e w' ⟨rfl, rfl⟩))
    all_goals (go_ret; exact ⟨rfl, hq1.trans hq2⟩)
  | none =>
    have hc := fun (b : Nat) (w : World) (h : nan32 b = true) => run_widen_nan (P := Try.prog) 26 25 b w (by kernel_rfl) Try.underlying25 h
    clear ho
    go_enter Try.func8, Try.ntmps8
    go_wp2_with (first | (go_at_call 22; go_loud (refine (repr_none (specAngle_of _ _ _ _ hs)).mono ?_); rintro e w1 ⟨⟨v1, rfl, hv1⟩, hq1⟩) | (go_at_call 23; go_loud (refine (repr_none (hi _)).mono ?_); rintro e w2 ⟨⟨v2, rfl, hv2⟩, hq2⟩) | (go_at_call 15; go_loud (refine (sameFloat_nan _ _ _ (nanc64_nan _ _) (nanc64_nan _ _)).mono ?_); rintro e w' ⟨rfl, rfl⟩))
    all_goals (go_ret; exact ⟨rfl, ((hq1.trans hq2).drew).drew⟩)

set_option maxRecDepth 100000 in
theorem lifted (os : Os) (started : os.Started) (H : Type) (enc : TypeId × Value → H) :
    ReturnsInHanded {} Try.checked os 8 .any (Rows.fnExactAngleTurnsSpec.pre6 enc Try.prog Try.f8 Rows.fnExactAngleTurnsRow.domain false) (Rows.fnExactAngleTurnsSpec.post enc Try.prog Try.f8 false true false false) := by
  refine returnsInHanded_of_change (C := Try.checked) own started (by kernel_rfl) Try.func8
    (ChangeSpec.witness6 (enc := enc) (C := Try.checked) false ⟨#[], #[.float .f32 0, .float .f32 0], []⟩ 8 (by kernel_rfl) (by kernel_rfl) (by kernel_rfl) (by kernel_rfl)) ?_
  intro W base args ds gs before hval0 hW hcnd _
  have hval : ∀ (j : Nat) t v, Try.f8.params[j]? = some t → args[j]? = some v → Value.okWide Try.prog W .any base t v := hval0
  have hW' := hW
  obtain ⟨p, q, hA0, hV, rfl, hfz, hnd⟩ := hW
  have hA : DataW.TrodAll enc Try.prog W 0 (fun _ => true) true Try.f8.params.toList args.toList ds p := hA0
  rw [Try.params8] at hA hval
  obtain ⟨v0, v1, d0, d1, p0, p1, rfl, rfl, rfl, h0, h1⟩ := trodAll_two hA
  obtain ⟨rfl, rfl⟩ := trodVars_none hV
  obtain ⟨a0, rfl, rfl, rfl, wf0⟩ := open_float Try.underlying26 (hval 0 26 v0 rfl rfl) h0
  have b0 : a0 < 4294967296 := by simpa [Lit.wf] using wf0
  obtain ⟨a1, rfl, rfl, rfl, wf1⟩ := open_float Try.underlying26 (hval 1 26 v1 rfl rfl) h1
  have b1 : a1 < 4294967296 := by simpa [Lit.wf] using wf1
  clear hA0 hval0
  simp only [List.append_nil] at hW'
  refine (walk a0 a1 W b0 b1).mono fun e W' ⟨he, hw⟩ => ?_
  subst he
  exact ⟨_, rfl, ChangeSpec.post_alike (post_of_same (pa := []) (pv := []) hW' (fun _ _ _ => trodAll_mk1 (shut_bool Try.underlying4 true)) (fun sp _ => trodAll_mk2 (shut_float Try.underlying26 wf0) (shut_float Try.underlying26 wf1)) (fun _ _ => rfl) rfl
    (World.keptBut_refl _ _) (fun _ => rfl) (ok_one (by kernel_rfl) rfl (okWide_bool_mk Try.underlying4 true))) hw.alike⟩

theorem fnExactAngleTurns_holds : Rows.FnExactAngleTurnsSaid :=
  OpenClaim.holds_of_wide 8 Try.f8 rfl rfl rfl rfl rfl rfl rfl ⟨rfl, rfl, rfl, rfl, rfl⟩ rfl rfl rfl rfl rfl (by kernel_rfl) Try.func8 (by kernel_rfl)
    (of_decide_eq_true (by kernel_rfl)) (by unfold Func.isWrapper; rw [if_neg (of_decide_eq_false (by kernel_rfl))]; exact ⟨rfl, rfl⟩)
    (fun os started H enc _ => lifted os started H enc)

end Go.Proofs.Ytagebhbjpadddac.pFnExactAngleTurns
