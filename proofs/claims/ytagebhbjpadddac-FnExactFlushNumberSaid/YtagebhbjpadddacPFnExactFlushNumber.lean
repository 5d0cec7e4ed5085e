/- The law FnExactFlushNumber is true at every input that its row speaks of. No condition beyond the given row's. -/
import Derived.Test.YtagebhbjpadddacSub
import Derived.ProofKit
import Derived.OpenShut
import Derived.Laws.Cover2
import Derived.ShutString
namespace Go.Proofs.Ytagebhbjpadddac.pFnExactFlushNumber
open Go.ChangeShapes Go.WideShapes Go.ChangeAt Go.RowKit Fl
open Go.ChangeMaps (open_string shut_string)

theorem own : ownKnob Try.prog.godebug = none := by kernel_rfl

set_option maxHeartbeats 400000 in
theorem walk (a0 : Nat) (w : World) (b0 : a0 < 4294967296) :
    Calls Try.prog 6 #[.float .f32 a0] w fun e w' => e = .returned (.bool true) ∧ Quiet w w' := by
  cases hn : nan32 (flush32 a0)
  · have hc := fun w => run_convert_float_float (P := Try.prog) w 26 25 .f32 .f64 _ _ (by kernel_rfl) Try.underlying25 (wide_conv (flush32 a0) hn)
    have hw := nan_wide _ hn
    go_enter Try.func6, Try.ntmps6
    go_wp2_with (first | (go_at_call 18; go_loud (refine (specFlushNumber_any _ _ b0).mono ?_); rintro e w' ⟨rfl, rfl⟩) | (go_at_call 19; go_loud (refine (flushNumber_any _ _ b0).mono ?_); rintro e w' ⟨rfl, hq⟩) | (go_at_call 15; go_loud (refine (sameFloat_self _ _ hw).mono ?_); rintro e w' ⟨rfl, rfl⟩))
    all_goals (go_ret; exact ⟨rfl, by assumption⟩)
  · have hc := fun w => run_widen_nan (P := Try.prog) 26 25 (flush32 a0) w (by kernel_rfl) Try.underlying25 hn
    go_enter Try.func6, Try.ntmps6
    go_wp2_with (first | (go_at_call 18; go_loud (refine (specFlushNumber_any _ _ b0).mono ?_); rintro e w' ⟨rfl, rfl⟩) | (go_at_call 19; go_loud (refine (flushNumber_any _ _ b0).mono ?_); rintro e w' ⟨rfl, hq⟩) | (go_at_call 15; go_loud (refine (sameFloat_nan _ _ _ (nanc64_nan _ _) (nanc64_nan _ _)).mono ?_); rintro e w' ⟨rfl, rfl⟩))
    all_goals (go_ret; exact ⟨rfl, Quiet.drew (Quiet.drew (by assumption))⟩)

set_option maxRecDepth 100000 in
theorem lifted (os : Os) (started : os.Started) (H : Type) (enc : TypeId × Value → H) :
    ReturnsInHanded {} Try.checked os 6 .any (Rows.fnExactFlushNumberSpec.pre6 enc Try.prog Try.f6 Rows.fnExactFlushNumberRow.domain false) (Rows.fnExactFlushNumberSpec.post enc Try.prog Try.f6 false true false false) := by
  refine returnsInHanded_of_change (C := Try.checked) own started (by kernel_rfl) Try.func6
    (ChangeSpec.witness6 (enc := enc) (C := Try.checked) false ⟨#[], #[.float .f32 0], []⟩ 8 (by kernel_rfl) (by kernel_rfl) (by kernel_rfl) (by kernel_rfl)) ?_
  intro W base args ds gs before hval0 hW hcnd _
  have hval : ∀ (j : Nat) t v, Try.f6.params[j]? = some t → args[j]? = some v → Value.okWide Try.prog W .any base t v := hval0
  have hW' := hW
  obtain ⟨p, q, hA0, hV, rfl, hfz, hnd⟩ := hW
  have hA : DataW.TrodAll enc Try.prog W 0 (fun _ => true) true Try.f6.params.toList args.toList ds p := hA0
  rw [Try.params6] at hA hval
  obtain ⟨v0, d0, rfl, rfl, h0⟩ := trodAll_one hA
  obtain ⟨rfl, rfl⟩ := trodVars_none hV
  obtain ⟨a0, rfl, rfl, rfl, wf0⟩ := open_float Try.underlying26 (hval 0 26 v0 rfl rfl) h0
  have b0 : a0 < 4294967296 := by simpa [Lit.wf] using wf0
  clear hA0 hval0
  refine (walk a0 W b0).mono fun e W' ⟨he, hw⟩ => ?_
  subst he
  exact ⟨_, rfl, ChangeSpec.post_alike (post_of_same (pa := []) (pv := []) hW' (fun _ _ _ => trodAll_mk1 (shut_bool Try.underlying4 true)) (fun sp _ => trodAll_mk1 (shut_float Try.underlying26 wf0)) (fun _ _ => rfl) rfl
    (World.keptBut_refl _ _) (fun _ => rfl) (ok_one (by kernel_rfl) rfl (okWide_bool_mk Try.underlying4 true))) hw.alike⟩

theorem fnExactFlushNumber_holds : Rows.FnExactFlushNumberSaid :=
  OpenClaim.holds_of_wide 6 Try.f6 rfl rfl rfl rfl rfl rfl rfl ⟨rfl, rfl, rfl, rfl, rfl⟩ rfl rfl rfl rfl rfl (by kernel_rfl) Try.func6 (by kernel_rfl)
    (of_decide_eq_true (by kernel_rfl)) (by unfold Func.isWrapper; rw [if_neg (of_decide_eq_false (by kernel_rfl))]; exact ⟨rfl, rfl⟩)
    (fun os started H enc _ => lifted os started H enc)

end Go.Proofs.Ytagebhbjpadddac.pFnExactFlushNumber
