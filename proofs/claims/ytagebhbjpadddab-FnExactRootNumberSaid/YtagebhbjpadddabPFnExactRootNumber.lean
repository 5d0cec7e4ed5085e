/- The law FnExactRootNumber is true at every input that its row speaks of. No condition beyond the given row's. -/
import Derived.Test.YtagebhbjpadddabRoot
import Derived.ProofKit
import Derived.OpenShut
import Derived.Laws.Cover2
import Derived.ShutString
namespace Go.Proofs.Ytagebhbjpadddab.pFnExactRootNumber
open Go.ChangeShapes Go.WideShapes Go.ChangeAt Go.RowKit Fl
open Go.ChangeMaps (open_string shut_string)

theorem own : ownKnob Try.prog.godebug = none := by kernel_rfl

theorem root_some_s {x q : Nat} (h : rootO x = some q) (w : World) : Calls Try.prog 12 #[.float .f32 x] w fun e w' => e = .returned (.float .f32 q) ∧ Quiet w w' :=
  (specRootNumber_any x w).mono fun e w' ⟨⟨v, he, hv⟩, hq⟩ => by rw [h] at hv; obtain ⟨rfl, _⟩ := hv; exact ⟨he, hq⟩
theorem root_some_i {x q : Nat} (h : rootO x = some q) (w : World) : Calls Try.prog 13 #[.float .f32 x] w fun e w' => e = .returned (.float .f32 q) ∧ Quiet w w' :=
  (rootNumber_any x w).mono fun e w' ⟨⟨v, he, hv⟩, hq⟩ => by rw [h] at hv; obtain ⟨rfl, _⟩ := hv; exact ⟨he, hq⟩
theorem root_none_s {x : Nat} (h : rootO x = none) (w : World) : Calls Try.prog 12 #[.float .f32 x] w fun e w' => (∃ v, e = .returned (.float .f32 v) ∧ nan32 v = true) ∧ Quiet w w' :=
  (specRootNumber_any x w).mono fun e w' ⟨⟨v, he, hv⟩, hq⟩ => by rw [h] at hv; exact ⟨⟨v, he, hv⟩, hq⟩
theorem root_none_i {x : Nat} (h : rootO x = none) (w : World) : Calls Try.prog 13 #[.float .f32 x] w fun e w' => (∃ v, e = .returned (.float .f32 v) ∧ nan32 v = true) ∧ Quiet w w' :=
  (rootNumber_any x w).mono fun e w' ⟨⟨v, he, hv⟩, hq⟩ => by rw [h] at hv; exact ⟨⟨v, he, hv⟩, hq⟩
theorem root_nan {x q : Nat} (h : rootO x = some q) : nan32 q = false := by
  unfold rootO at h
  cases hn : nan32 x
  · rw [hn] at h
    simp only [Bool.false_eq_true, if_false] at h
    cases hs : Ieee.double.sqrt (wide x) with
    | none => rw [hs] at h; cases h
    | some r =>
      rw [hs] at h
      obtain ⟨q', h1, h2⟩ := root_ok hn hs
      simp only [Option.bind_some, h1] at h
      cases h; exact h2
  · rw [hn] at h; cases h

set_option maxHeartbeats 400000 in
theorem walk (a0 : Nat) (w : World) (_b0 : a0 < 4294967296) :
    Calls Try.prog 5 #[.float .f32 a0] w fun e w' => e = .returned (.bool true) ∧ Quiet w w' := by
  cases hR : rootO a0 with
  | some q =>
    have hn := root_nan hR
    have hc := fun w => run_convert_float_float (P := Try.prog) w 28 22 .f32 .f64 q (wide q) (by kernel_rfl) Try.underlying22 (wide_conv q hn)
    have hw := nan_wide q hn
    have hR' := Lib.hid hR
    clear hR
    go_enter Try.func5, Try.ntmps5
    go_wp2_with (first | (go_at_call 12; go_loud (refine (root_some_s hR'.out _).mono ?_); rintro e w1 ⟨rfl, hq1⟩) | (go_at_call 13; go_loud (refine (root_some_i hR'.out _).mono ?_); rintro e w2 ⟨rfl, hq2⟩) | (go_at_call 14; go_loud (refine (sameFloat_self _ _ hw).mono ?_); rintro e w' ⟨rfl, rfl⟩))
    all_goals (go_ret; exact ⟨rfl, hq1.trans hq2⟩)
  | none =>
    have hc := fun (b : Nat) (w : World) (h : nan32 b = true) => run_widen_nan (P := Try.prog) 28 22 b w (by kernel_rfl) Try.underlying22 h
    have hR' := Lib.hid hR
    clear hR
    go_enter Try.func5, Try.ntmps5
    go_wp2_with (first | (go_at_call 12; go_loud (refine (root_none_s hR'.out _).mono ?_); rintro e w1 ⟨⟨v1, rfl, hv1⟩, hq1⟩) | (go_at_call 13; go_loud (refine (root_none_i hR'.out _).mono ?_); rintro e w2 ⟨⟨v2, rfl, hv2⟩, hq2⟩) | (go_at_call 14; go_loud (refine (sameFloat_nan _ _ _ (nanc64_nan _ _) (nanc64_nan _ _)).mono ?_); rintro e w' ⟨rfl, rfl⟩))
    all_goals (go_ret; exact ⟨rfl, ((hq1.trans hq2).drew).drew⟩)

set_option maxRecDepth 100000 in
theorem lifted (os : Os) (started : os.Started) (H : Type) (enc : TypeId × Value → H) :
    ReturnsInHanded {} Try.checked os 5 .any (Rows.fnExactRootNumberSpec.pre6 enc Try.prog Try.f5 Rows.fnExactRootNumberRow.domain false) (Rows.fnExactRootNumberSpec.post enc Try.prog Try.f5 false true false false) := by
  refine returnsInHanded_of_change (C := Try.checked) own started (by kernel_rfl) Try.func5
    (ChangeSpec.witness6 (enc := enc) (C := Try.checked) false ⟨#[], #[.float .f32 0], []⟩ 8 (by kernel_rfl) (by kernel_rfl) (by kernel_rfl) (by kernel_rfl)) ?_
  intro W base args ds gs before hval0 hW hcnd _
  have hval : ∀ (j : Nat) t v, Try.f5.params[j]? = some t → args[j]? = some v → Value.okWide Try.prog W .any base t v := hval0
  have hW' := hW
  obtain ⟨p, q, hA0, hV, rfl, hfz, hnd⟩ := hW
  have hA : DataW.TrodAll enc Try.prog W 0 (fun _ => true) true Try.f5.params.toList args.toList ds p := hA0
  rw [Try.params5] at hA hval
  obtain ⟨v0, d0, rfl, rfl, h0⟩ := trodAll_one hA
  obtain ⟨rfl, rfl⟩ := trodVars_none hV
  obtain ⟨a0, rfl, rfl, rfl, wf0⟩ := open_float Try.underlying28 (hval 0 28 v0 rfl rfl) h0
  have b0 : a0 < 4294967296 := by simpa [Lit.wf] using wf0
  clear hA0 hval0
  refine (walk a0 W b0).mono fun e W' ⟨he, hw⟩ => ?_
  subst he
  exact ⟨_, rfl, ChangeSpec.post_alike (post_of_same (pa := []) (pv := []) hW' (fun _ _ _ => trodAll_mk1 (shut_bool Try.underlying4 true)) (fun sp _ => trodAll_mk1 (shut_float Try.underlying28 wf0)) (fun _ _ => rfl) rfl
    (World.keptBut_refl _ _) (fun _ => rfl) (ok_one (by kernel_rfl) rfl (okWide_bool_mk Try.underlying4 true))) hw.alike⟩

theorem fnExactRootNumber_holds : Rows.FnExactRootNumberSaid :=
  OpenClaim.holds_of_wide 5 Try.f5 rfl rfl rfl rfl rfl rfl rfl ⟨rfl, rfl, rfl, rfl, rfl⟩ rfl rfl rfl rfl rfl (by kernel_rfl) Try.func5 (by kernel_rfl)
    (of_decide_eq_true (by kernel_rfl)) (by unfold Func.isWrapper; rw [if_neg (of_decide_eq_false (by kernel_rfl))]; exact ⟨rfl, rfl⟩)
    (fun os started H enc _ => lifted os started H enc)

end Go.Proofs.Ytagebhbjpadddab.pFnExactRootNumber
