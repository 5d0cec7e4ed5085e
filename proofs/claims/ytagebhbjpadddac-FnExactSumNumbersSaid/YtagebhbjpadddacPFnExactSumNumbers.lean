/- The law FnExactSumNumbers is true at every input that its row speaks of. No condition beyond the given row's. -/
import Derived.Test.YtagebhbjpadddacSums
import Derived.Test.YtagebhbjpadddacOpen
import Derived.ProofKit
import Derived.OpenShut
import Derived.Laws.Cover2
import Derived.ShutString
import Derived.ChangeOld
import Derived.Below
namespace Go.Proofs.Ytagebhbjpadddac.pFnExactSumNumbers
open Go.ChangeShapes Go.WideShapes Go.ChangeAt Go.RowKit Fl
open Go.ChangeMaps (open_string shut_string)

theorem own : ownKnob Try.prog.godebug = none := by kernel_rfl
theorem laidOut : laidOutB Try.prog = true := by kernel_rfl

set_option maxHeartbeats 1600000 in
theorem walk (a0 : Option Addr) (n0 c0 : Nat) (z0 : List Nat) (w : World) (h0 : FRow w a0 n0 z0) (_b0 : ∀ x ∈ z0, x < 4294967296) :
    Calls Try.prog 9 #[.slice a0 n0 c0] w fun e w' => e = .returned (.bool true) ∧ Below w.heap.size w w' := by
  by_cases hl : n0 ≤ 1048576
  · have hm4 : n0 * 4 ≤ 140737488351232 := by omega
    by_cases hf : n0 ≤ 256
    · cases hS : sumO z0 with
      | some r =>
        have hn := sumO_nan hS
        have hc := fun w => run_convert_float_float (P := Try.prog) w 26 25 .f32 .f64 r (wide r) (by kernel_rfl) Try.underlying25 (wide_conv r hn)
        have hw := nan_wide r hn
        have hS' := Lib.hid hS
        clear hS
        go_enter Try.func9, Try.ntmps9
        go_wp2_with (go_at_call 25; go_loud (refine (toFloat32S_any a0 n0 c0 z0 w h0 hm4).mono ?_); rintro e w1 ⟨rfl, hf1, hb1, hs1⟩)
        go_wp2_with (go_at_call 24; go_loud (refine (Calls.rep_some hS'.out (specSumNumbers_few _ _ _ z0 _ hf1 hf)).mono ?_); rintro e w2 ⟨rfl, hq2⟩)
        have g2 : FRow w2 a0 n0 z0 := (h0.below hb1 (Nat.le_refl _)).quiet hq2
        have k2 := hb1.trans (hq2.below _)
        have s2 := Lib.hid hq2.size
        go_wp2_with (go_at_call 25; go_loud (refine (toFloat32S_any a0 n0 c0 z0 w2 g2 hm4).mono ?_); rintro e w3 ⟨rfl, hf3, hb3, hs3⟩)
        go_wp2_with (first | (go_at_call 26; go_loud (refine (Calls.rep_some hS'.out (sumNumbers_few _ _ _ z0 _ hf3 hf)).mono ?_); rintro e w4 ⟨rfl, hq4⟩) | (go_at_call 15; go_loud (refine (sameFloat_self _ _ hw).mono ?_); rintro e w5 ⟨rfl, rfl⟩))
        have s4 := Lib.hid hq4.size
        have g4 : FRow _ a0 n0 z0 := (g2.below hb3 (Nat.le_refl _)).quiet hq4
        have f4 := hf3.quiet hq4
        have k4 := (k2.trans (hb3.mono (by have := s2.out; omega))).trans (hq4.below _)
        go_wp2_with (first | (go_at_call 25; go_loud (refine (toFloat32S_any a0 n0 c0 z0 _ g4 hm4).mono ?_); rintro e w6 ⟨rfl, hf6, hb6, hs6⟩))
        have f6 := f4.below hb6 (Nat.le_refl _)
        go_wp2_with (first | (go_at_call 27; go_loud (refine (eqFloat32S_same _ _ n0 _ _ z0 _ f6 hf6 (by omega)).mono ?_); rintro e w7 ⟨rfl, hq7⟩))
        all_goals (go_ret; exact ⟨rfl, (k4.trans (hb6.mono (by first | omega | (have := s2.out; have := s4.out; omega)))).trans (hq7.below _)⟩)
      | none =>
        have hc := fun (b : Nat) (w : World) (h : nan32 b = true) => run_widen_nan (P := Try.prog) 26 25 b w (by kernel_rfl) Try.underlying25 h
        have hS' := Lib.hid hS
        clear hS
        go_enter Try.func9, Try.ntmps9
        go_wp2_with (go_at_call 25; go_loud (refine (toFloat32S_any a0 n0 c0 z0 w h0 hm4).mono ?_); rintro e w1 ⟨rfl, hf1, hb1, hs1⟩)
        go_wp2_with (go_at_call 24; go_loud (refine (Calls.rep_none hS'.out (specSumNumbers_few _ _ _ z0 _ hf1 hf)).mono ?_); rintro e w2 ⟨⟨v, rfl, hv⟩, hq2⟩)
        have g2 : FRow w2 a0 n0 z0 := (h0.below hb1 (Nat.le_refl _)).quiet hq2
        have k2 := hb1.trans (hq2.below _)
        have s2 := Lib.hid hq2.size
        go_wp2_with (go_at_call 25; go_loud (refine (toFloat32S_any a0 n0 c0 z0 w2 g2 hm4).mono ?_); rintro e w3 ⟨rfl, hf3, hb3, hs3⟩)
        go_wp2_with (first | (go_at_call 26; go_loud (refine (Calls.rep_none hS'.out (sumNumbers_few _ _ _ z0 _ hf3 hf)).mono ?_); rintro e w4 ⟨⟨v', rfl, hv'⟩, hq4⟩) | (go_at_call 15; go_loud (refine (sameFloat_nan _ _ _ (nanc64_nan _ _) (nanc64_nan _ _)).mono ?_); rintro e w5 ⟨rfl, rfl⟩))
        replace hq4 := (hq4.drew).drew
        have s4 := Lib.hid hq4.size
        have g4 : FRow _ a0 n0 z0 := (g2.below hb3 (Nat.le_refl _)).quiet hq4
        have f4 := hf3.quiet hq4
        have k4 := (k2.trans (hb3.mono (by have := s2.out; omega))).trans (hq4.below _)
        go_wp2_with (first | (go_at_call 25; go_loud (refine (toFloat32S_any a0 n0 c0 z0 _ g4 hm4).mono ?_); rintro e w6 ⟨rfl, hf6, hb6, hs6⟩))
        have f6 := f4.below hb6 (Nat.le_refl _)
        go_wp2_with (first | (go_at_call 27; go_loud (refine (eqFloat32S_same _ _ n0 _ _ z0 _ f6 hf6 (by omega)).mono ?_); rintro e w7 ⟨rfl, hq7⟩))
        all_goals (go_ret; exact ⟨rfl, (k4.trans (hb6.mono (by first | omega | (have := s2.out; have := s4.out; omega)))).trans (hq7.below _)⟩)
    · have hc := fun w => run_convert_float_float (P := Try.prog) w 26 25 .f32 .f64 0 (wide 0) (by kernel_rfl) Try.underlying25 (wide_conv 0 (by decide))
      have hw := nan_wide 0 (by decide)
      have hf' : 256 < n0 := by omega
      go_enter Try.func9, Try.ntmps9
      go_wp2_with (go_at_call 25; go_loud (refine (toFloat32S_any a0 n0 c0 z0 w h0 hm4).mono ?_); rintro e w1 ⟨rfl, hf1, hb1, hs1⟩)
      go_wp2_with (go_at_call 24; go_loud (refine (specSumNumbers_many _ _ _ _ hf').mono ?_); rintro e w2 ⟨rfl, rfl⟩)
      have g2 : FRow _ a0 n0 z0 := h0.below hb1 (Nat.le_refl _)
      go_wp2_with (go_at_call 25; go_loud (refine (toFloat32S_any a0 n0 c0 z0 _ g2 hm4).mono ?_); rintro e w3 ⟨rfl, hf3, hb3, hs3⟩)
      have g4 : FRow _ a0 n0 z0 := g2.below hb3 (Nat.le_refl _)
      have k4 := hb1.trans (hb3.mono (by omega))
      go_wp2_with (first | (go_at_call 26; go_loud (refine (sumNumbers_many _ _ _ _ hf').mono ?_); rintro e w4 ⟨rfl, rfl⟩) | (go_at_call 15; go_loud (refine (sameFloat_self _ _ hw).mono ?_); rintro e w5 ⟨rfl, rfl⟩))
      go_wp2_with (first | (go_at_call 25; go_loud (refine (toFloat32S_any a0 n0 c0 z0 _ g4 hm4).mono ?_); rintro e w6 ⟨rfl, hf6, hb6, hs6⟩))
      have f6 := hf3.below hb6 (Nat.le_refl _)
      go_wp2_with (first | (go_at_call 27; go_loud (refine (eqFloat32S_same _ _ n0 _ _ z0 _ f6 hf6 (by omega)).mono ?_); rintro e w7 ⟨rfl, hq7⟩))
      all_goals (go_ret; exact ⟨rfl, (k4.trans (hb6.mono (by first | omega | (have := s2.out; have := s4.out; omega)))).trans (hq7.below _)⟩)
  · go_enter Try.func9, Try.ntmps9
    go_wp2
    go_ret
    exact ⟨rfl, Below.refl _ _⟩

set_option maxRecDepth 100000 in
theorem lifted (os : Os) (started : os.Started) (H : Type) (enc : TypeId × Value → H) :
    ReturnsInHanded {} Try.checked os 9 .any (Rows.fnExactSumNumbersSpec.pre6 enc Try.prog Try.f9 Rows.fnExactSumNumbersRow.domain false) (Rows.fnExactSumNumbersSpec.post enc Try.prog Try.f9 false true false false) := by
  refine returnsInHanded_of_change (C := Try.checked) own started (by kernel_rfl) Try.func9
    (ChangeSpec.witness6 (enc := enc) (C := Try.checked) false ⟨#[], #[.slice none 0 0], []⟩ 8 (by kernel_rfl) (by kernel_rfl) (by kernel_rfl) (by kernel_rfl)) ?_
  intro W base args ds gs before hval0 hW hcnd _
  have hval : ∀ (j : Nat) t v, Try.f9.params[j]? = some t → args[j]? = some v → Value.okWide Try.prog W .any base t v := hval0
  have hW' := hW
  obtain ⟨p, q, hA0, hV, rfl, hfz, hnd⟩ := hW
  have hA : DataW.TrodAll enc Try.prog W 0 (fun _ => true) true Try.f9.params.toList args.toList ds p := hA0
  rw [Try.params9] at hA hval
  obtain ⟨v0, vs0, d0, ds0, p0, q0, hargs, rfl, rfl, h0, r0⟩ := trodAll_cons hA
  obtain ⟨rfl, rfl, rfl⟩ := trodAll_nil r0
  obtain rfl : args = #[v0] := by cases args; simp_all
  obtain ⟨rfl, rfl⟩ := trodVars_none hV
  obtain ⟨a0, n0, c0, rfl⟩ := okWide_slice Try.underlying34 (hval 0 34 v0 rfl rfl)
  have k0 := h0
  have lt0 : ∀ x ∈ p0, x.block < W.heap.size := by obtain ⟨m, hm⟩ := k0; exact DataW.trod_lt m _ _ _ hm
  obtain ⟨z0, r0, b0⟩ := open_floats Try.underlying34 Try.underlying26 (by kernel_rfl) h0
  clear hA0 hval0
  refine (walk a0 n0 c0 z0 W r0 b0).mono fun e W' ⟨he, bel⟩ => ?_
  subst he
  exact ⟨_, rfl, _, _, _, [], _, [], hW', trodAll_mk1 (shut_bool Try.underlying4 _), (trodAll_cons_mk (Below.trod laidOut (by kernel_rfl) (of_decide_eq_true (by kernel_rfl)) k0 bel lt0) trodAll_mk0), rfl, bel.frame _, fun h => by cases h⟩

theorem fnExactSumNumbers_holds : Rows.FnExactSumNumbersSaid :=
  OpenClaim.holds_of_wide 9 Try.f9 rfl rfl rfl rfl rfl rfl rfl ⟨rfl, rfl, rfl, rfl, rfl⟩ rfl rfl rfl rfl rfl (by kernel_rfl) Try.func9 (by kernel_rfl)
    (of_decide_eq_true (by kernel_rfl)) (by unfold Func.isWrapper; rw [if_neg (of_decide_eq_false (by kernel_rfl))]; exact ⟨rfl, rfl⟩)
    (fun os started H enc _ => lifted os started H enc)

end Go.Proofs.Ytagebhbjpadddac.pFnExactSumNumbers
