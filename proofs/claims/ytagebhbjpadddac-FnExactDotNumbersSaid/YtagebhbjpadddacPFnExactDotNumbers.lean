/- The law FnExactDotNumbers is true at every input that its row speaks of. No condition beyond the given row's. -/
import Derived.Test.YtagebhbjpadddacDots
import Derived.Test.YtagebhbjpadddacOpen
import Derived.ProofKit
import Derived.OpenShut
import Derived.Laws.Cover2
import Derived.ShutString
import Derived.ChangeOld
import Derived.Below
namespace Go.Proofs.Ytagebhbjpadddac.pFnExactDotNumbers
open Go.ChangeShapes Go.WideShapes Go.ChangeAt Go.RowKit Fl
open Go.ChangeMaps (open_string shut_string)

theorem own : ownKnob Try.prog.godebug = none := by kernel_rfl
theorem laidOut : laidOutB Try.prog = true := by kernel_rfl

set_option maxHeartbeats 1600000 in
theorem walk_some (a0 a1 : Option Addr) (n0 c0 n1 c1 : Nat) (z0 z1 : List Nat) (w : World) (h0 : FRow w a0 n0 z0) (h1 : FRow w a1 n1 z1) (hl0 : n0 ≤ 1048576) (hl1 : n1 ≤ 1048576) (he : n0 = n1) (hf : n0 ≤ 256) (r : Nat) (hS : dotO (z0.zip z1) = some r) :
    Calls Try.prog 10 #[.slice a0 n0 c0, .slice a1 n1 c1] w fun e w' => e = .returned (.bool true) ∧ Below w.heap.size w w' := by
  have hm0 : n0 * 4 ≤ 140737488351232 := by omega
  have hm1 : n1 * 4 ≤ 140737488351232 := by omega
  subst he
  have hn := dotO_nan hS
  have hc := fun w => run_convert_float_float (P := Try.prog) w 26 25 .f32 .f64 r (wide r) (by kernel_rfl) Try.underlying25 (wide_conv r hn)
  have hw := nan_wide r hn
  have hS' := Lib.hid hS
  clear hS
  go_enter Try.func10, Try.ntmps10
  go_wp2_with (go_at_call 25; (with_reducible refine (toFloat32S_any a0 n0 c0 z0 w h0 hm0).mono ?_); rintro e w1 ⟨rfl, f1, b1, s1⟩)
  have g1 := h1.below b1 (Nat.le_refl _)
  go_wp2_with (go_at_call 25; (with_reducible refine (toFloat32S_any a1 n0 c1 z1 w1 g1 hm1).mono ?_); rintro e w2 ⟨rfl, f2, b2, s2⟩)
  replace f1 := f1.below b2 (Nat.le_refl _)
  have e1 := (h0.below b1 (Nat.le_refl _)).below b2 (Nat.le_refl _)
  have e2 := g1.below b2 (Nat.le_refl _)
  have k2 := b1.trans (b2.mono (by omega))
  go_wp2_with (go_at_call 28; (with_reducible refine (Calls.rep_some hS'.out (specDotNumbers_few _ _ _ _ _ z0 z1 _ f1 f2 hf)).mono ?_); rintro e w3 ⟨rfl, q3⟩)
  replace e1 := e1.quiet q3
  replace e2 := e2.quiet q3
  replace k2 := k2.trans (q3.below _)
  have l3 := Lib.hid q3.size
  go_wp2_with (go_at_call 25; (with_reducible refine (toFloat32S_any a0 n0 c0 z0 w3 e1 hm0).mono ?_); rintro e w4 ⟨rfl, f4, b4, s4⟩)
  replace e1 := e1.below b4 (Nat.le_refl _)
  replace e2 := e2.below b4 (Nat.le_refl _)
  replace k2 := k2.trans (b4.mono (by have := l3.out; omega))
  go_wp2_with (go_at_call 25; (with_reducible refine (toFloat32S_any a1 n0 c1 z1 w4 e2 hm1).mono ?_); rintro e w5 ⟨rfl, f5, b5, s5⟩)
  replace e1 := e1.below b5 (Nat.le_refl _)
  replace e2 := e2.below b5 (Nat.le_refl _)
  replace f4 := f4.below b5 (Nat.le_refl _)
  replace k2 := k2.trans (b5.mono (by have := l3.out; omega))
  go_wp2_with (first | (go_at_call 29; (with_reducible refine (Calls.rep_some hS'.out (dotNumbers_few _ _ _ _ _ z0 z1 _ f4 f5 hf)).mono ?_); rintro e w6 ⟨rfl, q6⟩) | (go_at_call 15; go_loud (refine (sameFloat_self _ _ hw).mono ?_); rintro e w7 ⟨rfl, rfl⟩))
  replace e1 := e1.quiet q6
  replace e2 := e2.quiet q6
  replace f4 := f4.quiet q6
  replace f5 := f5.quiet q6
  replace k2 := k2.trans (q6.below _)
  have l6 := Lib.hid q6.size
  go_wp2_with (go_at_call 25; (with_reducible refine (toFloat32S_any a0 n0 c0 z0 _ e1 hm0).mono ?_); rintro e w8 ⟨rfl, f8, b8, s8⟩)
  replace e2 := e2.below b8 (Nat.le_refl _)
  replace f4 := f4.below b8 (Nat.le_refl _)
  replace f5 := f5.below b8 (Nat.le_refl _)
  replace k2 := k2.trans (b8.mono (by have := l3.out; have := l6.out; omega))
  go_wp2_with (first | (go_at_call 27; go_loud (refine (eqFloat32S_same _ _ n0 _ _ z0 _ f4 f8 (by omega)).mono ?_); rintro e w9 ⟨rfl, q9⟩))
  replace e2 := e2.quiet q9
  replace f5 := f5.quiet q9
  replace k2 := k2.trans (q9.below _)
  have l9 := Lib.hid q9.size
  go_wp2_with (go_at_call 25; (with_reducible refine (toFloat32S_any a1 n0 c1 z1 _ e2 hm1).mono ?_); rintro e w10 ⟨rfl, f10, b10, s10⟩)
  replace f5 := f5.below b10 (Nat.le_refl _)
  replace k2 := k2.trans (b10.mono (by have := l3.out; have := l6.out; have := l9.out; omega))
  go_wp2_with (first | (go_at_call 27; go_loud (refine (eqFloat32S_same _ _ n0 _ _ z1 _ f5 f10 (by omega)).mono ?_); rintro e w11 ⟨rfl, q11⟩))
  all_goals (go_ret; exact ⟨rfl, k2.trans (q11.below _)⟩)
set_option maxHeartbeats 1600000 in
theorem walk_none (a0 a1 : Option Addr) (n0 c0 n1 c1 : Nat) (z0 z1 : List Nat) (w : World) (h0 : FRow w a0 n0 z0) (h1 : FRow w a1 n1 z1) (hl0 : n0 ≤ 1048576) (hl1 : n1 ≤ 1048576) (he : n0 = n1) (hf : n0 ≤ 256) (hS : dotO (z0.zip z1) = none) :
    Calls Try.prog 10 #[.slice a0 n0 c0, .slice a1 n1 c1] w fun e w' => e = .returned (.bool true) ∧ Below w.heap.size w w' := by
  have hm0 : n0 * 4 ≤ 140737488351232 := by omega
  have hm1 : n1 * 4 ≤ 140737488351232 := by omega
  subst he
  have hc := fun (b : Nat) (w : World) (h : nan32 b = true) => run_widen_nan (P := Try.prog) 26 25 b w (by kernel_rfl) Try.underlying25 h
  have hS' := Lib.hid hS
  clear hS
  go_enter Try.func10, Try.ntmps10
  go_wp2_with (go_at_call 25; (with_reducible refine (toFloat32S_any a0 n0 c0 z0 w h0 hm0).mono ?_); rintro e w1 ⟨rfl, f1, b1, s1⟩)
  have g1 := h1.below b1 (Nat.le_refl _)
  go_wp2_with (go_at_call 25; (with_reducible refine (toFloat32S_any a1 n0 c1 z1 w1 g1 hm1).mono ?_); rintro e w2 ⟨rfl, f2, b2, s2⟩)
  replace f1 := f1.below b2 (Nat.le_refl _)
  have e1 := (h0.below b1 (Nat.le_refl _)).below b2 (Nat.le_refl _)
  have e2 := g1.below b2 (Nat.le_refl _)
  have k2 := b1.trans (b2.mono (by omega))
  go_wp2_with (go_at_call 28; (with_reducible refine (Calls.rep_none hS'.out (specDotNumbers_few _ _ _ _ _ z0 z1 _ f1 f2 hf)).mono ?_); rintro e w3 ⟨⟨v1, rfl, hv1⟩, q3⟩)
  replace e1 := e1.quiet q3
  replace e2 := e2.quiet q3
  replace k2 := k2.trans (q3.below _)
  have l3 := Lib.hid q3.size
  go_wp2_with (go_at_call 25; (with_reducible refine (toFloat32S_any a0 n0 c0 z0 w3 e1 hm0).mono ?_); rintro e w4 ⟨rfl, f4, b4, s4⟩)
  replace e1 := e1.below b4 (Nat.le_refl _)
  replace e2 := e2.below b4 (Nat.le_refl _)
  replace k2 := k2.trans (b4.mono (by have := l3.out; omega))
  go_wp2_with (go_at_call 25; (with_reducible refine (toFloat32S_any a1 n0 c1 z1 w4 e2 hm1).mono ?_); rintro e w5 ⟨rfl, f5, b5, s5⟩)
  replace e1 := e1.below b5 (Nat.le_refl _)
  replace e2 := e2.below b5 (Nat.le_refl _)
  replace f4 := f4.below b5 (Nat.le_refl _)
  replace k2 := k2.trans (b5.mono (by have := l3.out; omega))
  go_wp2_with (first | (go_at_call 29; (with_reducible refine (Calls.rep_none hS'.out (dotNumbers_few _ _ _ _ _ z0 z1 _ f4 f5 hf)).mono ?_); rintro e w6 ⟨⟨v2, rfl, hv2⟩, q6⟩) | (go_at_call 15; go_loud (refine (sameFloat_nan _ _ _ (nanc64_nan _ _) (nanc64_nan _ _)).mono ?_); rintro e w7 ⟨rfl, rfl⟩))
  replace q6 := (q6.drew).drew
  replace e1 := e1.quiet q6
  replace e2 := e2.quiet q6
  replace f4 := f4.quiet q6
  replace f5 := f5.quiet q6
  replace k2 := k2.trans (q6.below _)
  have l6 := Lib.hid q6.size
  go_wp2_with (go_at_call 25; (with_reducible refine (toFloat32S_any a0 n0 c0 z0 _ e1 hm0).mono ?_); rintro e w8 ⟨rfl, f8, b8, s8⟩)
  replace e2 := e2.below b8 (Nat.le_refl _)
  replace f4 := f4.below b8 (Nat.le_refl _)
  replace f5 := f5.below b8 (Nat.le_refl _)
  replace k2 := k2.trans (b8.mono (by have := l3.out; have := l6.out; omega))
  go_wp2_with (first | (go_at_call 27; go_loud (refine (eqFloat32S_same _ _ n0 _ _ z0 _ f4 f8 (by omega)).mono ?_); rintro e w9 ⟨rfl, q9⟩))
  replace e2 := e2.quiet q9
  replace f5 := f5.quiet q9
  replace k2 := k2.trans (q9.below _)
  have l9 := Lib.hid q9.size
  go_wp2_with (go_at_call 25; (with_reducible refine (toFloat32S_any a1 n0 c1 z1 _ e2 hm1).mono ?_); rintro e w10 ⟨rfl, f10, b10, s10⟩)
  replace f5 := f5.below b10 (Nat.le_refl _)
  replace k2 := k2.trans (b10.mono (by have := l3.out; have := l6.out; have := l9.out; omega))
  go_wp2_with (first | (go_at_call 27; go_loud (refine (eqFloat32S_same _ _ n0 _ _ z1 _ f5 f10 (by omega)).mono ?_); rintro e w11 ⟨rfl, q11⟩))
  all_goals (go_ret; exact ⟨rfl, k2.trans (q11.below _)⟩)
set_option maxHeartbeats 1600000 in
theorem walk_no (a0 a1 : Option Addr) (n0 c0 n1 c1 : Nat) (z0 z1 : List Nat) (w : World) (h0 : FRow w a0 n0 z0) (h1 : FRow w a1 n1 z1) (hl0 : n0 ≤ 1048576) (hl1 : n1 ≤ 1048576) (hd : Hid (¬ (n0 ≤ 256 ∧ n0 = n1))) :
    Calls Try.prog 10 #[.slice a0 n0 c0, .slice a1 n1 c1] w fun e w' => e = .returned (.bool true) ∧ Below w.heap.size w w' := by
  have hm0 : n0 * 4 ≤ 140737488351232 := by omega
  have hm1 : n1 * 4 ≤ 140737488351232 := by omega
  have hc := fun w => run_convert_float_float (P := Try.prog) w 26 25 .f32 .f64 0 (wide 0) (by kernel_rfl) Try.underlying25 (wide_conv 0 (by decide))
  have hw := nan_wide 0 (by decide)
  go_enter Try.func10, Try.ntmps10
  go_wp2_with (go_at_call 25; (with_reducible refine (toFloat32S_any a0 n0 c0 z0 w h0 hm0).mono ?_); rintro e w1 ⟨rfl, f1, b1, s1⟩)
  have g1 := h1.below b1 (Nat.le_refl _)
  go_wp2_with (go_at_call 25; (with_reducible refine (toFloat32S_any a1 n1 c1 z1 w1 g1 hm1).mono ?_); rintro e w2 ⟨rfl, f2, b2, s2⟩)
  replace f1 := f1.below b2 (Nat.le_refl _)
  have e1 := (h0.below b1 (Nat.le_refl _)).below b2 (Nat.le_refl _)
  have e2 := g1.below b2 (Nat.le_refl _)
  have k2 := b1.trans (b2.mono (by omega))
  go_wp2_with (go_at_call 28; (with_reducible refine ((specDotNumbers_no _ _ n0 n1 _ _ _ hd.out (by omega) (by omega))).mono ?_); rintro e w3 ⟨rfl, rfl⟩)
  go_wp2_with (go_at_call 25; (with_reducible refine (toFloat32S_any a0 n0 c0 z0 w2 e1 hm0).mono ?_); rintro e w4 ⟨rfl, f4, b4, s4⟩)
  replace e1 := e1.below b4 (Nat.le_refl _)
  replace e2 := e2.below b4 (Nat.le_refl _)
  replace k2 := k2.trans (b4.mono (by omega))
  go_wp2_with (go_at_call 25; (with_reducible refine (toFloat32S_any a1 n1 c1 z1 w4 e2 hm1).mono ?_); rintro e w5 ⟨rfl, f5, b5, s5⟩)
  replace e1 := e1.below b5 (Nat.le_refl _)
  replace e2 := e2.below b5 (Nat.le_refl _)
  replace f4 := f4.below b5 (Nat.le_refl _)
  replace k2 := k2.trans (b5.mono (by omega))
  go_wp2_with (first | (go_at_call 29; (with_reducible refine ((dotNumbers_no _ _ n0 n1 _ _ _ hd.out (by omega) (by omega))).mono ?_); rintro e w6 ⟨rfl, rfl⟩) | (go_at_call 15; go_loud (refine (sameFloat_self _ _ hw).mono ?_); rintro e w7 ⟨rfl, rfl⟩))
  go_wp2_with (go_at_call 25; (with_reducible refine (toFloat32S_any a0 n0 c0 z0 _ e1 hm0).mono ?_); rintro e w8 ⟨rfl, f8, b8, s8⟩)
  replace e2 := e2.below b8 (Nat.le_refl _)
  replace f4 := f4.below b8 (Nat.le_refl _)
  replace f5 := f5.below b8 (Nat.le_refl _)
  replace k2 := k2.trans (b8.mono (by omega))
  go_wp2_with (first | (go_at_call 27; go_loud (refine (eqFloat32S_same _ _ n0 _ _ z0 _ f4 f8 (by omega)).mono ?_); rintro e w9 ⟨rfl, q9⟩))
  replace e2 := e2.quiet q9
  replace f5 := f5.quiet q9
  replace k2 := k2.trans (q9.below _)
  have l9 := Lib.hid q9.size
  go_wp2_with (go_at_call 25; (with_reducible refine (toFloat32S_any a1 n1 c1 z1 _ e2 hm1).mono ?_); rintro e w10 ⟨rfl, f10, b10, s10⟩)
  replace f5 := f5.below b10 (Nat.le_refl _)
  replace k2 := k2.trans (b10.mono (by have := l9.out; omega))
  go_wp2_with (first | (go_at_call 27; go_loud (refine (eqFloat32S_same _ _ n1 _ _ z1 _ f5 f10 (by omega)).mono ?_); rintro e w11 ⟨rfl, q11⟩))
  all_goals (go_ret; exact ⟨rfl, k2.trans (q11.below _)⟩)
theorem walk (a0 : Option Addr) (n0 c0 : Nat) (z0 : List Nat) (a1 : Option Addr) (n1 c1 : Nat) (z1 : List Nat) (w : World) (h0 : FRow w a0 n0 z0) (_b0 : ∀ x ∈ z0, x < 4294967296) (h1 : FRow w a1 n1 z1) (_b1 : ∀ x ∈ z1, x < 4294967296) :
    Calls Try.prog 10 #[.slice a0 n0 c0, .slice a1 n1 c1] w fun e w' => e = .returned (.bool true) ∧ Below w.heap.size w w' := by
  by_cases hl0 : n0 ≤ 1048576
  · by_cases hl1 : n1 ≤ 1048576
    · by_cases hd : n0 ≤ 256 ∧ n0 = n1
      · cases hS : dotO (z0.zip z1) with
        | some r => exact walk_some a0 a1 n0 c0 n1 c1 z0 z1 w h0 h1 hl0 hl1 hd.2 hd.1 r hS
        | none => exact walk_none a0 a1 n0 c0 n1 c1 z0 z1 w h0 h1 hl0 hl1 hd.2 hd.1 hS
      · exact walk_no a0 a1 n0 c0 n1 c1 z0 z1 w h0 h1 hl0 hl1 hd
    · go_enter Try.func10, Try.ntmps10
      go_wp2
      go_ret
      exact ⟨rfl, Below.refl _ _⟩
  · go_enter Try.func10, Try.ntmps10
    go_wp2
    go_ret
    exact ⟨rfl, Below.refl _ _⟩

set_option maxRecDepth 100000 in
theorem lifted (os : Os) (started : os.Started) (H : Type) (enc : TypeId × Value → H) :
    ReturnsInHanded {} Try.checked os 10 .any (Rows.fnExactDotNumbersSpec.pre6 enc Try.prog Try.f10 Rows.fnExactDotNumbersRow.domain false) (Rows.fnExactDotNumbersSpec.post enc Try.prog Try.f10 false true false false) := by
  refine returnsInHanded_of_change (C := Try.checked) own started (by kernel_rfl) Try.func10
    (ChangeSpec.witness6 (enc := enc) (C := Try.checked) false ⟨#[], #[.slice none 0 0, .slice none 0 0], []⟩ 8 (by kernel_rfl) (by kernel_rfl) (by kernel_rfl) (by kernel_rfl)) ?_
  intro W base args ds gs before hval0 hW hcnd _
  have hval : ∀ (j : Nat) t v, Try.f10.params[j]? = some t → args[j]? = some v → Value.okWide Try.prog W .any base t v := hval0
  have hW' := hW
  obtain ⟨p, q, hA0, hV, rfl, hfz, hnd⟩ := hW
  have hA : DataW.TrodAll enc Try.prog W 0 (fun _ => true) true Try.f10.params.toList args.toList ds p := hA0
  rw [Try.params10] at hA hval
  obtain ⟨v0, vs0, d0, ds0, p0, q0, hargs, rfl, rfl, h0, r0⟩ := trodAll_cons hA
  obtain ⟨v1, vs1, d1, ds1, p1, q1, rfl, rfl, rfl, h1, r1⟩ := trodAll_cons r0
  obtain ⟨rfl, rfl, rfl⟩ := trodAll_nil r1
  obtain rfl : args = #[v0, v1] := by cases args; simp_all
  obtain ⟨rfl, rfl⟩ := trodVars_none hV
  obtain ⟨a0, n0, c0, rfl⟩ := okWide_slice Try.underlying34 (hval 0 34 v0 rfl rfl)
  have k0 := h0
  have lt0 : ∀ x ∈ p0, x.block < W.heap.size := by obtain ⟨m, hm⟩ := k0; exact DataW.trod_lt m _ _ _ hm
  obtain ⟨z0, fr0, b0⟩ := open_floats Try.underlying34 Try.underlying26 (by kernel_rfl) h0
  obtain ⟨a1, n1, c1, rfl⟩ := okWide_slice Try.underlying34 (hval 1 34 v1 rfl rfl)
  have k1 := h1
  have lt1 : ∀ x ∈ p1, x.block < W.heap.size := by obtain ⟨m, hm⟩ := k1; exact DataW.trod_lt m _ _ _ hm
  obtain ⟨z1, fr1, b1⟩ := open_floats Try.underlying34 Try.underlying26 (by kernel_rfl) h1
  clear hA0 hval0
  refine (walk a0 n0 c0 z0 a1 n1 c1 z1 W fr0 b0 fr1 b1).mono fun e W' ⟨he, bel⟩ => ?_
  subst he
  exact ⟨_, rfl, _, _, _, [], _, [], hW', trodAll_mk1 (shut_bool Try.underlying4 _), (trodAll_cons_mk (Below.trod laidOut (by kernel_rfl) (of_decide_eq_true (by kernel_rfl)) k0 bel lt0) (trodAll_cons_mk (Below.trod laidOut (by kernel_rfl) (of_decide_eq_true (by kernel_rfl)) k1 bel lt1) trodAll_mk0)), rfl, bel.frame _, fun h => by cases h⟩

theorem fnExactDotNumbers_holds : Rows.FnExactDotNumbersSaid :=
  OpenClaim.holds_of_wide 10 Try.f10 rfl rfl rfl rfl rfl rfl rfl ⟨rfl, rfl, rfl, rfl, rfl⟩ rfl rfl rfl rfl rfl (by kernel_rfl) Try.func10 (by kernel_rfl)
    (of_decide_eq_true (by kernel_rfl)) (by unfold Func.isWrapper; rw [if_neg (of_decide_eq_false (by kernel_rfl))]; exact ⟨rfl, rfl⟩)
    (fun os started H enc _ => lifted os started H enc)

end Go.Proofs.Ytagebhbjpadddac.pFnExactDotNumbers
