/- The law FnExactSameBonds is true at every input that its row speaks of. No condition beyond the given row's. -/
import Derived.Test.YtkgijboahjiodaaJky
import Derived.ProofKit
import Derived.OpenShut
import Derived.Laws.Cover2
import Derived.ShutString
import Derived.ChangeOld
import Derived.Below
namespace Go.Proofs.Ytkgijboahjiodaa.pFnExactSameBonds
open Go.ChangeShapes Go.WideShapes Go.ChangeAt Go.RowKit Fl
open Go.ChangeMaps (open_string shut_string)

theorem own : ownKnob Try.prog.godebug = none := by kernel_rfl
theorem laidOut : laidOutB Try.prog = true := by kernel_rfl

set_option maxHeartbeats 3200000 in
theorem walk_ok (a0 a1 : Option Addr) (n0 c0 n1 c1 : Nat) (z0 z1 : List Kc) (w : World) (h0 : KRow w a0 n0 z0) (h1 : KRow w a1 n1 z1) (b0 : ∀ t ∈ z0, t.s < 4294967296 ∧ t.q < 4294967296) (b1 : ∀ t ∈ z1, t.s < 4294967296 ∧ t.q < 4294967296) (hl0 : n0 ≤ 1048576) (hl1 : n0 + n1 ≤ 1048576) (r : Bool) (hr : sameL z0 z1 = r) :
    Calls Try.prog 5 #[.slice a0 n0 c0, .slice a1 n1 c1] w fun e w' => e = .returned (.bool true) ∧ Below w.heap.size w w' := by
  have hm1 : n1 ≤ 1048576 := by omega
  have hz0 := fun w => szBondS_int a0 n0 c0 1048576 w (by omega) (by omega) (by omega)
  have hz1 := fun w => szBondS_int a1 n1 c1 ((1048576 : Int) - n0) w (by omega) (by omega) (by omega)
  rw [if_pos (by omega)] at hz0 hz1
  have HZ0 := Lib.hid hz0
  have HZ1 := Lib.hid hz1
  have hs0 : ¬ ((1048576 : Int) - (n0 : Int) < 0) := by omega
  have hs1 : ¬ ((1048576 : Int) - (n0 : Int) - (n1 : Int) < 0) := by omega
  have HS := Lib.hid fun ao bo w ha hb => specSameBonds_of ao bo n0 n0 n1 n1 z0 z1 w ha hb b0 b1 hl0 hm1
  have HI := Lib.hid fun ao bo w ha hb => sameBonds_of ao bo n0 n0 n1 n1 z0 z1 w ha hb b0 b1 hl0 hm1
  rw [hr] at HS HI
  have HT0 := Lib.hid fun w ha => toBondS_any a0 n0 c0 z0 w ha hl0
  have HT1 := Lib.hid fun w ha => toBondS_any a1 n1 c1 z1 w ha hm1
  have HE0 := Lib.hid fun ao bo w ha hb => eqBondS_self ao bo n0 n0 n0 z0 w ha hb hl0
  have HE1 := Lib.hid fun ao bo w ha hb => eqBondS_self ao bo n1 n1 n1 z1 w ha hb hm1
  have H0 := Lib.hid h0
  have H1 := Lib.hid h1
  clear hz0 hz1 b0 b1 hl0 hl1 hm1 h0 h1 hr
  cases r
  all_goals
    go_enter Try.func5, Try.ntmps5
    go_wp2_with (first | (go_at_call 28; (with_reducible refine (HZ0.out _).mono ?_); rintro e w' ⟨rfl, rfl⟩) | (go_at_call 28; (with_reducible refine (HZ1.out _).mono ?_); rintro e w' ⟨rfl, rfl⟩) | (go_at_call 30; (with_reducible refine (HT0.out _ H0.out).mono ?_); rintro e w1 ⟨rfl, f, b, s⟩; have F1_1 := Lib.hid f; have K1 := Lib.hid b; have P1 := Lib.hid (H1.out.below b (Nat.le_refl _)); have Q1 := Lib.hid (H0.out.below b (Nat.le_refl _)); clear f b s))
    go_wp2_with (go_at_call 30; (with_reducible refine (HT1.out _ P1.out).mono ?_); rintro e w2 ⟨rfl, f, b, s⟩; have F2_2 := Lib.hid f; have K2 := Lib.hid (below_next K1.out b); have P2 := Lib.hid (P1.out.below b (Nat.le_refl _)); have Q2 := Lib.hid (Q1.out.below b (Nat.le_refl _)); have F1_2 := Lib.hid (F1_1.out.below b (Nat.le_refl _)); clear f b s)
    go_wp2_with (go_at_call 29; (with_reducible refine (HS.out _ _ _ F1_2.out F2_2.out).mono ?_); rintro e w3 ⟨rfl, q⟩; have K3 := Lib.hid (below_next K2.out (q.below _)); have P3 := Lib.hid (P2.out.below (q.below _) (Nat.le_refl _)); have Q3 := Lib.hid (Q2.out.below (q.below _) (Nat.le_refl _)); clear q)
    go_wp2_with (go_at_call 30; (with_reducible refine (HT0.out _ Q3.out).mono ?_); rintro e w4 ⟨rfl, f, b, s⟩; have F4_4 := Lib.hid f; have K4 := Lib.hid (below_next K3.out b); have P4 := Lib.hid (P3.out.below b (Nat.le_refl _)); have Q4 := Lib.hid (Q3.out.below b (Nat.le_refl _)); clear f b s)
    go_wp2_with (go_at_call 30; (with_reducible refine (HT1.out _ P4.out).mono ?_); rintro e w5 ⟨rfl, f, b, s⟩; have F5_5 := Lib.hid f; have K5 := Lib.hid (below_next K4.out b); have P5 := Lib.hid (P4.out.below b (Nat.le_refl _)); have Q5 := Lib.hid (Q4.out.below b (Nat.le_refl _)); have F4_5 := Lib.hid (F4_4.out.below b (Nat.le_refl _)); clear f b s)
    go_wp2_with (go_at_call 31; (with_reducible refine (HI.out _ _ _ F4_5.out F5_5.out).mono ?_); rintro e w6 ⟨rfl, b⟩; have K6 := Lib.hid (below_next K5.out b); have P6 := Lib.hid (P5.out.below b (Nat.le_refl _)); have Q6 := Lib.hid (Q5.out.below b (Nat.le_refl _)); have F4_6 := Lib.hid (F4_5.out.below b (Nat.le_refl _)); have F5_6 := Lib.hid (F5_5.out.below b (Nat.le_refl _)); clear b)
    go_wp2_with (go_at_call 30; (with_reducible refine (HT0.out _ Q6.out).mono ?_); rintro e w7 ⟨rfl, f, b, s⟩; have F7_7 := Lib.hid f; have K7 := Lib.hid (below_next K6.out b); have P7 := Lib.hid (P6.out.below b (Nat.le_refl _)); have Q7 := Lib.hid (Q6.out.below b (Nat.le_refl _)); have F4_7 := Lib.hid (F4_6.out.below b (Nat.le_refl _)); have F5_7 := Lib.hid (F5_6.out.below b (Nat.le_refl _)); clear f b s)
    go_wp2_with (go_at_call 32; (with_reducible refine (HE0.out _ _ _ F4_7.out F7_7.out).mono ?_); rintro e w8 ⟨rfl, b⟩; have K8 := Lib.hid (below_next K7.out b); have P8 := Lib.hid (P7.out.below b (Nat.le_refl _)); have Q8 := Lib.hid (Q7.out.below b (Nat.le_refl _)); have F5_8 := Lib.hid (F5_7.out.below b (Nat.le_refl _)); clear b)
    go_wp2_with (go_at_call 30; (with_reducible refine (HT1.out _ P8.out).mono ?_); rintro e w9 ⟨rfl, f, b, s⟩; have F9_9 := Lib.hid f; have K9 := Lib.hid (below_next K8.out b); have P9 := Lib.hid (P8.out.below b (Nat.le_refl _)); have Q9 := Lib.hid (Q8.out.below b (Nat.le_refl _)); have F5_9 := Lib.hid (F5_8.out.below b (Nat.le_refl _)); clear f b s)
    go_wp2_with (go_at_call 32; (with_reducible refine (HE1.out _ _ _ F5_9.out F9_9.out).mono ?_); rintro e w10 ⟨rfl, b⟩; have K10 := Lib.hid (below_next K9.out b); clear b)
    go_ret
    exact ⟨rfl, K10.out⟩
theorem walk (a0 : Option Addr) (n0 c0 : Nat) (z0 : List Kc) (a1 : Option Addr) (n1 c1 : Nat) (z1 : List Kc) (w : World) (h0 : KRow w a0 n0 z0) (b0 : (∀ t ∈ z0, t.s < 4294967296 ∧ t.q < 4294967296) ∧ n0 ≤ 9223372036854775807) (h1 : KRow w a1 n1 z1) (b1 : (∀ t ∈ z1, t.s < 4294967296 ∧ t.q < 4294967296) ∧ n1 ≤ 9223372036854775807) :
    Calls Try.prog 5 #[.slice a0 n0 c0, .slice a1 n1 c1] w fun e w' => e = .returned (.bool true) ∧ Below w.heap.size w w' := by
  by_cases hl0 : n0 ≤ 1048576
  · by_cases hl1 : n0 + n1 ≤ 1048576
    · exact walk_ok a0 a1 n0 c0 n1 c1 z0 z1 w h0 h1 b0.1 b1.1 hl0 hl1 _ rfl
    · have hz0 := fun w => szBondS_int a0 n0 c0 1048576 w b0.2 (by omega) (by omega)
      have hz1 := fun w => szBondS_int a1 n1 c1 ((1048576 : Int) - n0) w b1.2 (by omega) (by omega)
      rw [if_pos (by omega)] at hz0
      rw [if_neg (by omega)] at hz1
      have HZ0 := Lib.hid hz0
      have HZ1 := Lib.hid hz1
      have hs0 : ¬ ((1048576 : Int) - (n0 : Int) < 0) := by omega
      clear hz0 hz1 b0 b1 h0 h1
      go_enter Try.func5, Try.ntmps5
      go_wp2_with (first | (go_at_call 28; (with_reducible refine (HZ0.out _).mono ?_); rintro e w' ⟨rfl, rfl⟩) | (go_at_call 28; (with_reducible refine (HZ1.out _).mono ?_); rintro e w' ⟨rfl, rfl⟩))
      go_ret
      exact ⟨rfl, Below.refl _ _⟩
  · have hz0 := fun w => szBondS_int a0 n0 c0 1048576 w b0.2 (by omega) (by omega)
    rw [if_neg (by omega)] at hz0
    have HZ0 := Lib.hid hz0
    clear hz0 b0 b1 h0 h1
    go_enter Try.func5, Try.ntmps5
    go_wp2_with (go_at_call 28; (with_reducible refine (HZ0.out _).mono ?_); rintro e w' ⟨rfl, rfl⟩)
    go_ret
    exact ⟨rfl, Below.refl _ _⟩

set_option maxRecDepth 100000 in
theorem lifted (os : Os) (started : os.Started) (H : Type) (enc : TypeId × Value → H) :
    ReturnsInHanded {} Try.checked os 5 .any (Rows.fnExactSameBondsSpec.pre6 enc Try.prog Try.f5 Rows.fnExactSameBondsRow.domain false) (Rows.fnExactSameBondsSpec.post enc Try.prog Try.f5 false true false false) := by
  refine returnsInHanded_of_change (C := Try.checked) own started (by kernel_rfl) Try.func5
    (ChangeSpec.witness6 (enc := enc) (C := Try.checked) false ⟨#[], #[.slice none 0 0, .slice none 0 0], []⟩ 8 (by kernel_rfl) (by kernel_rfl) (by kernel_rfl) (by kernel_rfl)) ?_
  intro W base args ds gs before hval0 hW hcnd _
  have hval : ∀ (j : Nat) t v, Try.f5.params[j]? = some t → args[j]? = some v → Value.okWide Try.prog W .any base t v := hval0
  have hW' := hW
  obtain ⟨p, q, hA0, hV, rfl, hfz, hnd⟩ := hW
  have hA : DataW.TrodAll enc Try.prog W 0 (fun _ => true) true Try.f5.params.toList args.toList ds p := hA0
  rw [Try.params5] at hA hval
  obtain ⟨v0, vs0, d0, ds0, p0, q0, hargs, rfl, rfl, h0, r0⟩ := trodAll_cons hA
  obtain ⟨v1, vs1, d1, ds1, p1, q1, rfl, rfl, rfl, h1, r1⟩ := trodAll_cons r0
  obtain ⟨rfl, rfl, rfl⟩ := trodAll_nil r1
  obtain rfl : args = #[v0, v1] := by cases args; simp_all
  obtain ⟨rfl, rfl⟩ := trodVars_none hV
  obtain ⟨a0, n0, c0, rfl⟩ := okWide_slice Try.underlying62 (hval 0 62 v0 rfl rfl)
  have k0 := h0
  have lt0 : ∀ x ∈ p0, x.block < W.heap.size := by obtain ⟨m, hm⟩ := k0; exact DataW.trod_lt m _ _ _ hm
  obtain ⟨z0, fr0, b0⟩ := open_bonds h0
  obtain ⟨a1, n1, c1, rfl⟩ := okWide_slice Try.underlying62 (hval 1 62 v1 rfl rfl)
  have k1 := h1
  have lt1 : ∀ x ∈ p1, x.block < W.heap.size := by obtain ⟨m, hm⟩ := k1; exact DataW.trod_lt m _ _ _ hm
  obtain ⟨z1, fr1, b1⟩ := open_bonds h1
  clear hA0 hval0
  refine (walk a0 n0 c0 z0 a1 n1 c1 z1 W fr0 b0 fr1 b1).mono fun e W' ⟨he, bel⟩ => ?_
  subst he
  exact ⟨_, rfl, _, _, _, [], _, [], hW', trodAll_mk1 (shut_bool Try.underlying4 _), (trodAll_cons_mk (Below.trod laidOut (by kernel_rfl) (of_decide_eq_true (by kernel_rfl)) k0 bel lt0) (trodAll_cons_mk (Below.trod laidOut (by kernel_rfl) (of_decide_eq_true (by kernel_rfl)) k1 bel lt1) trodAll_mk0)), rfl, bel.frame _, fun h => by cases h⟩

theorem fnExactSameBonds_holds : Rows.FnExactSameBondsSaid :=
  OpenClaim.holds_of_wide 5 Try.f5 rfl rfl rfl rfl rfl rfl rfl ⟨rfl, rfl, rfl, rfl, rfl⟩ rfl rfl rfl rfl rfl (by kernel_rfl) Try.func5 (by kernel_rfl)
    (of_decide_eq_true (by kernel_rfl)) (by unfold Func.isWrapper; rw [if_neg (of_decide_eq_false (by kernel_rfl))]; exact ⟨rfl, rfl⟩)
    (fun os started H enc _ => lifted os started H enc)

end Go.Proofs.Ytkgijboahjiodaa.pFnExactSameBonds
