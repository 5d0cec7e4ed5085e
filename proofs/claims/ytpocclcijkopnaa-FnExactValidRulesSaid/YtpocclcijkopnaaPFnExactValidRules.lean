/- The law FnExactValidRules is true at every input that its row speaks of. No condition beyond the given row's. -/
import Derived.Test.YtpocclcijkopnaaOpr
import Derived.Test.YtpocclcijkopnaaRu
import Derived.ProofKit
import Derived.OpenShut
import Derived.Laws.Cover2
import Derived.ShutString
import Derived.ChangeOld
import Derived.Below
namespace Go.Proofs.Ytpocclcijkopnaa.pFnExactValidRules
open Go.ChangeShapes Go.WideShapes Go.ChangeAt Go.RowKit Fl
open Go.ChangeMaps (open_string shut_string)

theorem own : ownKnob Try.prog.godebug = none := by kernel_rfl
theorem laidOut : laidOutB Try.prog = true := by kernel_rfl

set_option maxHeartbeats 1600000 in
theorem walk (a b c d : Nat) (w : World) (_ha : a < 4294967296) (_hb : b < 4294967296) (_hc : c < 4294967296) (_hd : d < 4294967296) :
    Calls Try.prog 9 #[ruVal a b c d] w fun e w' => e = .returned (.bool true) ∧ Below w.heap.size w w' := by
  have HT := fun w => toRules_any a b c d w
  have HS := fun w => specValidRules_any a b c d w
  have HI := fun w => validRules_any a b c d w
  generalize okRules a b c d = r at HS HI

  unfold ruVal at *
  have HT' := Lib.hid HT
  have HS' := Lib.hid HS
  have HI' := Lib.hid HI
  clear HT HS HI
  have hblk : Blk (w.alloc (.cells #[.float .f32 a, .float .f32 b, .float .f32 c, .float .f32 d] 90)) w.heap.size 90 _ := blk_new w _ _ _ rfl
  have HBe := Lib.hid ((Below.refl w.heap.size w).alloc (Nat.le_refl _) (.cells #[.float .f32 a, .float .f32 b, .float .f32 c, .float .f32 d] 90))
  have HBk := Lib.hid hblk
  clear hblk
  cases r
  all_goals
    go_enter Try.func9, Try.ntmps9
    go_wp2_with (first | (go_at_call 64; (with_reducible refine (HT'.out _).mono ?_); rintro e w1 ⟨rfl, hb⟩; have K1 := Lib.hid (below_next HBe.out hb); have KB1 := Lib.hid (blk_next HBk.out hb); clear hb))
    go_wp2_with (first | (go_at_call 63; (with_reducible refine (HS'.out _).mono ?_); rintro e w2 ⟨rfl, hb⟩; have K2 := Lib.hid (below_next K1.out hb); have KB2 := Lib.hid (blk_next KB1.out hb); have c0 := KB2.out.cell 0; have c1 := KB2.out.cell 1; have c2 := KB2.out.cell 2; have c3 := KB2.out.cell 3; clear hb))
    go_wp2_with (first | (go_at_call 64; (with_reducible refine (HT'.out _).mono ?_); rintro e w3 ⟨rfl, hb⟩; have K3 := Lib.hid (below_next K2.out hb); clear hb))
    go_wp2_with (first | (go_at_call 55; (with_reducible refine (HI'.out _).mono ?_); rintro e w4 ⟨rfl, hb⟩; have K4 := Lib.hid (below_next K3.out hb); clear hb))
    go_ret
    exact ⟨rfl, K4.out⟩

set_option maxRecDepth 100000 in
theorem lifted (os : Os) (started : os.Started) (H : Type) (enc : TypeId × Value → H) :
    ReturnsInHanded {} Try.checked os 9 .any (Rows.fnExactValidRulesSpec.pre6 enc Try.prog Try.f9 Rows.fnExactValidRulesRow.domain false) (Rows.fnExactValidRulesSpec.post enc Try.prog Try.f9 false true false false) := by
  refine returnsInHanded_of_change (C := Try.checked) own started (by kernel_rfl) Try.func9
    (ChangeSpec.witness6 (enc := enc) (C := Try.checked) false ⟨#[], #[.agg #[.float .f32 0, .float .f32 0, .float .f32 0, .float .f32 0]], []⟩ 8 (by kernel_rfl) (by kernel_rfl) (by kernel_rfl) (by kernel_rfl)) ?_
  intro W base args ds gs before hval0 hW hcnd _
  have hval : ∀ (j : Nat) t v, Try.f9.params[j]? = some t → args[j]? = some v → Value.okWide Try.prog W .any base t v := hval0
  have hW' := hW
  obtain ⟨p, q, hA0, hV, rfl, hfz, hnd⟩ := hW
  have hA : DataW.TrodAll enc Try.prog W 0 (fun _ => true) true Try.f9.params.toList args.toList ds p := hA0
  rw [Try.params9] at hA hval
  obtain ⟨v0, vs0, d0, ds0, p0, q0, hargs, rfl, rfl, h0, r0⟩ := trodAll_cons hA
  obtain ⟨rfl, rfl, rfl⟩ := trodAll_nil r0
  obtain rfl : args = #[v0] := by cases args; simp_all
  obtain ⟨rfl, rfl⟩ := trodVars_none hV
  have k0 := h0
  have lt0 : ∀ x ∈ p0, x.block < W.heap.size := by obtain ⟨m, hm⟩ := k0; exact DataW.trod_lt m _ _ _ hm
  obtain ⟨a0, b0, c0, e0, rfl, ha0, hb0, hc0, he0⟩ := open_ru (hval 0 90 v0 rfl rfl) h0
  clear hA0 hval0
  refine (walk a0 b0 c0 e0 W ha0 hb0 hc0 he0).mono fun e W' ⟨he, bel⟩ => ?_
  subst he
  exact ⟨_, rfl, _, _, _, [], _, [], hW', trodAll_mk1 (shut_bool Try.underlying4 _), (trodAll_cons_mk (Below.trod laidOut (by kernel_rfl) (of_decide_eq_true (by kernel_rfl)) k0 bel lt0) trodAll_mk0), rfl, bel.frame _, fun h => by cases h⟩

theorem fnExactValidRules_holds : Rows.FnExactValidRulesSaid :=
  OpenClaim.holds_of_wide 9 Try.f9 rfl rfl rfl rfl rfl rfl rfl ⟨rfl, rfl, rfl, rfl, rfl⟩ rfl rfl rfl rfl rfl (by kernel_rfl) Try.func9 (by kernel_rfl)
    (of_decide_eq_true (by kernel_rfl)) (by unfold Func.isWrapper; rw [if_neg (of_decide_eq_false (by kernel_rfl))]; exact ⟨rfl, rfl⟩)
    (fun os started H enc _ => lifted os started H enc)

end Go.Proofs.Ytpocclcijkopnaa.pFnExactValidRules
