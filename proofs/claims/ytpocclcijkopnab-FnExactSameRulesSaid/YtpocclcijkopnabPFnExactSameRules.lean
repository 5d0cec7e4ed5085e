/- The law FnExactSameRules is true at every input that its row speaks of. No condition beyond the given row's. -/
import Derived.Test.YtpocclcijkopnabOpr
import Derived.ProofKit
import Derived.OpenShut
import Derived.Laws.Cover2
import Derived.ShutString
import Derived.ChangeOld
import Derived.Below
namespace Go.Proofs.Ytpocclcijkopnab.pFnExactSameRules
open Go.ChangeShapes Go.WideShapes Go.ChangeAt Go.RowKit Fl
open Go.ChangeMaps (open_string shut_string)

theorem own : ownKnob Try.prog.godebug = none := by kernel_rfl
theorem laidOut : laidOutB Try.prog = true := by kernel_rfl

set_option maxHeartbeats 1600000 in
theorem walk (a b c d a' b' c' d' : Nat) (w : World) (ha : a < 4294967296) (hb : b < 4294967296) (hc : c < 4294967296) (hd : d < 4294967296) (ha' : a' < 4294967296) (hb' : b' < 4294967296) (hc' : c' < 4294967296) (hd' : d' < 4294967296) :
    Calls Try.prog 3 #[ruVal a b c d, ruVal a' b' c' d'] w fun e w' => e = .returned (.bool true) ∧ Below w.heap.size w w' := by
  have HT := fun w => toRules_any a b c d w
  have HU := fun w => toRules_any a' b' c' d' w
  have HS := fun w => specSameRules_any a b c d a' b' c' d' w ha hb hc hd ha' hb' hc' hd'
  have HI := fun w => sameRules_any a b c d a' b' c' d' w ha hb hc hd ha' hb' hc' hd'
  generalize sameRu a b c d a' b' c' d' = r at HS HI
  clear ha hb hc hd ha' hb' hc' hd'
  unfold ruVal at *
  have HT' := Lib.hid HT
  have HU' := Lib.hid HU
  have HS' := Lib.hid HS
  have HI' := Lib.hid HI
  clear HT HU HS HI
  have hblk : Blk ((w.alloc (.cells #[.float .f32 a, .float .f32 b, .float .f32 c, .float .f32 d] 24)).alloc (.cells #[.float .f32 a', .float .f32 b', .float .f32 c', .float .f32 d'] 24)) w.heap.size 24 _ := (blk_new w _ _ _ rfl).alloc _
  have hblk2 : Blk ((w.alloc (.cells #[.float .f32 a, .float .f32 b, .float .f32 c, .float .f32 d] 24)).alloc (.cells #[.float .f32 a', .float .f32 b', .float .f32 c', .float .f32 d'] 24)) (w.heap.size + 1) 24 _ := blk_new _ _ _ _ (by simp)
  have HBe := Lib.hid (((Below.refl w.heap.size w).alloc (Nat.le_refl _) (.cells #[.float .f32 a, .float .f32 b, .float .f32 c, .float .f32 d] 24)).alloc (by simp) (.cells #[.float .f32 a', .float .f32 b', .float .f32 c', .float .f32 d'] 24))
  have c0 := hblk.cell 0
  have c1 := hblk.cell 1
  have c2 := hblk.cell 2
  have c3 := hblk.cell 3
  have c4 := hblk2.cell 0
  have c5 := hblk2.cell 1
  have c6 := hblk2.cell 2
  have c7 := hblk2.cell 3
  clear hblk hblk2
  cases r
  all_goals
    go_enter Try.func3, Try.ntmps3
    go_wp2
    go_region_held3 (fun w' => w'.cell? ⟨w.heap.size, 0, none⟩ = some (.float .f32 a) ∧ w'.cell? ⟨w.heap.size, 1, none⟩ = some (.float .f32 b) ∧ w'.cell? ⟨w.heap.size, 2, none⟩ = some (.float .f32 c) ∧ w'.cell? ⟨w.heap.size, 3, none⟩ = some (.float .f32 d) ∧ w'.cell? ⟨w.heap.size + 1, 0, none⟩ = some (.float .f32 a') ∧ w'.cell? ⟨w.heap.size + 1, 1, none⟩ = some (.float .f32 b') ∧ w'.cell? ⟨w.heap.size + 1, 2, none⟩ = some (.float .f32 c') ∧ w'.cell? ⟨w.heap.size + 1, 3, none⟩ = some (.float .f32 d'))
      (first | go_keep | exact ⟨c0, c1, c2, c3, c4, c5, c6, c7⟩ | (go_split_ands; refine ⟨?_, ?_, ?_, ?_, ?_, ?_, ?_, ?_⟩ <;> (refine cell_next hb ?_; assumption)))
      (first | (go_at_call 6; (with_reducible refine (HT'.out _).mono ?_); rintro e w1 ⟨rfl, hb⟩; have K1 := Lib.hid hb) | (go_at_call 6; (with_reducible refine (HU'.out _).mono ?_); rintro e w2 ⟨rfl, hb⟩; have K2 := Lib.hid hb) | (go_at_call 5; (with_reducible refine (HS'.out _).mono ?_); rintro e w3 ⟨rfl, hb⟩; have K3 := Lib.hid hb))
    have K123 := Lib.hid (below_next (below_next (below_next (below_drewN HBe.out _) K1.out) K2.out) K3.out)
    go_wp2
    go_region_held3 (fun w' => w'.cell? ⟨w.heap.size, 0, none⟩ = some (.float .f32 a) ∧ w'.cell? ⟨w.heap.size, 1, none⟩ = some (.float .f32 b) ∧ w'.cell? ⟨w.heap.size, 2, none⟩ = some (.float .f32 c) ∧ w'.cell? ⟨w.heap.size, 3, none⟩ = some (.float .f32 d) ∧ w'.cell? ⟨w.heap.size + 1, 0, none⟩ = some (.float .f32 a') ∧ w'.cell? ⟨w.heap.size + 1, 1, none⟩ = some (.float .f32 b') ∧ w'.cell? ⟨w.heap.size + 1, 2, none⟩ = some (.float .f32 c') ∧ w'.cell? ⟨w.heap.size + 1, 3, none⟩ = some (.float .f32 d'))
      (first | go_keep | (go_split_ands; refine ⟨?_, ?_, ?_, ?_, ?_, ?_, ?_, ?_⟩ <;> (refine cell_next hb ?_; assumption)))
      (first | (go_at_call 6; (with_reducible refine (HT'.out _).mono ?_); rintro e w4 ⟨rfl, hb⟩; have K4 := Lib.hid hb) | (go_at_call 6; (with_reducible refine (HU'.out _).mono ?_); rintro e w5 ⟨rfl, hb⟩; have K5 := Lib.hid hb) | (go_at_call 7; (with_reducible refine (HI'.out _).mono ?_); rintro e w6 ⟨rfl, hb⟩; have K6 := Lib.hid hb))
    go_wp2
    go_ret
    exact ⟨rfl, below_next (below_next (below_next (below_drewN K123.out _) K4.out) K5.out) K6.out⟩

set_option maxRecDepth 100000 in
theorem lifted (os : Os) (started : os.Started) (H : Type) (enc : TypeId × Value → H) :
    ReturnsInHanded {} Try.checked os 3 .any (Rows.fnExactSameRulesSpec.pre6 enc Try.prog Try.f3 Rows.fnExactSameRulesRow.domain false) (Rows.fnExactSameRulesSpec.post enc Try.prog Try.f3 false true false false) := by
  refine returnsInHanded_of_change (C := Try.checked) own started (by kernel_rfl) Try.func3
    (ChangeSpec.witness6 (enc := enc) (C := Try.checked) false ⟨#[], #[.agg #[.float .f32 0, .float .f32 0, .float .f32 0, .float .f32 0], .agg #[.float .f32 0, .float .f32 0, .float .f32 0, .float .f32 0]], []⟩ 8 (by kernel_rfl) (by kernel_rfl) (by kernel_rfl) (by kernel_rfl)) ?_
  intro W base args ds gs before hval0 hW hcnd _
  have hval : ∀ (j : Nat) t v, Try.f3.params[j]? = some t → args[j]? = some v → Value.okWide Try.prog W .any base t v := hval0
  have hW' := hW
  obtain ⟨p, q, hA0, hV, rfl, hfz, hnd⟩ := hW
  have hA : DataW.TrodAll enc Try.prog W 0 (fun _ => true) true Try.f3.params.toList args.toList ds p := hA0
  rw [Try.params3] at hA hval
  obtain ⟨v0, vs0, d0, ds0, p0, q0, hargs, rfl, rfl, h0, r0⟩ := trodAll_cons hA
  obtain ⟨v1, vs1, d1, ds1, p1, q1, rfl, rfl, rfl, h1, r1⟩ := trodAll_cons r0
  obtain ⟨rfl, rfl, rfl⟩ := trodAll_nil r1
  obtain rfl : args = #[v0, v1] := by cases args; simp_all
  obtain ⟨rfl, rfl⟩ := trodVars_none hV
  have k0 := h0
  have lt0 : ∀ x ∈ p0, x.block < W.heap.size := by obtain ⟨m, hm⟩ := k0; exact DataW.trod_lt m _ _ _ hm
  obtain ⟨a0, b0, c0, e0, rfl, ha0, hb0, hc0, he0⟩ := open_ru (hval 0 24 v0 rfl rfl) h0
  have k1 := h1
  have lt1 : ∀ x ∈ p1, x.block < W.heap.size := by obtain ⟨m, hm⟩ := k1; exact DataW.trod_lt m _ _ _ hm
  obtain ⟨a1, b1, c1, e1, rfl, ha1, hb1, hc1, he1⟩ := open_ru (hval 1 24 v1 rfl rfl) h1
  clear hA0 hval0
  refine (walk a0 b0 c0 e0 a1 b1 c1 e1 W ha0 hb0 hc0 he0 ha1 hb1 hc1 he1).mono fun e W' ⟨he, bel⟩ => ?_
  subst he
  exact ⟨_, rfl, _, _, _, [], _, [], hW', trodAll_mk1 (shut_bool Try.underlying4 _), (trodAll_cons_mk (Below.trod laidOut (by kernel_rfl) (of_decide_eq_true (by kernel_rfl)) k0 bel lt0) (trodAll_cons_mk (Below.trod laidOut (by kernel_rfl) (of_decide_eq_true (by kernel_rfl)) k1 bel lt1) trodAll_mk0)), rfl, bel.frame _, fun h => by cases h⟩

theorem fnExactSameRules_holds : Rows.FnExactSameRulesSaid :=
  OpenClaim.holds_of_wide 3 Try.f3 rfl rfl rfl rfl rfl rfl rfl ⟨rfl, rfl, rfl, rfl, rfl⟩ rfl rfl rfl rfl rfl (by kernel_rfl) Try.func3 (by kernel_rfl)
    (of_decide_eq_true (by kernel_rfl)) (by unfold Func.isWrapper; rw [if_neg (of_decide_eq_false (by kernel_rfl))]; exact ⟨rfl, rfl⟩)
    (fun os started H enc _ => lifted os started H enc)

end Go.Proofs.Ytpocclcijkopnab.pFnExactSameRules
