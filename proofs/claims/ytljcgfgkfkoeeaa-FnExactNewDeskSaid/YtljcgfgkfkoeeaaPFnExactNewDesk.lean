/- The law FnExactNewDesk is true. No condition beyond the given row's. -/
import Derived.Test.YtljcgfgkfkoeeaaWh
import Derived.ProofKit
import Derived.OpenShut
import Derived.Laws.Cover2
import Derived.ShutString
import Derived.ChangeOld
import Derived.Below
namespace Go.Proofs.Ytljcgfgkfkoeeaa.pFnExactNewDesk
open Go.ChangeShapes Go.WideShapes Go.ChangeAt Go.RowKit Fl
open Go.ChangeMaps (open_string shut_string)

theorem own : ownKnob Try.prog.godebug = none := by kernel_rfl
theorem laidOut : laidOutB Try.prog = true := by kernel_rfl

set_option maxHeartbeats 3200000 in
theorem walk (w : World) :
    Calls Try.prog 3 #[] w fun e w' => e = .returned (.bool true) ∧ Below w.heap.size w w' := by
  have HS := Lib.hid fun w => newDesk_spec w
  have HI := Lib.hid fun w => newDesk_impl w
  have HE := Lib.hid fun b1 c1 wb1 wc1 b2 c2 wb2 wc2 nb W h1 h2 => eqDesk_of b1 c1 wb1 wc1 b2 c2 wb2 wc2 nb W h1 h2
  have HM := Lib.hid fun base b c wb W hg hw hne hlt => markDesk_of base b c wb 4 deskGs boxW W desk_len rfl hg hw hne hlt
  have HH := Lib.hid fun b c wb W hr => heldDesk_of b c wb 4 deskGs boxW W desk_len rfl hr
  have HL := Lib.hid desk_len
  unfold deskV at HS HI HE HM HH
  unfold deskArr at HS HI HE HM HH
  have hsf := run_store_float' Try.prog
  go_enter Try.func3, Try.ntmps3
  go_wp2_with (go_at_call 4; ((with_reducible refine (HS.out _).mono ?_); rintro e w1 ⟨bS, cS, wS, wcS, nS, rfl, hgS, hwS, hltS, hb1⟩; have RS1 := Lib.hid (DkR.alloc ⟨row_of_own hgS HL.out, wrow_of_own hwS rfl⟩ (.cells #[.slice (some ⟨bS, 0, none⟩) 3 cS, .float .f32 1098907648, .float .f32 1065353216, .float .f32 1056964608, .float .f32 1090519040, .slice (some ⟨wS, 0, none⟩) 4 wcS, .slice (some ⟨nS, 0, none⟩) 0 0] 31)); have LS := Lib.hid (show bS < w1.heap.size ∧ wS < w1.heap.size from ⟨(hgS.lt bS rfl).2, (hwS.lt wS rfl).2⟩); have KA := Lib.hid (blk_new w1 31 #[.slice (some ⟨bS, 0, none⟩) 3 cS, .float .f32 1098907648, .float .f32 1065353216, .float .f32 1056964608, .float .f32 1090519040, .slice (some ⟨wS, 0, none⟩) 4 wcS, .slice (some ⟨nS, 0, none⟩) 0 0] _ rfl); have K1 := Lib.hid (hb1.alloc hb1.size (.cells #[.slice (some ⟨bS, 0, none⟩) 3 cS, .float .f32 1098907648, .float .f32 1065353216, .float .f32 1056964608, .float .f32 1090519040, .slice (some ⟨wS, 0, none⟩) 4 wcS, .slice (some ⟨nS, 0, none⟩) 0 0] 31)); clear hb1 hgS hwS hltS))
  go_wp2_with (go_at_call 5; ((with_reducible refine (HI.out _).mono ?_); rintro e w2 ⟨bG, cG, wG, rfl, hgG, hwG, hltG, hb2⟩; have ca0 := (blk_next KA.out hb2).cell 0; have ca1 := (blk_next KA.out hb2).cell 1; have ca2 := (blk_next KA.out hb2).cell 2; have ca3 := (blk_next KA.out hb2).cell 3; have ca4 := (blk_next KA.out hb2).cell 4; have ca5 := (blk_next KA.out hb2).cell 5; have ca6 := (blk_next KA.out hb2).cell 6; have lA := (blk_next KA.out hb2).lt; have KB := Lib.hid (blk_new w2 31 #[.slice (some ⟨bG, 0, none⟩) 3 cG, .float .f32 1098907648, .float .f32 1065353216, .float .f32 1056964608, .float .f32 1090519040, .slice (some ⟨wG, 0, none⟩) 4 4, .slice none 0 0] _ rfl); have KA2 := Lib.hid ((blk_next KA.out hb2).alloc (.cells #[.slice (some ⟨bG, 0, none⟩) 3 cG, .float .f32 1098907648, .float .f32 1065353216, .float .f32 1056964608, .float .f32 1090519040, .slice (some ⟨wG, 0, none⟩) 4 4, .slice none 0 0] 31)); have K2 := Lib.hid ((below_next K1.out hb2).alloc (below_next K1.out hb2).size (.cells #[.slice (some ⟨bG, 0, none⟩) 3 cG, .float .f32 1098907648, .float .f32 1065353216, .float .f32 1056964608, .float .f32 1090519040, .slice (some ⟨wG, 0, none⟩) 4 4, .slice none 0 0] 31)); have RS2 := Lib.hid ((RS1.out.next hb2).alloc (.cells #[.slice (some ⟨bG, 0, none⟩) 3 cG, .float .f32 1098907648, .float .f32 1065353216, .float .f32 1056964608, .float .f32 1090519040, .slice (some ⟨wG, 0, none⟩) 4 4, .slice none 0 0] 31)); have OG2 := Lib.hid (hgG.alloc (.cells #[.slice (some ⟨bG, 0, none⟩) 3 cG, .float .f32 1098907648, .float .f32 1065353216, .float .f32 1056964608, .float .f32 1090519040, .slice (some ⟨wG, 0, none⟩) 4 4, .slice none 0 0] 31)); have OW2 := Lib.hid (hwG.alloc (.cells #[.slice (some ⟨bG, 0, none⟩) 3 cG, .float .f32 1098907648, .float .f32 1065353216, .float .f32 1056964608, .float .f32 1090519040, .slice (some ⟨wG, 0, none⟩) 4 4, .slice none 0 0] 31)); have lG := Lib.hid (hgG.lt bG rfl); have lW := Lib.hid (hwG.lt wG rfl); have HLt := Lib.hid hltG; clear hb2 hgG hwG hltG))
  go_wp2_with (go_at_call 6; ((with_reducible refine (HE.out _ _ _ _ _ _ _ _ _ _ ⟨row_of_own OG2.out HL.out, wrow_of_own OW2.out rfl⟩ RS2.out).mono ?_); rintro e w3 ⟨rfl, hb3⟩; have cb0 := (blk_next KB.out hb3).cell 0; have cb1 := (blk_next KB.out hb3).cell 1; have cb2 := (blk_next KB.out hb3).cell 2; have cb3 := (blk_next KB.out hb3).cell 3; have cb4 := (blk_next KB.out hb3).cell 4; have cb5 := (blk_next KB.out hb3).cell 5; have cb6 := (blk_next KB.out hb3).cell 6; have KB3 := Lib.hid (blk_next KB.out hb3); have KA3 := Lib.hid (blk_next KA2.out hb3); have K3 := Lib.hid (below_next K2.out hb3); have RS3 := Lib.hid (RS2.out.next hb3); have OG3 := Lib.hid (own_below OG2.out hb3 (Nat.le_refl _)); have OW3 := Lib.hid (own_below OW2.out hb3 (Nat.le_refl _)); clear hb3))
  go_wp2_with (go_at_call 7; ((with_reducible refine (HM.out _ _ _ _ _ OG3.out OW3.out HLt.out (OW3.out.lt wG rfl).2).mono ?_); rintro e w4 ⟨rfl, hr4, hx4, hk4⟩; have HK := Lib.hid (hk4 _ _ _ KB3.out (by have h2 := lG.out.2; have h3 := lW.out.2; omega) (by have h2 := lG.out.2; have h3 := lW.out.2; omega)); have cd0 := (HK.out).cell 0; have cd1 := (HK.out).cell 1; have cd2 := (HK.out).cell 2; have cd3 := (HK.out).cell 3; have cd4 := (HK.out).cell 4; have cd5 := (HK.out).cell 5; have cd6 := (HK.out).cell 6; have KB4 := Lib.hid HK.out; have KA4 := Lib.hid (hk4 _ _ _ KA3.out (by have h2 := lG.out.1; simp at h2; omega) (by have h2 := lW.out.1; simp at h2; omega)); have K4 := Lib.hid (hx4 _ _ K3.out (by have h2 := lG.out.1; have h3 := K1.out.size; simp at h2 h3; omega)); have RS4 := Lib.hid (DkR.mk (grRow_block RS3.out.g (hx4 (bS + 1) w3 (Below.refl _ _) (by have h2 := lG.out.1; have h3 := LS.out.1; simp at h2; omega)) (Nat.lt_succ_self _)) (WRow.block RS3.out.x (hx4 (wS + 1) w3 (Below.refl _ _) (by have h2 := lG.out.1; have h3 := LS.out.2; simp at h2; omega)) (Nat.lt_succ_self _))); have RG4 := Lib.hid hr4; clear hr4 hx4 hk4))
  go_wp2_with (go_at_call 8; ((with_reducible refine (HH.out _ _ _ _ RG4.out).mono ?_); rintro e w5 ⟨rfl, hb5⟩; have KB5 := Lib.hid (blk_next KB4.out hb5); have KA5 := Lib.hid (blk_next KA4.out hb5); have K5 := Lib.hid (below_next K4.out hb5); have RS5 := Lib.hid (RS4.out.next hb5); have RG5 := Lib.hid (RG4.out.next hb5); clear hb5))
  go_wp2_with (go_at_call 5; ((with_reducible refine (HI.out _).mono ?_); rintro e w6 ⟨bH, cH, wH, rfl, hgH, hwH, hltH, hb6⟩; have ce0 := (blk_next KA5.out hb6).cell 0; have ce1 := (blk_next KA5.out hb6).cell 1; have ce2 := (blk_next KA5.out hb6).cell 2; have ce3 := (blk_next KA5.out hb6).cell 3; have ce4 := (blk_next KA5.out hb6).cell 4; have ce5 := (blk_next KA5.out hb6).cell 5; have ce6 := (blk_next KA5.out hb6).cell 6; have lA6 := (blk_next KA5.out hb6).lt; have KB6 := Lib.hid ((blk_next KB5.out hb6).alloc (.cells #[.slice (some ⟨bH, 0, none⟩) 3 cH, .float .f32 1098907648, .float .f32 1065353216, .float .f32 1056964608, .float .f32 1090519040, .slice (some ⟨wH, 0, none⟩) 4 4, .slice none 0 0] 31)); have K6 := Lib.hid ((below_next K5.out hb6).alloc (below_next K5.out hb6).size (.cells #[.slice (some ⟨bH, 0, none⟩) 3 cH, .float .f32 1098907648, .float .f32 1065353216, .float .f32 1056964608, .float .f32 1090519040, .slice (some ⟨wH, 0, none⟩) 4 4, .slice none 0 0] 31)); have RS6 := Lib.hid ((RS5.out.next hb6).alloc (.cells #[.slice (some ⟨bH, 0, none⟩) 3 cH, .float .f32 1098907648, .float .f32 1065353216, .float .f32 1056964608, .float .f32 1090519040, .slice (some ⟨wH, 0, none⟩) 4 4, .slice none 0 0] 31)); have RG6 := Lib.hid ((RG5.out.next hb6).alloc (.cells #[.slice (some ⟨bH, 0, none⟩) 3 cH, .float .f32 1098907648, .float .f32 1065353216, .float .f32 1056964608, .float .f32 1090519040, .slice (some ⟨wH, 0, none⟩) 4 4, .slice none 0 0] 31)); have RH6 := Lib.hid (DkR.alloc ⟨row_of_own hgH HL.out, wrow_of_own hwH rfl⟩ (.cells #[.slice (some ⟨bH, 0, none⟩) 3 cH, .float .f32 1098907648, .float .f32 1065353216, .float .f32 1056964608, .float .f32 1090519040, .slice (some ⟨wH, 0, none⟩) 4 4, .slice none 0 0] 31)); clear hb6 hgH hwH hltH))
  go_wp2_with (go_at_call 6; ((with_reducible refine (HE.out _ _ _ _ _ _ _ _ _ _ RH6.out RS6.out).mono ?_); rintro e w7 ⟨rfl, hb7⟩; have cf0 := (blk_next KB6.out hb7).cell 0; have cf1 := (blk_next KB6.out hb7).cell 1; have cf2 := (blk_next KB6.out hb7).cell 2; have cf3 := (blk_next KB6.out hb7).cell 3; have cf4 := (blk_next KB6.out hb7).cell 4; have cf5 := (blk_next KB6.out hb7).cell 5; have cf6 := (blk_next KB6.out hb7).cell 6; have K7 := Lib.hid (below_next K6.out hb7); have RG7 := Lib.hid (RG6.out.next hb7); clear hb7))
  go_wp2_with (go_at_call 8; ((with_reducible refine (HH.out _ _ _ _ RG7.out).mono ?_); rintro e w8 ⟨rfl, hb8⟩; have K8 := Lib.hid (below_next K7.out hb8); clear hb8))
  go_ret
  exact ⟨rfl, K8.out⟩

set_option maxRecDepth 100000 in
theorem lifted (os : Os) (started : os.Started) (H : Type) (enc : TypeId × Value → H) :
    ReturnsInHanded {} Try.checked os 3 .any (Rows.fnExactNewDeskSpec.pre6 enc Try.prog Try.f3 Rows.fnExactNewDeskRow.domain false) (Rows.fnExactNewDeskSpec.post enc Try.prog Try.f3 false true false false) := by
  refine returnsInHanded_of_change (C := Try.checked) own started (by kernel_rfl) Try.func3
    (ChangeSpec.witness6 (enc := enc) (C := Try.checked) false ⟨#[], #[], []⟩ 8 (by kernel_rfl) (by kernel_rfl) (by kernel_rfl) (by kernel_rfl)) ?_
  intro W base args ds gs before hval0 hW hcnd _
  have hval : ∀ (j : Nat) t v, Try.f3.params[j]? = some t → args[j]? = some v → Value.okWide Try.prog W .any base t v := hval0
  have hW' := hW
  obtain ⟨p, q, hA0, hV, rfl, hfz, hnd⟩ := hW
  have hA : DataW.TrodAll enc Try.prog W 0 (fun _ => true) true Try.f3.params.toList args.toList ds p := hA0
  rw [Try.params3] at hA hval
  obtain ⟨hargs, rfl, rfl⟩ := trodAll_nil hA
  obtain rfl : args = #[] := by cases args; simp_all
  obtain ⟨rfl, rfl⟩ := trodVars_none hV
  clear hA0 hval0
  refine (walk W).mono fun e W' ⟨he, bel⟩ => ?_
  subst he
  exact ⟨_, rfl, _, _, _, [], _, [], hW', trodAll_mk1 (shut_bool Try.underlying4 _), trodAll_mk0, rfl, bel.frame _, fun h => by cases h⟩

theorem fnExactNewDesk_holds : Rows.FnExactNewDeskSaid :=
  OpenClaim.holds_of_wide 3 Try.f3 rfl rfl rfl rfl rfl rfl rfl ⟨rfl, rfl, rfl, rfl, rfl⟩ rfl rfl rfl rfl rfl (by kernel_rfl) Try.func3 (by kernel_rfl)
    (of_decide_eq_true (by kernel_rfl)) (by unfold Func.isWrapper; rw [if_neg (of_decide_eq_false (by kernel_rfl))]; exact ⟨rfl, rfl⟩)
    (fun os started H enc _ => lifted os started H enc)

end Go.Proofs.Ytljcgfgkfkoeeaa.pFnExactNewDesk
