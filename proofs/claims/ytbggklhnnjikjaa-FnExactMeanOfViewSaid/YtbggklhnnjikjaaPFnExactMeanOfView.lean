/- The law FnExactMeanOfView is true at every input that its row speaks of. No condition beyond the given row's. -/
import Derived.Test.YtbggklhnnjikjaaVm
import Derived.ProofKit
import Derived.OpenShut
import Derived.Laws.Cover2
import Derived.ShutString
import Derived.ChangeOld
import Derived.Below
namespace Go.Proofs.Ytbggklhnnjikjaa.pFnExactMeanOfView
open Go.ChangeShapes Go.WideShapes Go.ChangeAt Go.RowKit Fl
open Go.ChangeMaps (open_string shut_string)

theorem own : ownKnob Try.prog.godebug = none := by kernel_rfl
theorem laidOut : laidOutB Try.prog = true := by kernel_rfl

set_option maxHeartbeats 3200000 in
theorem walk (X Y : Int) (ao : Option Addr) (n c : Nat) (zs : List Nat) (w : World) (fr : FRow w ao n zs) (_bz : ∀ x ∈ zs, x < 4294967296) (bn : n ≤ 9223372036854775807) :
    Calls Try.prog 7 #[vwVal X Y ao n c] w fun e w' => e = .returned (.bool true) ∧ Below w.heap.size w w' := by
  have HZ := Lib.hid fun w => szView_any X Y ao n c 1048576 w bn (by omega) (by omega)
  have hbel := (Below.refl w.heap.size w).alloc (Nat.le_refl _) (.cells #[.int .i64 X, .int .i64 Y, .slice ao n c] 58)
  have HBel := Lib.hid hbel
  have HF := Lib.hid (fr.below hbel (Nat.le_refl _))
  have HK := Lib.hid (blk_new w 58 #[.int .i64 X, .int .i64 Y, .slice ao n c] _ rfl)
  clear hbel fr
  by_cases hl : n ≤ 1048576
  · have hz := HZ.out
    rw [if_pos (by omega)] at hz
    have HZ' := Lib.hid hz
    have hneg : ¬ ((1048576 : Int) - (n : Int) < 0) := by omega
    clear hz HZ
    have HT := Lib.hid fun w (h : FRow w ao n zs) => toView_any X Y ao n c zs w h hl
    have hS := fun b w (h : FRow w (some ⟨b, 0, none⟩) n zs) => specMeanOfView_any X Y b n n zs w h hl
    have hI := fun b w (h : FRow w (some ⟨b, 0, none⟩) n zs) => meanOfView_any X Y b n n zs w h hl
    have HE := Lib.hid fun b b' w (h : FRow w (some ⟨b, 0, none⟩) n zs) (h' : FRow w (some ⟨b', 0, none⟩) n zs) => eqView_self X Y (some ⟨b, 0, none⟩) (some ⟨b', 0, none⟩) n n n zs w h h' hl
    have hn := meanP_nan X Y zs
    generalize (meanP X Y zs).1 = v at hS hI hn
    generalize (meanP X Y zs).2 = r at hS hI
    have hc := fun w => run_convert_float_float (P := Try.prog) w 35 47 .f32 .f64 v (wide v) (by kernel_rfl) Try.underlying47 (wide_conv v hn)
    have hw := nan_wide v hn
    have HF6 := Lib.hid fun w => sameFloat_self (wide v) w hw
    have HS := Lib.hid hS
    have HI := Lib.hid hI
    clear hS hI hl hn hw
    unfold vwVal at *
    cases r
    all_goals
      go_enter Try.func7, Try.ntmps7
      go_wp2_with fail
      refine (HZ'.out _).mono ?_
      rintro e w1 ⟨rfl, hb⟩
      have K1 := Lib.hid (below_next HBel.out hb)
      have F1 := Lib.hid (HF.out.below hb (Nat.le_refl _))
      have A1 := Lib.hid (blk_next HK.out hb)
      have a0 := A1.out.cell 0
      have a1 := A1.out.cell 1
      have a2 := A1.out.cell 2
      clear hb
      go_wp2_with fail
      refine (HT.out _ F1.out).mono ?_
      rintro e w2 ⟨b1, rfl, _, _, f, hb⟩
      have G2 := Lib.hid f
      have K2 := Lib.hid (below_next K1.out hb)
      have F2 := Lib.hid (F1.out.below hb (Nat.le_refl _))
      have A2 := Lib.hid (blk_next A1.out hb)
      clear hb f a0 a1 a2
      go_wp2_with fail
      refine (HS.out _ _ G2.out).mono ?_
      rintro e w3 ⟨rfl, hb⟩
      have K3 := Lib.hid (below_next K2.out hb)
      have F3 := Lib.hid (F2.out.below hb (Nat.le_refl _))
      have A3 := Lib.hid (blk_next A2.out hb)
      have a0 := A3.out.cell 0
      have a1 := A3.out.cell 1
      have a2 := A3.out.cell 2
      clear hb
      go_wp2_with fail
      refine (HT.out _ F3.out).mono ?_
      rintro e w4 ⟨b4, rfl, _, _, f, hb⟩
      have bx := (Below.refl w4.heap.size w4).alloc (Nat.le_refl _) (.cells #[.int .i64 X, .int .i64 Y, .slice (some ⟨b4, 0, none⟩) n n] 61)
      have X4 := Lib.hid (blk_new w4 61 #[.int .i64 X, .int .i64 Y, .slice (some ⟨b4, 0, none⟩) n n] _ rfl)
      have K4 := Lib.hid (below_next (below_next K3.out hb) bx)
      have F4 := Lib.hid ((F3.out.below hb (Nat.le_refl _)).below bx (Nat.le_refl _))
      have A4 := Lib.hid (blk_next (blk_next A3.out hb) bx)
      have G4 := Lib.hid (f.below bx (Nat.le_refl _))
      clear hb f bx a0 a1 a2
      go_wp2_with fail
      refine (HI.out _ _ G4.out).mono ?_
      rintro e w5 ⟨rfl, hb⟩
      have K5 := Lib.hid (below_next K4.out hb)
      have F5 := Lib.hid (F4.out.below hb (Nat.le_refl _))
      have G5 := Lib.hid (G4.out.below hb (Nat.le_refl _))
      have A5 := Lib.hid (blk_next A4.out hb)
      have X5 := Lib.hid (blk_next X4.out hb)
      have x0 := X5.out.cell 0
      have x1 := X5.out.cell 1
      have x2 := X5.out.cell 2
      have a0 := A5.out.cell 0
      have a1 := A5.out.cell 1
      have a2 := A5.out.cell 2
      clear hb
      go_wp2_with (go_at_call 29; go_loud (refine (HF6.out _).mono ?_); rintro e w55 ⟨rfl, rfl⟩)
      go_region_with (first | (go_at_call 33; go_loud (refine (HT.out _ (F5.out.quiet (Quiet.one _))).mono ?_); rintro e w6 ⟨b6, rfl, _, _, f, hb⟩; have G6 := Lib.hid f; have K6 := Lib.hid (below_next (below_drewN K5.out _) hb); have H6 := Lib.hid ((G5.out.quiet (Quiet.one _)).below hb (Nat.le_refl _)); have X6 := Lib.hid (blk_next (blk_drewN X5.out _) hb); have y0 := X6.out.cell 0; have y1 := X6.out.cell 1; have y2 := X6.out.cell 2; clear hb f) | (go_at_call 35; (with_reducible refine (HE.out _ _ _ H6.out G6.out).mono ?_); rintro e w7 ⟨rfl, hb⟩; have K7 := Lib.hid (below_next K6.out hb); clear hb))
      all_goals
        go_wp2
        go_ret
        exact ⟨rfl, K7.out⟩
  · have hz := HZ.out
    rw [if_neg (by omega)] at hz
    have HZ' := Lib.hid hz
    clear hz HZ HF hl
    unfold vwVal at *
    go_enter Try.func7, Try.ntmps7
    go_wp2_with (go_at_call 31; (with_reducible refine (HZ'.out _).mono ?_); rintro e w1 ⟨rfl, hb⟩)
    go_ret
    exact ⟨rfl, below_next HBel.out hb⟩

set_option maxRecDepth 100000 in
theorem lifted (os : Os) (started : os.Started) (H : Type) (enc : TypeId × Value → H) :
    ReturnsInHanded {} Try.checked os 7 .any (Rows.fnExactMeanOfViewSpec.pre6 enc Try.prog Try.f7 Rows.fnExactMeanOfViewRow.domain false) (Rows.fnExactMeanOfViewSpec.post enc Try.prog Try.f7 false true false false) := by
  refine returnsInHanded_of_change (C := Try.checked) own started (by kernel_rfl) Try.func7
    (ChangeSpec.witness6 (enc := enc) (C := Try.checked) false ⟨#[], #[.agg #[.int .i64 0, .int .i64 0, .slice none 0 0]], []⟩ 8 (by kernel_rfl) (by kernel_rfl) (by kernel_rfl) (by kernel_rfl)) ?_
  intro W base args ds gs before hval0 hW hcnd _
  have hval : ∀ (j : Nat) t v, Try.f7.params[j]? = some t → args[j]? = some v → Value.okWide Try.prog W .any base t v := hval0
  have hW' := hW
  obtain ⟨p, q, hA0, hV, rfl, hfz, hnd⟩ := hW
  have hA : DataW.TrodAll enc Try.prog W 0 (fun _ => true) true Try.f7.params.toList args.toList ds p := hA0
  rw [Try.params7] at hA hval
  obtain ⟨v0, vs0, d0, ds0, p0, q0, hargs, rfl, rfl, h0, r0⟩ := trodAll_cons hA
  obtain ⟨rfl, rfl, rfl⟩ := trodAll_nil r0
  obtain rfl : args = #[v0] := by cases args; simp_all
  obtain ⟨rfl, rfl⟩ := trodVars_none hV
  have k0 := h0
  have lt0 : ∀ x ∈ p0, x.block < W.heap.size := by obtain ⟨m, hm⟩ := k0; exact DataW.trod_lt m _ _ _ hm
  obtain ⟨X0, Y0, ao0, n0, c0, zs0, rfl, fr0, bz0, bn0⟩ := open_view (hval 0 58 v0 rfl rfl) h0
  clear hA0 hval0
  refine (walk X0 Y0 ao0 n0 c0 zs0 W fr0 bz0 bn0).mono fun e W' ⟨he, bel⟩ => ?_
  subst he
  exact ⟨_, rfl, _, _, _, [], _, [], hW', trodAll_mk1 (shut_bool Try.underlying4 _), (trodAll_cons_mk (Below.trod laidOut (by kernel_rfl) (of_decide_eq_true (by kernel_rfl)) k0 bel lt0) trodAll_mk0), rfl, bel.frame _, fun h => by cases h⟩

theorem fnExactMeanOfView_holds : Rows.FnExactMeanOfViewSaid :=
  OpenClaim.holds_of_wide 7 Try.f7 rfl rfl rfl rfl rfl rfl rfl ⟨rfl, rfl, rfl, rfl, rfl⟩ rfl rfl rfl rfl rfl (by kernel_rfl) Try.func7 (by kernel_rfl)
    (of_decide_eq_true (by kernel_rfl)) (by unfold Func.isWrapper; rw [if_neg (of_decide_eq_false (by kernel_rfl))]; exact ⟨rfl, rfl⟩)
    (fun os started H enc _ => lifted os started H enc)

end Go.Proofs.Ytbggklhnnjikjaa.pFnExactMeanOfView
