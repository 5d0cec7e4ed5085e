/- The law FnExactNumbersText: true at every input, and its tied card. -/
import Derived.Test.YtnfmfiomemcfdacDoorNj
import Derived.Test.YtnfmfiomemcfdacDoorOpen
import Derived.Laws.Cover2
import Derived.ChangeOld
import Derived.Below
namespace Go.Proofs.YtnfmfiomemcfdacDoor.pFnExactNumbersText
open Go.ChangeShapes Go.WideShapes Go.ChangeAt Go.WideMaps Go.WideElems Go.RowKit
open Go.ChangeMaps (open_string shut_string)

theorem FRow.alloc_ {w : World} {ao : Option Addr} {n : Nat} {zs : List Nat} (h : FRow w ao n zs) (o : Obj) : FRow (w.alloc o) ao n zs := h.below ((Below.refl w.heap.size w).alloc (Nat.le_refl _) o) (Nat.le_refl _)
set_option maxHeartbeats 1600000 in
theorem walk (a0 : Option Addr) (n0 c0 : Nat) (z0 : List Nat) (w : World) (h0 : FRow w a0 n0 z0) (hv : ∀ x ∈ z0, x < 4294967296) (htz : Tz w) :
    Calls Tryd.prog 7 #[.slice a0 n0 c0] w fun e w' => e = .returned (.bool true) ∧ Below w.heap.size w w' := by
  by_cases hl : n0 ≤ 1048576
  · have hm8 : n0 * 4 ≤ 140737488351232 := by omega
    have HT := Lib.hid fun ao c w h => toFloat32S_any ao n0 c z0 w h hm8
    have HSp := fun ao c w h => specNumbersText_of ao n0 c z0 w h hv
    have HIm := fun ao c w h ht => numbersText_of ao n0 c z0 w h (by omega) hv ht
    have HEq := Lib.hid fun a b c d w h1 h2 => eqFloat32S_same a b n0 c d z0 w h1 h2 (by omega)
    unfold ntAns at HSp HIm
    generalize (if z0.length ≤ 256 then (⟨(ntext z0).toArray⟩ : ByteArray) else ⟨#[]⟩) = S at HSp HIm
    generalize decide (z0.length ≤ 256) = b at HSp HIm
    have HS := Lib.hid HSp
    have HI := Lib.hid HIm
    have H0 := Lib.hid h0
    have HTz := Lib.hid fun w' (h : Below w.heap.size w w') => htz.below h (Nat.le_refl _)
    have hl' : ¬ 1048576 < n0 := by omega
    clear HSp HIm h0 htz hv
    go_enter Tryd.func7, Tryd.ntmps7
    go_wp2_with (go_at_call 25; ((with_reducible refine (HT.out _ _ _ H0.out).mono ?_); rintro e w1 ⟨rfl, hf1, hb1, hs1⟩; have F1 := Lib.hid hf1; have B1 := Lib.hid hb1; clear hf1 hb1))
    go_wp2_with (go_at_call 24; ((with_reducible refine (HS.out _ _ _ F1.out).mono ?_); rintro e w2 ⟨rfl, hb2⟩; have B2 := Lib.hid (B1.out.trans (hb2.mono B1.out.size)); clear hb2))
    go_wp2_with (go_at_call 25; ((with_reducible refine (HT.out _ _ _ (H0.out.below B2.out (Nat.le_refl _))).mono ?_); rintro e w3 ⟨rfl, hf3, hb3, hs3⟩; have F3 := Lib.hid hf3; have B3 := Lib.hid (B2.out.trans (hb3.mono B2.out.size)); clear hf3 hb3))
    go_wp2_with (go_at_call 26; ((with_reducible refine (HI.out _ _ _ F3.out (HTz.out _ B3.out)).mono ?_); rintro e w4 ⟨rfl, hb4⟩; have F4 := Lib.hid (F3.out.below hb4 (Nat.le_refl _)); have B4 := Lib.hid (B3.out.trans (hb4.mono B3.out.size)); clear hb4))
    go_wp2_with (go_at_call 25; ((with_reducible refine (HT.out _ _ _ (H0.out.below B4.out (Nat.le_refl _))).mono ?_); rintro e w5 ⟨rfl, hf5, hb5, hs5⟩; have F5 := Lib.hid hf5; have F45 := Lib.hid (F4.out.below hb5 (Nat.le_refl _)); have B5 := Lib.hid (B4.out.trans (hb5.mono B4.out.size)); clear hf5 hb5))
    go_wp2_with (go_at_call 27; ((with_reducible refine (HEq.out _ _ _ _ _ F45.out F5.out).mono ?_); rintro e w6 ⟨rfl, m6, rfl⟩))
    all_goals (go_ret; exact ⟨rfl, below_drewN B5.out _⟩)
  · clear htz h0 hv
    go_enter Tryd.func7, Tryd.ntmps7
    go_wp2
    go_ret
    exact ⟨rfl, Below.refl _ _⟩

def db64 : List Int := [0, 1, 56, 2, 57, 49, 28, 3, 61, 58, 42, 50, 38, 29, 17, 4, 62, 47, 59, 36, 45, 43, 51, 22, 53, 39, 33, 30, 24, 18, 12, 5, 63, 55, 48, 27, 60, 41, 37, 16, 46, 35, 44, 21, 52, 32, 23, 11, 54, 26, 40, 15, 34, 20, 31, 10, 25, 14, 19, 9, 13, 8, 7, 6]
theorem gDb : Tryd.prog.globalNamed "math/bits.deBruijn64tab" = some 8 := by kernel_rfl
theorem tDb : (Tryd.prog.globals[8]?).map (·.type) = some 149 := by kernel_rfl
theorem own : ownKnob Tryd.prog.godebug = none := by kernel_rfl
theorem laidOut : laidOutB Tryd.prog = true := by kernel_rfl
/-- the door's own heap meets the condition -/
theorem door_met (os : Os) (args : Array Value) : laidMetH Tryd.prog Rows.fnExactNumbersTextRow.laid ((World.doorLaid Tryd.prog 400 os).forCall (fun _ _ => 0) ⟨#[], args, []⟩).memory :=
  laidMetH_of_parts3 (fuel := 8) (laidMet_of_run' 8 (by kernel_rfl) (by kernel_rfl)) (by kernel_rfl) (by kernel_rfl)
theorem of_laid {W : World} (h : laidMetH Tryd.prog Rows.fnExactNumbersTextRow.laid W) : Tz W := by
  rw [MakeChecks.laidMetH_plain _ _ _ (by kernel_rfl)] at h
  have h2 := laidMet.tail h
  have ht : Lib.TabIs Tryd.prog W "math/bits.deBruijn64tab" .u8 db64 := Lib.tabIs_of_head gDb tDb Tryd.underlying149 Tryd.underlying5 (by kernel_rfl) (by kernel_rfl) h2
  exact ht.cell gDb 15 (by decide)

set_option maxRecDepth 100000 in
theorem lifted (os : Os) (started : os.Started) (H : Type) (enc : TypeId × Value → H) :
    ReturnsInHanded {} Tryd.checked os 7 .any (fun w args => (Rows.fnExactNumbersTextSpec.pre enc Tryd.prog Tryd.f7 [] false w args ∧ laidMetH Tryd.prog Rows.fnExactNumbersTextRow.laid w) ∧ sizedMet enc Tryd.prog Tryd.f7 (OpenSpec.ofChange Rows.fnExactNumbersTextSpec) false w args)
      (Rows.fnExactNumbersTextSpec.post enc Tryd.prog Tryd.f7 false true false false) := by
  refine returnsInHanded_of_change_and (C := Tryd.checked) (X := fun w _ => laidMetH Tryd.prog Rows.fnExactNumbersTextRow.laid w) (fun _ _ _ hh h => h.of_heap hh) own started (by kernel_rfl) Tryd.func7
    (ChangeSpec.witness_shaped (enc := enc) (C := Tryd.checked) (os := os) (X := fun w _ => laidMetH Tryd.prog Rows.fnExactNumbersTextRow.laid w) false (World.doorLaid Tryd.prog 400 os) #[.slice none 0 0] 8 rfl (World.shaped_of_RefB (by kernel_rfl) (by kernel_rfl)) (by kernel_rfl) (by kernel_rfl) (by kernel_rfl) (door_met os _)) ?_
  intro W base args ds gs before hval0 hW _ _ hL _
  have hval : ∀ (j : Nat) t v, Tryd.f7.params[j]? = some t → args[j]? = some v → Value.okWide Tryd.prog W .any base t v := hval0
  have hW' := hW
  obtain ⟨p, q, hA0, hV, rfl, hfz, hnd⟩ := hW
  have hA : DataW.TrodAll enc Tryd.prog W 0 (fun _ => true) true Tryd.f7.params.toList args.toList ds p := hA0
  rw [Tryd.params7] at hA hval
  obtain ⟨v0, vs0, d0, ds0, p0, q0, hargs, rfl, rfl, h0, r0⟩ := trodAll_cons hA
  obtain ⟨rfl, rfl, rfl⟩ := trodAll_nil r0
  obtain rfl : args = #[v0] := by cases args; simp_all
  obtain ⟨rfl, rfl⟩ := trodVars_none hV
  obtain ⟨a0, n0, c0, rfl⟩ := okWide_slice Tryd.underlying39 (hval 0 39 v0 rfl rfl)
  have k0 := h0
  have lt0 : ∀ x ∈ p0, x.block < W.heap.size := by obtain ⟨m, hm⟩ := k0; exact DataW.trod_lt m _ _ _ hm
  obtain ⟨z0, fr0, hv0⟩ := open_floats Tryd.underlying39 Tryd.underlying64 (by kernel_rfl) h0
  clear hA0 hval0
  refine (walk a0 n0 c0 z0 W fr0 hv0 (of_laid hL)).mono fun e W' ⟨he, bel⟩ => ?_
  subst he
  exact ⟨_, rfl, _, _, _, [], _, [], hW', trodAll_mk1 (shut_bool Tryd.underlying4 _), (trodAll_cons_mk (Below.trod laidOut (by kernel_rfl) (of_decide_eq_true (by kernel_rfl)) k0 bel lt0) trodAll_mk0), rfl, bel.frame _, fun h => by cases h⟩

theorem fnExactNumbersText_holds : Rows.FnExactNumbersTextSaid :=
  OpenClaim.holds_of_wide 7 Tryd.f7 rfl rfl rfl rfl rfl rfl rfl ⟨rfl, rfl, rfl, rfl, rfl⟩ rfl rfl rfl rfl rfl (by kernel_rfl) Tryd.func7 (by kernel_rfl)
    (of_decide_eq_true (by kernel_rfl)) (by unfold Func.isWrapper; rw [if_neg (of_decide_eq_false (by kernel_rfl))]; exact ⟨rfl, rfl⟩)
    (fun os started H enc _ => lifted os started H enc)

theorem card_holds : Rows.FnExactNumbersTextCardSaid :=
  Claim7.holds_tied_plain_at .later [] [.data, .data, .data] true Rows.fnExactNumbersTextCard.stood.harness true
    fnExactNumbersText_holds (fun _ h => by cases h) (by kernel_rfl) (fun _ h => by cases h) fnExactNumbersText_row_tie rfl ⟨rfl, rfl⟩ (by kernel_rfl) rfl
    (fun f fn hf hfn => by
      obtain rfl : f = 7 := Option.some.inj ((show Tryd.prog.funcNamed "loop.example/g01268/laws.FnExactNumbersText" = some 7 by kernel_rfl).symm.trans hf) |>.symm
      obtain rfl : fn = Tryd.f7 := (Option.some.inj (Tryd.func7.symm.trans hfn)).symm
      exact ⟨by kernel_rfl, fun j t ht => by
        rw [Tryd.params7] at ht
        have hm : t ∈ [39] := by simpa using Array.mem_of_getElem? ht
        have hall : ([39].all fun u => !Tryd.prog.wantsStandIn u) = true := by kernel_rfl
        exact (show Tryd.prog.wantsStandIn t = false by simpa using List.all_eq_true.1 hall t hm)⟩)
    (by kernel_rfl)

end Go.Proofs.YtnfmfiomemcfdacDoor.pFnExactNumbersText
