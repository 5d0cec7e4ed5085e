/- The law FnExactRecoverJournal: true at every input, and its tied card. -/
import Derived.Test.YtokllkngikcoiaaDoorRo
import Derived.Test.YtokllkngikcoiaaDoorCards
import Derived.Test.YtokllkngikcoiaaDoorTie
import Derived.ProofKit
import Derived.LaidMore
import Derived.OpenShut
import Derived.ShutString
import Derived.Stop.Joined
import Derived.SevenTiedAt
import Derived.Lib.LaidTab
import Derived.Lib.SmallJoins
import Derived.Stop.LaidErr
import Derived.HandedShaped
import Derived.Shelf.Vars
import Derived.Lay
import Derived.Laws.Cover2
import Derived.ChangeOld
import Derived.Below
namespace Go.Proofs.YtokllkngikcoiaaDoor.pFnExactRecoverJournal
open Go.ChangeShapes Go.WideShapes Go.ChangeAt Go.WideMaps Go.WideElems Go.RowKit
open Go.ChangeMaps (open_string shut_string)

set_option maxHeartbeats 3200000 in
set_option maxRecDepth 100000 in
theorem walk (s : ByteArray) (w : World) (m : Int) (_hz : s.size ≤ maxLen) (hm : w.cell? ⟨0, 0, none⟩ = some (.int .i64 m)) (htab : PowT w) :
    Calls Tryd.prog 5 #[.string s] w fun e w' => e = .returned (.bool true) ∧ Below w.heap.size w w' := by
  by_cases hs : s.size ≤ 1048576
  · have HSp := fun w' => specRecover_of s w'
    have HIm := fun w' (hb : Below w.heap.size w w') => recover_any s w' m (by rw [hb.cell (p := ⟨0, 0, none⟩) (World.block_lt_of_cell? w _ hm)]; exact hm) (htab.below hb)
    have hs' : ¬ 1048576 < s.size := by omega
    have hn := rjL_len s.data.toList
    clear htab hm
    generalize rjL s.data.toList = L at HSp HIm hn
    generalize rjQ s.data.toList = q at HSp HIm
    generalize rjOk s.data.toList = b at HSp HIm
    obtain ⟨n, hl⟩ : ∃ n, L.length = n := ⟨_, rfl⟩
    obtain ⟨zs, hzs⟩ : ∃ zs, zs = ofL L := ⟨_, rfl⟩
    have hzl : zs.length = n := by rw [hzs, ofL_len, hl]
    rw [hl] at hn
    have HS := Lib.hid fun w' => (HSp w').mono fun e w2 h => got8_of hzs hl h
    have HI := Lib.hid fun w' hb => (HIm w' hb).mono fun e w2 h => got8_of hzs hl h
    have HE := Lib.hid fun a b c d w h1 h2 => eqStringS_same a b n c d zs w h1 h2 (by omega)
    obtain ⟨M, hM⟩ : ∃ M : Nat, M = 1 + n := ⟨_, rfl⟩
    have HMk := Lib.hid fun base c ao W hbs ho => (show Calls Tryd.prog 15 #[.slice ao n c, .int .i64 1] W fun e w' => e = .returned (.int .i64 (M : Int)) ∧ w'.ownsRow base 9 1 (.slice ao n c) n ((mksS zs n).map Value.string) ∧ Below base W w' by rw [hM]; exact markStringS_of base n c ao zs W hzl (by omega) hbs ho)
    have HH := Lib.hid fun c ao W hr => (show Calls Tryd.prog 16 #[.slice ao n c, .int .i64 1] W fun e w' => e = .returned (.int .i64 (M : Int)) ∧ Below W.heap.size W w' by rw [hM]; exact heldStringS_of n c ao (mksS zs n) W (by omega) hr (mksS_get zs n))
    clear HSp HIm hl hM hzl hzs
    go_enter Tryd.func5, Tryd.ntmps5
    go_wp2_with (go_at_call 13; ((with_reducible refine (HS.out _).mono ?_); rintro e w1 ⟨aS, cS, rfl, ho1, hr1, hx1, hb1⟩; have RS1 := Lib.hid hr1; have XS := Lib.hid hx1; have K1 := Lib.hid hb1; clear ho1 hr1 hx1 hb1))
    go_wp2_with (go_at_call 14; ((with_reducible refine (HI.out _ K1.out).mono ?_); rintro e w2 ⟨aG, cG, rfl, ho2, hr2, hx2, hb2⟩; have OG2 := Lib.hid ho2; have RG2 := Lib.hid hr2; have RS2 := Lib.hid (RS1.out.below hb2 (Nat.le_refl _)); have Z2 := Lib.hid hb2.size; have K2 := Lib.hid (below_next K1.out hb2); clear ho2 hr2 hx2 hb2))
    go_wp2_with (go_at_call 12; ((with_reducible refine (HE.out _ _ _ _ _ RG2.out RS2.out).mono ?_); rintro e w3 ⟨rfl, m3, rfl⟩; have OG3 := Lib.hid (show (w2.drewN m3).ownsRow w1.heap.size 9 1 (.slice aG n cG) n (zs.map Value.string) from OG2.out); have Z3 := Lib.hid (show w1.heap.size ≤ (w2.drewN m3).heap.size from Z2.out); have RS3 := Lib.hid (RS2.out.quiet ⟨m3, rfl⟩); have K3 := Lib.hid (below_drewN K2.out m3)))
    go_wp2_with (go_at_call 15; ((with_reducible refine (HMk.out _ _ _ _ Z3.out OG3.out).mono ?_); rintro e w4 ⟨rfl, ho4, hb4⟩; have RG4 := Lib.hid (srow_own' ho4); have RS4 := Lib.hid (RS3.out.keep hb4 (fun a ha => (XS.out a ha).2)); have K4 := Lib.hid (K3.out.trans (hb4.mono K1.out.size)); clear ho4 hb4))
    go_wp2_with (go_at_call 16; ((with_reducible refine (HH.out _ _ _ RG4.out).mono ?_); rintro e w5 ⟨rfl, hb5⟩; have RG5 := Lib.hid (RG4.out.below hb5 (Nat.le_refl _)); have RS5 := Lib.hid (RS4.out.below hb5 (Nat.le_refl _)); have K5 := Lib.hid (below_next K4.out hb5); clear hb5))
    go_wp2_with (go_at_call 14; ((with_reducible refine (HI.out _ K5.out).mono ?_); rintro e w6 ⟨aH, cH, rfl, ho6, hr6, hx6, hb6⟩; have RH6 := Lib.hid hr6; have RS6 := Lib.hid (RS5.out.below hb6 (Nat.le_refl _)); have RG6 := Lib.hid (RG5.out.below hb6 (Nat.le_refl _)); have K6 := Lib.hid (below_next K5.out hb6); clear ho6 hr6 hx6 hb6))
    go_wp2_with (go_at_call 12; ((with_reducible refine (HE.out _ _ _ _ _ RH6.out RS6.out).mono ?_); rintro e w7 ⟨rfl, m7, rfl⟩; have RG7 := Lib.hid (RG6.out.quiet ⟨m7, rfl⟩); have K7 := Lib.hid (below_drewN K6.out m7)))
    go_wp2_with (go_at_call 16; ((with_reducible refine (HH.out _ _ _ RG7.out).mono ?_); rintro e w8 ⟨rfl, hb8⟩; have K8 := Lib.hid (below_next K7.out hb8); clear hb8))
    all_goals (go_ret; exact ⟨rfl, K8.out⟩)
  · clear htab hm
    go_enter Tryd.func5, Tryd.ntmps5
    go_wp2
    go_ret
    exact ⟨rfl, Below.refl _ _⟩

theorem own : ownKnob Tryd.prog.godebug = none := by kernel_rfl
theorem gPow : Tryd.prog.globalNamed "internal/strconv.uint64pow10" = some 1 := by kernel_rfl
theorem tPow : (Tryd.prog.globals[1]?).map (·.type) = some 87 := by kernel_rfl
theorem of_laid {W : World} (h : laidMetH Tryd.prog Rows.fnExactRecoverJournalRow.laid W) : Lib.TabIs Tryd.prog W "internal/strconv.uint64pow10" .u64 Lib.pow10Tab := by
  rw [MakeChecks.laidMetH_plain _ _ _ (by kernel_rfl)] at h
  exact Lib.tabIs_of_head gPow tPow Tryd.underlying87 Tryd.underlying81 (by kernel_rfl) (by kernel_rfl) (laidMet.tail (laidMet.tail h))
theorem maxLenCell {W : World} (h : W.ShapedOpen Tryd.prog) : ∃ m, W.cell? ⟨0, 0, none⟩ = some (.int .i64 m) :=
  cell_of_shapedOpen_int (g := 0) (zero := #[.int .i64 0]) (t := 3) h (of_decide_eq_true (by kernel_rfl)) (by kernel_rfl) rfl (by kernel_rfl) (by kernel_rfl) Tryd.underlying3

set_option maxRecDepth 100000 in
theorem lifted (os : Os) (started : os.Started) (H : Type) (enc : TypeId × Value → H) :
    ReturnsInHanded {} Tryd.checked os 5 .any (fun w args => (Rows.fnExactRecoverJournalSpec.pre enc Tryd.prog Tryd.f5 [] false w args ∧ laidMetH Tryd.prog Rows.fnExactRecoverJournalRow.laid w) ∧ sizedMet enc Tryd.prog Tryd.f5 (OpenSpec.ofChange Rows.fnExactRecoverJournalSpec) false w args)
      (Rows.fnExactRecoverJournalSpec.post enc Tryd.prog Tryd.f5 false true false false) := by
  refine returnsInHanded_of_calls own started (by kernel_rfl)
    (ChangeSpec.witness_shaped (enc := enc) (C := Tryd.checked) (os := os) (X := fun w _ => laidMetH Tryd.prog Rows.fnExactRecoverJournalRow.laid w) false (World.laidAll Tryd.prog os Rows.fnExactRecoverJournalRow.laid) #[.string ByteArray.empty] 8 (World.laidAll_os _ _ _)
      (World.shaped_of_ZipB (by kernel_rfl) (by kernel_rfl)) (by kernel_rfl) (by kernel_rfl) (by kernel_rfl)
      (by rw [MakeChecks.laidMetH_plain _ _ _ (by kernel_rfl)]; exact laidMet_laidAll _ (by kernel_rfl) (by kernel_rfl))) ?_
  intro w0 tape i _ hshape _ hok hpre _
  obtain ⟨_, _, _, fn', hfn', _, _, _, _, hval0⟩ := hok
  obtain rfl : fn' = Tryd.f5 := Option.some.inj (hfn'.symm.trans Tryd.func5)
  obtain ⟨⟨⟨ds, gs, before, hw0, hc⟩, hx⟩, hz⟩ := hpre
  have hW := DataW.Whole.of_heap (w' := w0.forCall tape i) (by rfl) hw0
  have hL : laidMetH Tryd.prog Rows.fnExactRecoverJournalRow.laid (w0.forCall tape i) := hx.of_heap (by rfl)
  generalize hWW : w0.forCall tape i = W at hval0 hW hL hshape ⊢
  generalize i.args = args at hval0 hW ⊢
  suffices hcalls : Calls Tryd.prog 5 args W fun e W' => ∃ v, e = .returned v ∧ Rows.fnExactRecoverJournalSpec.post enc Tryd.prog Tryd.f5 false true false false W args v W' by
    refine hcalls.mono fun e W' ⟨v, he, hp⟩ => ?_
    subst he
    subst hWW
    exact ChangeSpec.post_blind hp
  have hval : ∀ (j : Nat) t v, Tryd.f5.params[j]? = some t → args[j]? = some v → Value.okWide Tryd.prog W .any w0.heap.size t v := hval0
  have hW' := hW
  obtain ⟨p, q, hA0, hV, rfl, hfz, hnd⟩ := hW
  have hA : DataW.TrodAll enc Tryd.prog W 0 (fun _ => true) true Tryd.f5.params.toList args.toList ds p := hA0
  rw [Tryd.params5] at hA hval
  obtain ⟨v0, d0, rfl, rfl, h0⟩ := trodAll_one hA
  obtain ⟨rfl, rfl⟩ := trodVars_none hV
  obtain ⟨a0, rfl, rfl, rfl, wf0⟩ := open_string Tryd.underlying9 (hval 0 9 v0 rfl rfl) h0
  clear hA0 hval0
  simp only [List.append_nil] at hW'
  obtain ⟨m, hm⟩ := maxLenCell hshape
  refine (walk a0 W m wf0 hm (of_laid hL)).mono fun e W' ⟨he, hb⟩ => ?_
  subst he
  exact ⟨_, rfl, _, _, _, [], _, [], hW', trodAll_mk1 (shut_bool Tryd.underlying4 _), trodAll_mk1 (shut_string Tryd.underlying9 wf0), rfl, hb.frame _, fun h => by cases h⟩

theorem fnExactRecoverJournal_holds : Rows.FnExactRecoverJournalSaid :=
  OpenClaim.holds_of_wide 5 Tryd.f5 rfl rfl rfl rfl rfl rfl rfl ⟨rfl, rfl, rfl, rfl, rfl⟩ rfl rfl rfl rfl rfl (by kernel_rfl) Tryd.func5 (by kernel_rfl)
    (of_decide_eq_true (by kernel_rfl)) (by unfold Func.isWrapper; rw [if_neg (of_decide_eq_false (by kernel_rfl))]; exact ⟨rfl, rfl⟩)
    (fun os started H enc _ => lifted os started H enc)

theorem card_holds : Rows.FnExactRecoverJournalCardSaid :=
  Claim7.holds_tied_plain_at .later [] [.data, .data, .data] true Rows.fnExactRecoverJournalCard.stood.harness Rows.fnExactRecoverJournalCard.stood.looks
    fnExactRecoverJournal_holds (fun _ h => by cases h) (by kernel_rfl) (fun _ h => by cases h) fnExactRecoverJournal_row_tie rfl ⟨rfl, rfl⟩ (by kernel_rfl) rfl
    (fun f fn hf hfn => by
      obtain rfl : f = 5 := Option.some.inj ((show Tryd.prog.funcNamed "loop.example/g01268/laws.FnExactRecoverJournal" = some 5 by kernel_rfl).symm.trans hf) |>.symm
      obtain rfl : fn = Tryd.f5 := (Option.some.inj (Tryd.func5.symm.trans hfn)).symm
      exact ⟨by kernel_rfl, fun j t ht => by
        rw [Tryd.params5] at ht
        have hm : t ∈ [9] := by simpa using Array.mem_of_getElem? ht
        have hall : ([9].all fun u => !Tryd.prog.wantsStandIn u) = true := by kernel_rfl
        exact (show Tryd.prog.wantsStandIn t = false by simpa using List.all_eq_true.1 hall t hm)⟩)
    (by kernel_rfl)

end Go.Proofs.YtokllkngikcoiaaDoor.pFnExactRecoverJournal
