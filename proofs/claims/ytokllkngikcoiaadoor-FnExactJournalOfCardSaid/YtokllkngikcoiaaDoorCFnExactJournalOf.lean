/- The law FnExactJournalOf: true at every input, and its tied card. -/
import Derived.Test.YtokllkngikcoiaaDoorJl
import Derived.Test.YtokllkngikcoiaaDoorCards
import Derived.Test.YtokllkngikcoiaaDoorTie
import Derived.ProofKit
import Derived.LaidMore
import Derived.OpenShut
import Derived.ShutString
import Derived.Stop.Joined
import Derived.SevenTiedAt
import Derived.Lib.LaidTab
import Derived.Lib.SmallJoins
import Derived.Stop.LaidErr
import Derived.HandedShaped
import Derived.Shelf.Vars
import Derived.Lay
import Derived.Laws.Cover2
import Derived.ChangeOld
import Derived.Below
namespace Go.Proofs.YtokllkngikcoiaaDoor.pFnExactJournalOf
open Go.ChangeShapes Go.WideShapes Go.ChangeAt Go.WideMaps Go.WideElems Go.RowKit
open Go.ChangeMaps (open_string shut_string)

set_option maxHeartbeats 3200000 in
set_option maxRecDepth 100000 in
theorem walk (a0 : Option Addr) (n0 c0 : Nat) (zs : List ByteArray) (w : World) (_m : Int) (h0 : SRow w a0 n0 zs) (hn : n0 ≤ 9223372036854775807) (hsz : ∀ x ∈ zs, x.size ≤ maxLen) (_hm : w.cell? ⟨0, 0, none⟩ = some (.int .i64 _m)) (htab : PowT w) :
    Calls Tryd.prog 4 #[.slice a0 n0 c0] w fun e w' => e = .returned (.bool true) ∧ Below w.heap.size w w' := by
  have HSz := Lib.hid (szStringS_of a0 n0 c0 zs w h0 hn hsz)
  have H0 := Lib.hid h0
  have HTb := Lib.hid fun w' (h : Below w.heap.size w w') => htab.below h
  clear h0 hsz _hm htab hn
  go_enter Tryd.func4, Tryd.ntmps4
  go_wp2_with (go_at_call 8; ((with_reducible refine HSz.out.mono ?_); rintro e w1 ⟨z, rfl, rfl, hz⟩; have HZ := Lib.hid hz; clear hz))
  · go_ret
    exact ⟨rfl, Below.refl _ _⟩
  · rename_i hz0
    obtain ⟨hn1, hz1⟩ := HZ.out (by omega)
    have hm8 : n0 * 16 ≤ 140737488351232 := by omega
    have HT := Lib.hid fun ao c w h => toStringS_any ao n0 c zs w h hm8
    have HSp := fun ao c w h => specJournal_of ao n0 c zs w h hn1 hz1
    have HIm := fun ao c w h ht => journalOf_of ao n0 c zs w h hn1 hz1 ht
    have HEq := Lib.hid fun a b c d w h1 h2 => eqStringS_same a b n0 c d zs w h1 h2 (by omega)
    unfold jAns at HSp HIm
    generalize jTxt (bts zs) = S at HSp HIm
    generalize jOk (bts zs) = b at HSp HIm
    have HS := Lib.hid HSp
    have HI := Lib.hid HIm
    clear HSp HIm hn1 hz1 HZ
    go_wp2_with (go_at_call 10; ((with_reducible refine (HT.out _ _ _ H0.out).mono ?_); rintro e w1 ⟨rfl, hf1, hb1, hs1⟩; have F1 := Lib.hid hf1; have B1 := Lib.hid hb1; clear hf1 hb1))
    go_wp2_with (go_at_call 9; ((with_reducible refine (HS.out _ _ _ F1.out).mono ?_); rintro e w2 ⟨rfl, hb2⟩; have B2 := Lib.hid (B1.out.trans (hb2.mono B1.out.size)); clear hb2))
    go_wp2_with (go_at_call 10; ((with_reducible refine (HT.out _ _ _ (H0.out.below B2.out (Nat.le_refl _))).mono ?_); rintro e w3 ⟨rfl, hf3, hb3, hs3⟩; have F3 := Lib.hid hf3; have B3 := Lib.hid (B2.out.trans (hb3.mono B2.out.size)); clear hf3 hb3))
    go_wp2_with (go_at_call 11; ((with_reducible refine (HI.out _ _ _ F3.out (HTb.out _ B3.out)).mono ?_); rintro e w4 ⟨rfl, hb4⟩; have F4 := Lib.hid (F3.out.below hb4 (Nat.le_refl _)); have B4 := Lib.hid (B3.out.trans (hb4.mono B3.out.size)); clear hb4))
    go_wp2_with (go_at_call 10; ((with_reducible refine (HT.out _ _ _ (H0.out.below B4.out (Nat.le_refl _))).mono ?_); rintro e w5 ⟨rfl, hf5, hb5, hs5⟩; have F5 := Lib.hid hf5; have F45 := Lib.hid (F4.out.below hb5 (Nat.le_refl _)); have B5 := Lib.hid (B4.out.trans (hb5.mono B4.out.size)); clear hf5 hb5))
    go_wp2_with (go_at_call 12; ((with_reducible refine (HEq.out _ _ _ _ _ F45.out F5.out).mono ?_); rintro e w6 ⟨rfl, m6, rfl⟩))
    all_goals (go_ret; exact ⟨rfl, below_drewN B5.out _⟩)

theorem own : ownKnob Tryd.prog.godebug = none := by kernel_rfl
theorem laidOut : laidOutB Tryd.prog = true := by kernel_rfl
theorem gPow : Tryd.prog.globalNamed "internal/strconv.uint64pow10" = some 1 := by kernel_rfl
theorem tPow : (Tryd.prog.globals[1]?).map (·.type) = some 87 := by kernel_rfl
theorem of_laid {W : World} (h : laidMetH Tryd.prog Rows.fnExactJournalOfRow.laid W) : Lib.TabIs Tryd.prog W "internal/strconv.uint64pow10" .u64 Lib.pow10Tab := by
  rw [MakeChecks.laidMetH_plain _ _ _ (by kernel_rfl)] at h
  exact Lib.tabIs_of_head gPow tPow Tryd.underlying87 Tryd.underlying81 (by kernel_rfl) (by kernel_rfl) (laidMet.tail (laidMet.tail h))
theorem maxLenCell {W : World} (h : W.ShapedOpen Tryd.prog) : ∃ m, W.cell? ⟨0, 0, none⟩ = some (.int .i64 m) :=
  cell_of_shapedOpen_int (g := 0) (zero := #[.int .i64 0]) (t := 3) h (of_decide_eq_true (by kernel_rfl)) (by kernel_rfl) rfl (by kernel_rfl) (by kernel_rfl) Tryd.underlying3

set_option maxRecDepth 100000 in
theorem lifted (os : Os) (started : os.Started) (H : Type) (enc : TypeId × Value → H) :
    ReturnsInHanded {} Tryd.checked os 4 .any (fun w args => (Rows.fnExactJournalOfSpec.pre enc Tryd.prog Tryd.f4 [] false w args ∧ laidMetH Tryd.prog Rows.fnExactJournalOfRow.laid w) ∧ sizedMet enc Tryd.prog Tryd.f4 (OpenSpec.ofChange Rows.fnExactJournalOfSpec) false w args)
      (Rows.fnExactJournalOfSpec.post enc Tryd.prog Tryd.f4 false true false false) := by
  refine returnsInHanded_of_calls own started (by kernel_rfl)
    (ChangeSpec.witness_shaped (enc := enc) (C := Tryd.checked) (os := os) (X := fun w _ => laidMetH Tryd.prog Rows.fnExactJournalOfRow.laid w) false (World.laidAll Tryd.prog os Rows.fnExactJournalOfRow.laid) #[.slice none 0 0] 8 (World.laidAll_os _ _ _)
      (World.shaped_of_ZipB (by kernel_rfl) (by kernel_rfl)) (by kernel_rfl) (by kernel_rfl) (by kernel_rfl)
      (by rw [MakeChecks.laidMetH_plain _ _ _ (by kernel_rfl)]; exact laidMet_laidAll _ (by kernel_rfl) (by kernel_rfl))) ?_
  intro w0 tape i _ hshape _ hok hpre _
  obtain ⟨_, _, _, fn', hfn', _, _, _, _, hval0⟩ := hok
  obtain rfl : fn' = Tryd.f4 := Option.some.inj (hfn'.symm.trans Tryd.func4)
  obtain ⟨⟨⟨ds, gs, before, hw0, hc⟩, hx⟩, hz⟩ := hpre
  have hW := DataW.Whole.of_heap (w' := w0.forCall tape i) (by rfl) hw0
  have hL : laidMetH Tryd.prog Rows.fnExactJournalOfRow.laid (w0.forCall tape i) := hx.of_heap (by rfl)
  generalize hWW : w0.forCall tape i = W at hval0 hW hL hshape ⊢
  generalize i.args = args at hval0 hW ⊢
  suffices hcalls : Calls Tryd.prog 4 args W fun e W' => ∃ v, e = .returned v ∧ Rows.fnExactJournalOfSpec.post enc Tryd.prog Tryd.f4 false true false false W args v W' by
    refine hcalls.mono fun e W' ⟨v, he, hp⟩ => ?_
    subst he
    subst hWW
    exact ChangeSpec.post_blind hp
  have hval : ∀ (j : Nat) t v, Tryd.f4.params[j]? = some t → args[j]? = some v → Value.okWide Tryd.prog W .any w0.heap.size t v := hval0
  have hW' := hW
  obtain ⟨p, q, hA0, hV, rfl, hfz, hnd⟩ := hW
  have hA : DataW.TrodAll enc Tryd.prog W 0 (fun _ => true) true Tryd.f4.params.toList args.toList ds p := hA0
  rw [Tryd.params4] at hA hval
  obtain ⟨v0, vs0, d0, ds0, p0, q0, hargs, rfl, rfl, h0, r0⟩ := trodAll_cons hA
  obtain ⟨rfl, rfl, rfl⟩ := trodAll_nil r0
  obtain rfl : args = #[v0] := by cases args; simp_all
  obtain ⟨rfl, rfl⟩ := trodVars_none hV
  obtain ⟨a0, n0, c0, rfl⟩ := okWide_slice Tryd.underlying25 (hval 0 25 v0 rfl rfl)
  have k0 := h0
  have lt0 : ∀ x ∈ p0, x.block < W.heap.size := by obtain ⟨m, hm⟩ := k0; exact DataW.trod_lt m _ _ _ hm
  obtain ⟨z0, fr0, hn0, hz0⟩ := open_srow Tryd.underlying25 Tryd.underlying9 (by kernel_rfl) h0
  clear hA0 hval0
  obtain ⟨m, hm⟩ := maxLenCell hshape
  refine (walk a0 n0 c0 z0 W m fr0 hn0 hz0 hm (of_laid hL)).mono fun e W' ⟨he, bel⟩ => ?_
  subst he
  exact ⟨_, rfl, _, _, _, [], _, [], hW', trodAll_mk1 (shut_bool Tryd.underlying4 _), (trodAll_cons_mk (Below.trod laidOut (by kernel_rfl) (of_decide_eq_true (by kernel_rfl)) k0 bel lt0) trodAll_mk0), rfl, bel.frame _, fun h => by cases h⟩

theorem fnExactJournalOf_holds : Rows.FnExactJournalOfSaid :=
  OpenClaim.holds_of_wide 4 Tryd.f4 rfl rfl rfl rfl rfl rfl rfl ⟨rfl, rfl, rfl, rfl, rfl⟩ rfl rfl rfl rfl rfl (by kernel_rfl) Tryd.func4 (by kernel_rfl)
    (of_decide_eq_true (by kernel_rfl)) (by unfold Func.isWrapper; rw [if_neg (of_decide_eq_false (by kernel_rfl))]; exact ⟨rfl, rfl⟩)
    (fun os started H enc _ => lifted os started H enc)

theorem card_holds : Rows.FnExactJournalOfCardSaid :=
  Claim7.holds_tied_plain_at .later [] [.data, .data, .data] true Rows.fnExactJournalOfCard.stood.harness Rows.fnExactJournalOfCard.stood.looks
    fnExactJournalOf_holds (fun _ h => by cases h) (by kernel_rfl) (fun _ h => by cases h) fnExactJournalOf_row_tie rfl ⟨rfl, rfl⟩ (by kernel_rfl) rfl
    (fun f fn hf hfn => by
      obtain rfl : f = 4 := Option.some.inj ((show Tryd.prog.funcNamed "loop.example/g01268/laws.FnExactJournalOf" = some 4 by kernel_rfl).symm.trans hf) |>.symm
      obtain rfl : fn = Tryd.f4 := (Option.some.inj (Tryd.func4.symm.trans hfn)).symm
      exact ⟨by kernel_rfl, fun j t ht => by
        rw [Tryd.params4] at ht
        have hm : t ∈ [25] := by simpa using Array.mem_of_getElem? ht
        have hall : ([25].all fun u => !Tryd.prog.wantsStandIn u) = true := by kernel_rfl
        exact (show Tryd.prog.wantsStandIn t = false by simpa using List.all_eq_true.1 hall t hm)⟩)
    (by kernel_rfl)

end Go.Proofs.YtokllkngikcoiaaDoor.pFnExactJournalOf
