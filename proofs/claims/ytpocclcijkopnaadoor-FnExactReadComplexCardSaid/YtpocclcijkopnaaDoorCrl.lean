/- The law FnExactReadComplex: true at every input, and its tied card. -/
import Derived.Test.YtpocclcijkopnaaDoorCrm
import Derived.HandedShaped
import Derived.Shelf.Vars
import Derived.Lay
namespace Go.Proofs.YtpocclcijkopnaaDoor.pFnExactReadComplex
open Fl Go.ChangeShapes Go.WideShapes Go.ChangeAt Go.WideMaps Go.WideElems Go.RowKit
open Go.ChangeMaps (open_string shut_string)

theorem clZ_len (l : List UInt8) : (clZ l).length ≤ 256 := by
  unfold clZ
  split
  · simp
  · split
    · rename_i h1 h2
      have h3 : (parts l).length ≤ 256 := by
        unfold clOk at h2
        simp [h1] at h2
        exact h2.1
      simpa using h3
    · simp

set_option maxHeartbeats 800000 in
theorem specReadComplex_of (s : ByteArray) (w : World) (hs : s.size ≤ 1048576) :
    Calls Tryd.prog 4 #[.string s] w (ClAns (clZ s.data.toList) (clOk s.data.toList) w) := by
  have HC := Lib.hid (l01CRead_of s w hs)
  generalize clZ s.data.toList = zs at HC ⊢
  generalize clOk s.data.toList = b at HC ⊢
  go_enter Tryd.func4, Tryd.ntmps4
  go_wp2_with (go_at_call 9; (with_reducible refine HC.out.mono ?_); rintro e w' ⟨v, rfl, ho, hb⟩; have HO := Lib.hid ho; have HB := Lib.hid hb; clear ho hb)
  go_ret2
  exact ⟨v, rfl, HO.out, HB.out⟩
set_option maxHeartbeats 800000 in
theorem readComplex_of (s : ByteArray) (w : World) (m : Int) (hs : s.size ≤ 1048576) (hm : w.cell? ⟨0, 0, none⟩ = some (.int .i64 m)) (ht : Tz w) (he : ∀ w', Below w.heap.size w w' → Errs w') :
    Calls Tryd.prog 5 #[.string s] w (ClAns (clZ s.data.toList) (clOk s.data.toList) w) := by
  have HC := Lib.hid (splitComplex_of s w m hs hm ht he)
  clear hm ht he
  generalize clZ s.data.toList = zs at HC ⊢
  generalize clOk s.data.toList = b at HC ⊢
  go_enter Tryd.func5, Tryd.ntmps5
  go_wp2_with (go_at_call 10; (with_reducible refine HC.out.mono ?_); rintro e w' ⟨v, rfl, ho, hb⟩; have HO := Lib.hid ho; have HB := Lib.hid hb; clear ho hb)
  go_ret2
  exact ⟨v, rfl, HO.out, HB.out⟩

theorem crow_own' {w : World} {base n c : Nat} {ao : Option Addr} {zs : List (Nat × Nat)} (h : w.ownsRow base 29 1 (.slice ao n c) n (zs.map cval)) : CRow w ao n zs := by
  obtain ⟨ao', c', hv, hr, _⟩ := crow_own h
  obtain ⟨rfl, rfl⟩ : ao = ao' ∧ c = c' := by simpa using hv
  exact hr
/-- what both sides give, opened -/
def Got (n : Nat) (zs : List (Nat × Nat)) (ok : Bool) (w : World) (e : Ending) (w' : World) : Prop := ∃ (ao : Option Addr) (c : Nat), e = .returned (.tuple #[.slice ao n c, .bool ok]) ∧
  w'.ownsRow w.heap.size 29 1 (.slice ao n c) n (zs.map cval) ∧ CRow w' ao n zs ∧ (∀ a, ao = some a → w.heap.size ≤ a.block ∧ a.block < w'.heap.size) ∧ Below w.heap.size w w'
theorem got_of {n : Nat} {zs : List (Nat × Nat)} {ok : Bool} {w : World} {e : Ending} {w' : World} (hn : zs.length = n) (h : ClAns zs ok w e w') : Got n zs ok w e w' := by
  obtain ⟨v, rfl, ho, hb⟩ := h
  subst hn
  obtain ⟨ao, c, rfl, hr, hx⟩ := crow_own ho
  exact ⟨ao, c, rfl, ho, hr, hx, hb⟩

set_option maxHeartbeats 3200000 in
theorem walk (s : ByteArray) (w : World) (m : Int) (hm : w.cell? ⟨0, 0, none⟩ = some (.int .i64 m)) (ht : Tz w) (he : ∀ w', Below w.heap.size w w' → Errs w') :
    Calls Tryd.prog 3 #[.string s] w fun e w' => e = .returned (.bool true) ∧ Below w.heap.size w w' := by
  by_cases hs : s.size ≤ 1048576
  · have HSp := fun w' => (specReadComplex_of s w' hs)
    have HIm := fun w' (hb : Below w.heap.size w w') => readComplex_of s w' m hs (by rw [hb.cell (p := ⟨0, 0, none⟩) (World.block_lt_of_cell? w _ hm)]; exact hm) (ht.below hb (Nat.le_refl _)) (fun w2 h2 => he w2 (hb.trans (h2.mono hb.size)))
    have hs' : ¬ 1048576 < s.size := by omega
    have hn := clZ_len s.data.toList
    clear ht he hm
    generalize clZ s.data.toList = zs at HSp HIm hn
    generalize clOk s.data.toList = b at HSp HIm
    obtain ⟨n, hl⟩ : ∃ n, zs.length = n := ⟨_, rfl⟩
    rw [hl] at hn
    have HS := Lib.hid fun w' => (HSp w').mono fun e w2 h => got_of hl h
    have HI := Lib.hid fun w' hb => (HIm w' hb).mono fun e w2 h => got_of hl h
    have HE := Lib.hid fun a b c d w h1 h2 => eqComplex64S_same a b n c d zs w h1 h2 (by omega)
    have HL := Lib.hid hl
    obtain ⟨M, hM⟩ : ∃ M : Nat, M = 1 + n := ⟨_, rfl⟩
    have HMk := Lib.hid fun base c ao W ho => (show Calls Tryd.prog 7 #[.slice ao n c, .int .i64 1] W fun e w' => e = .returned (.int .i64 (M : Int)) ∧ w'.ownsRow base 29 1 (.slice ao n c) n ((mkc zs n).map cval) ∧ Below base W w' by rw [hM]; exact markComplex64S_of base n c ao zs W hl hn ho)
    have HH := Lib.hid fun c ao W hr => (show Calls Tryd.prog 8 #[.slice ao n c, .int .i64 1] W fun e w' => e = .returned (.int .i64 (M : Int)) ∧ W = w' by rw [hM]; exact heldComplex64S_of n c ao (mkc zs n) W hn hr (mkc_get zs n))
    clear HSp HIm hl hM
    go_enter Tryd.func3, Tryd.ntmps3
    go_wp2_with (go_at_call 4; ((with_reducible refine (HS.out _).mono ?_); rintro e w1 ⟨aS, cS, rfl, ho1, hr1, hx1, hb1⟩; have RS1 := Lib.hid hr1; have XS := Lib.hid hx1; have K1 := Lib.hid hb1; clear ho1 hr1 hx1 hb1))
    go_wp2_with (go_at_call 5; ((with_reducible refine (HI.out _ K1.out).mono ?_); rintro e w2 ⟨aG, cG, rfl, ho2, hr2, hx2, hb2⟩; have OG2 := Lib.hid ho2; have RG2 := Lib.hid hr2; have RS2 := Lib.hid (RS1.out.below hb2 (Nat.le_refl _)); have K2 := Lib.hid (below_next K1.out hb2); clear ho2 hr2 hx2 hb2))
    go_wp2_with (go_at_call 6; ((with_reducible refine (HE.out _ _ _ _ _ RG2.out RS2.out).mono ?_); rintro e w3 ⟨rfl, m3, rfl⟩; have OG3 := Lib.hid (show (w2.drewN m3).ownsRow w1.heap.size 29 1 (.slice aG n cG) n (zs.map cval) from OG2.out); have RS3 := Lib.hid (RS2.out.quiet ⟨m3, rfl⟩); have K3 := Lib.hid (below_drewN K2.out m3)))
    go_wp2_with (go_at_call 7; ((with_reducible refine (HMk.out _ _ _ _ OG3.out).mono ?_); rintro e w4 ⟨rfl, ho4, hb4⟩; have RG4 := Lib.hid (crow_own' ho4); have RS4 := Lib.hid (RS3.out.keep hb4 (fun a ha => (XS.out a ha).2)); have K4 := Lib.hid (K3.out.trans (hb4.mono K1.out.size)); clear ho4 hb4))
    go_wp2_with (go_at_call 8; ((with_reducible refine (HH.out _ _ _ RG4.out).mono ?_); rintro e w5 ⟨rfl, rfl⟩))
    go_wp2_with (go_at_call 5; ((with_reducible refine (HI.out _ K4.out).mono ?_); rintro e w6 ⟨aH, cH, rfl, ho6, hr6, hx6, hb6⟩; have RH6 := Lib.hid hr6; have RS6 := Lib.hid (RS4.out.below hb6 (Nat.le_refl _)); have RG6 := Lib.hid (RG4.out.below hb6 (Nat.le_refl _)); have K6 := Lib.hid (below_next K4.out hb6); clear ho6 hr6 hx6 hb6))
    go_wp2_with (go_at_call 6; ((with_reducible refine (HE.out _ _ _ _ _ RH6.out RS6.out).mono ?_); rintro e w7 ⟨rfl, m7, rfl⟩; have RG7 := Lib.hid (RG6.out.quiet ⟨m7, rfl⟩); have K7 := Lib.hid (below_drewN K6.out m7)))
    go_wp2_with (go_at_call 8; ((with_reducible refine (HH.out _ _ _ RG7.out).mono ?_); rintro e w8 ⟨rfl, rfl⟩))
    all_goals (go_ret; exact ⟨rfl, K7.out⟩)
  · clear ht he hm
    go_enter Tryd.func3, Tryd.ntmps3
    go_wp2
    go_ret
    exact ⟨rfl, Below.refl _ _⟩
theorem own : ownKnob Tryd.prog.godebug = none := by kernel_rfl
def db64 : List Int := [0, 1, 56, 2, 57, 49, 28, 3, 61, 58, 42, 50, 38, 29, 17, 4, 62, 47, 59, 36, 45, 43, 51, 22, 53, 39, 33, 30, 24, 18, 12, 5, 63, 55, 48, 27, 60, 41, 37, 16, 46, 35, 44, 21, 52, 32, 23, 11, 54, 26, 40, 15, 34, 20, 31, 10, 25, 14, 19, 9, 13, 8, 7, 6]
theorem gDb : Tryd.prog.globalNamed "math/bits.deBruijn64tab" = some 8 := by kernel_rfl
theorem tDb : (Tryd.prog.globals[8]?).map (·.type) = some 117 := by kernel_rfl
theorem gSyn : Tryd.prog.globalNamed "strconv.ErrSyntax" = some 2 := by kernel_rfl
theorem tSyn : (Tryd.prog.globals[2]?).map (·.type) = some 50 := by kernel_rfl
theorem gRan : Tryd.prog.globalNamed "strconv.ErrRange" = some 3 := by kernel_rfl
theorem tRan : (Tryd.prog.globals[3]?).map (·.type) = some 50 := by kernel_rfl
theorem star : "*" ++ "errors.errorString" = "*errors.errorString" := by decide
theorem rowE (u : TypeId) (h : Tryd.prog.typeName? 3 u = some "*errors.errorString") : u = 104 :=
  typeName_ptr_named (nm := "errors.errorString") (by rw [star]; kernel_rfl) (by kernel_rfl) (by decide) u (by rw [star]; exact h)
theorem of_laid {W : World} (h : laidMetH Tryd.prog Rows.fnExactReadComplexRow.laid W) : Tz W ∧ ∀ w', Below W.heap.size W w' → Errs w' := by
  rw [MakeChecks.laidMetH_plain _ _ _ (by kernel_rfl)] at h
  have h2 := (laidMet.tail (laidMet.tail h))
  have h1 := laidMet.tail h
  have ht : Lib.TabIs Tryd.prog W "math/bits.deBruijn64tab" .u8 db64 := Lib.tabIs_of_head gDb tDb Tryd.underlying117 Tryd.underlying5 (by kernel_rfl) (by kernel_rfl) h1
  refine ⟨ht.cell gDb 15 (by decide), ?_⟩
  obtain ⟨a0, s0, hv0, -, -, -⟩ := laid_sentinel h2.tail.tail gRan tRan Tryd.underlying50 rowE Tryd.underlying104 Tryd.underlying106 rfl rfl Tryd.underlying9 (by kernel_rfl) (by kernel_rfl)
  obtain ⟨a1, s1, hv1, -, -, -⟩ := laid_sentinel h2.tail.tail.tail gSyn tSyn Tryd.underlying50 rowE Tryd.underlying104 Tryd.underlying106 rfl rfl Tryd.underlying9 (by kernel_rfl) (by kernel_rfl)
  exact fun w' hb => ⟨_, _, _, _, Joins.var_stays gSyn hv1 hb (Nat.le_refl _), Joins.var_stays gRan hv0 hb (Nat.le_refl _)⟩

theorem maxLenCell {W : World} (h : W.ShapedOpen Tryd.prog) : ∃ m, W.cell? ⟨0, 0, none⟩ = some (.int .i64 m) :=
  cell_of_shapedOpen_int (g := 0) (zero := #[.int .i64 0]) (t := 3) h (of_decide_eq_true (by kernel_rfl)) (by kernel_rfl) rfl (by kernel_rfl) (by kernel_rfl) Tryd.underlying3

set_option maxRecDepth 100000 in
theorem lifted (os : Os) (started : os.Started) (H : Type) (enc : TypeId × Value → H) :
    ReturnsInHanded {} Tryd.checked os 3 .any (fun w args => (Rows.fnExactReadComplexSpec.pre enc Tryd.prog Tryd.f3 [] false w args ∧ laidMetH Tryd.prog Rows.fnExactReadComplexRow.laid w) ∧ sizedMet enc Tryd.prog Tryd.f3 (OpenSpec.ofChange Rows.fnExactReadComplexSpec) false w args)
      (Rows.fnExactReadComplexSpec.post enc Tryd.prog Tryd.f3 false true false false) := by
  refine returnsInHanded_of_calls own started (by kernel_rfl)
    (ChangeSpec.witness_shaped (enc := enc) (C := Tryd.checked) (os := os) (X := fun w _ => laidMetH Tryd.prog Rows.fnExactReadComplexRow.laid w) false (World.laidAll Tryd.prog os Rows.fnExactReadComplexRow.laid) #[.string ByteArray.empty] 8 (World.laidAll_os _ _ _)
      (World.shaped_of_ZipB (by kernel_rfl) (by kernel_rfl)) (by kernel_rfl) (by kernel_rfl) (by kernel_rfl)
      (by rw [MakeChecks.laidMetH_plain _ _ _ (by kernel_rfl)]; exact laidMet_laidAll _ (by kernel_rfl) (by kernel_rfl))) ?_
  intro w0 tape i _ hshape _ hok hpre _
  obtain ⟨_, _, _, fn', hfn', _, _, _, _, hval0⟩ := hok
  obtain rfl : fn' = Tryd.f3 := Option.some.inj (hfn'.symm.trans Tryd.func3)
  obtain ⟨⟨⟨ds, gs, before, hw0, hc⟩, hx⟩, hz⟩ := hpre
  have hW := DataW.Whole.of_heap (w' := w0.forCall tape i) (by rfl) hw0
  have hL : laidMetH Tryd.prog Rows.fnExactReadComplexRow.laid (w0.forCall tape i) := hx.of_heap (by rfl)
  generalize hWW : w0.forCall tape i = W at hval0 hW hL hshape ⊢
  generalize i.args = args at hval0 hW ⊢
  suffices hcalls : Calls Tryd.prog 3 args W fun e W' => ∃ v, e = .returned v ∧ Rows.fnExactReadComplexSpec.post enc Tryd.prog Tryd.f3 false true false false W args v W' by
    refine hcalls.mono fun e W' ⟨v, he, hp⟩ => ?_
    subst he
    subst hWW
    exact ChangeSpec.post_blind hp
  have hval : ∀ (j : Nat) t v, Tryd.f3.params[j]? = some t → args[j]? = some v → Value.okWide Tryd.prog W .any w0.heap.size t v := hval0
  have hW' := hW
  obtain ⟨p, q, hA0, hV, rfl, hfz, hnd⟩ := hW
  have hA : DataW.TrodAll enc Tryd.prog W 0 (fun _ => true) true Tryd.f3.params.toList args.toList ds p := hA0
  rw [Tryd.params3] at hA hval
  obtain ⟨v0, d0, rfl, rfl, h0⟩ := trodAll_one hA
  obtain ⟨rfl, rfl⟩ := trodVars_none hV
  obtain ⟨a0, rfl, rfl, rfl, wf0⟩ := open_string Tryd.underlying9 (hval 0 9 v0 rfl rfl) h0
  clear hA0 hval0
  simp only [List.append_nil] at hW'
  obtain ⟨m, hm⟩ := maxLenCell hshape
  refine (walk a0 W m hm (of_laid hL).1 (of_laid hL).2).mono fun e W' ⟨he, hb⟩ => ?_
  subst he
  exact ⟨_, rfl, _, _, _, [], _, [], hW', trodAll_mk1 (shut_bool Tryd.underlying4 _), trodAll_mk1 (shut_string Tryd.underlying9 wf0), rfl, hb.frame _, fun h => by cases h⟩

theorem fnExactReadComplex_holds : Rows.FnExactReadComplexSaid :=
  OpenClaim.holds_of_wide 3 Tryd.f3 rfl rfl rfl rfl rfl rfl rfl ⟨rfl, rfl, rfl, rfl, rfl⟩ rfl rfl rfl rfl rfl (by kernel_rfl) Tryd.func3 (by kernel_rfl)
    (of_decide_eq_true (by kernel_rfl)) (by unfold Func.isWrapper; rw [if_neg (of_decide_eq_false (by kernel_rfl))]; exact ⟨rfl, rfl⟩)
    (fun os started H enc _ => lifted os started H enc)

theorem card_holds : Rows.FnExactReadComplexCardSaid :=
  Claim7.holds_tied_plain_at .later [] [.data, .data, .data, .data, .sentinel, .sentinel, .pinned] true Rows.fnExactReadComplexCard.stood.harness true
    fnExactReadComplex_holds (fun _ h => by cases h) (by kernel_rfl) (fun _ h => by cases h) fnExactReadComplex_row_tie rfl ⟨rfl, rfl⟩ (by kernel_rfl) rfl
    (fun f fn hf hfn => by
      obtain rfl : f = 3 := Option.some.inj ((show Tryd.prog.funcNamed "loop.example/g01268/laws.FnExactReadComplex" = some 3 by kernel_rfl).symm.trans hf) |>.symm
      obtain rfl : fn = Tryd.f3 := (Option.some.inj (Tryd.func3.symm.trans hfn)).symm
      exact ⟨by kernel_rfl, fun j t ht => by
        rw [Tryd.params3] at ht
        have hm : t ∈ [9] := by simpa using Array.mem_of_getElem? ht
        have hall : ([9].all fun u => !Tryd.prog.wantsStandIn u) = true := by kernel_rfl
        exact (show Tryd.prog.wantsStandIn t = false by simpa using List.all_eq_true.1 hall t hm)⟩)
    (by kernel_rfl)

end Go.Proofs.YtpocclcijkopnaaDoor.pFnExactReadComplex
