/- The law FnExactPileOfGrains is true at every input that its row speaks of. No condition beyond the given row's. -/
import Derived.Test.YtnfmfiomemcfdabPiw
import Derived.Test.YtnfmfiomemcfdabGrm
import Derived.ProofKit
import Derived.OpenShut
import Derived.Laws.Cover2
import Derived.ShutString
import Derived.ChangeOld
import Derived.Below
namespace Go.Proofs.Ytnfmfiomemcfdab.pFnExactPileOfGrains
open Go.ChangeShapes Go.WideShapes Go.ChangeAt Go.RowKit Fl
open Go.ChangeMaps (open_string shut_string)

theorem own : ownKnob Try.prog.godebug = none := by kernel_rfl
theorem laidOut : laidOutB Try.prog = true := by kernel_rfl

set_option maxHeartbeats 1600000 in
theorem walk_none (a0 : Int) (a1 a2 : Nat) (w : World)
    (hs : ∀ w, Calls Try.prog 4 #[.int .i64 a0, .float .f32 a1, .float .f32 a2] w fun e w' => e = .returned (.tuple #[.agg #[.slice none 0 0], .bool false]) ∧ Below w.heap.size w w')
    (hi : ∀ w, Calls Try.prog 5 #[.int .i64 a0, .float .f32 a1, .float .f32 a2] w fun e w' => e = .returned (.tuple #[.agg #[.slice none 0 0], .bool false]) ∧ Below w.heap.size w w') :
    Calls Try.prog 3 #[.int .i64 a0, .float .f32 a1, .float .f32 a2] w fun e w' => e = .returned (.bool true) ∧ Below w.heap.size w w' := by
  have HS := Lib.hid hs
  have HI := Lib.hid hi
  have HE := Lib.hid fun w => eqHeap_none w
  have HM := Lib.hid fun w => (show Calls Try.prog 7 #[.agg #[.slice none 0 0], .int .i64 1] w fun e w' => e = .returned (.int .i64 1) ∧ Below w.heap.size w w' from markHeap_none 1 w (by decide))
  have HH := Lib.hid fun w => (show Calls Try.prog 8 #[.agg #[.slice none 0 0], .int .i64 1] w fun e w' => e = .returned (.int .i64 1) ∧ Below w.heap.size w w' from heldHeap_none 1 w (by decide))
  clear hs hi
  go_enter Try.func3, Try.ntmps3
  go_wp2_with (go_at_call 4; ((with_reducible refine (HS.out _).mono ?_); rintro e w1 ⟨rfl, hb1⟩; have KA := Lib.hid (blk_new w1 25 #[.slice none 0 0] _ rfl); have K1 := Lib.hid (hb1.alloc hb1.size (.cells #[.slice none 0 0] 25)); clear hb1))
  go_wp2_with (go_at_call 5; ((with_reducible refine (HI.out _).mono ?_); rintro e w2 ⟨rfl, hb2⟩; have cA := (blk_next KA.out hb2).cell 0; have lA := (blk_next KA.out hb2).lt; have KB := Lib.hid (blk_new w2 25 #[.slice none 0 0] _ rfl); have KA2 := Lib.hid ((blk_next KA.out hb2).alloc (.cells #[.slice none 0 0] 25)); have K2 := Lib.hid ((below_next K1.out hb2).alloc (below_next K1.out hb2).size (.cells #[.slice none 0 0] 25)); clear hb2))
  go_wp2_with (go_at_call 6; ((with_reducible refine (HE.out _).mono ?_); rintro e w3 ⟨rfl, hb3⟩; have cB3 := (blk_next KB.out hb3).cell 0; have KB3 := Lib.hid (blk_next KB.out hb3); have KA3 := Lib.hid (blk_next KA2.out hb3); have K3 := Lib.hid (below_next K2.out hb3); clear hb3))
  go_wp2_with (go_at_call 7; ((with_reducible refine (HM.out _).mono ?_); rintro e w4 ⟨rfl, hb4⟩; have cB4 := (blk_next KB3.out hb4).cell 0; have KB4 := Lib.hid (blk_next KB3.out hb4); have KA4 := Lib.hid (blk_next KA3.out hb4); have K4 := Lib.hid (below_next K3.out hb4); clear hb4))
  go_wp2_with (go_at_call 8; ((with_reducible refine (HH.out _).mono ?_); rintro e w5 ⟨rfl, hb5⟩; have KB5 := Lib.hid (blk_next KB4.out hb5); have KA5 := Lib.hid (blk_next KA4.out hb5); have K5 := Lib.hid (below_next K4.out hb5); clear hb5))
  go_wp2_with (go_at_call 5; ((with_reducible refine (HI.out _).mono ?_); rintro e w6 ⟨rfl, hb6⟩; have cA6 := (blk_next KA5.out hb6).cell 0; have lA6 := (blk_next KA5.out hb6).lt; have KB6 := Lib.hid ((blk_next KB5.out hb6).alloc (.cells #[.slice none 0 0] 25)); have K6 := Lib.hid ((below_next K5.out hb6).alloc (below_next K5.out hb6).size (.cells #[.slice none 0 0] 25)); clear hb6))
  go_wp2_with (go_at_call 6; ((with_reducible refine (HE.out _).mono ?_); rintro e w7 ⟨rfl, hb7⟩; have cB7 := (blk_next KB6.out hb7).cell 0; have K7 := Lib.hid (below_next K6.out hb7); clear hb7))
  go_wp2_with (go_at_call 8; ((with_reducible refine (HH.out _).mono ?_); rintro e w8 ⟨rfl, hb8⟩; have K8 := Lib.hid (below_next K7.out hb8); clear hb8))
  go_ret
  exact ⟨rfl, K8.out⟩

theorem GrRow.alloc {w : World} {b : Nat} {gs : List Gr} (h : GrRow w b gs) (o : Obj) : GrRow (w.alloc o) b gs := h.below ((Below.refl w.heap.size w).alloc (Nat.le_refl _) o) (Nat.le_refl _)
theorem GrRow.next {w w' : World} {b : Nat} {gs : List Gr} (h : GrRow w b gs) (hb : Below w.heap.size w w') : GrRow w' b gs := h.below hb (Nat.le_refl _)
theorem GrRow.block {w w' : World} {b B : Nat} {gs : List Gr} (h : GrRow w b gs) (hb : Below B w w') (hB : b < B) : GrRow w' b gs := by
  intro i hi
  have key : ∀ {o : Nat} {v : Value}, w.cell? ⟨b, o, none⟩ = some v → w'.cell? ⟨b, o, none⟩ = some v := fun {o v} hc => by
    rw [hb.cell (p := ⟨b, o, none⟩) hB]; exact hc
  obtain ⟨c0, c1, c2, c3, c4, c5, c6⟩ := h i hi
  exact ⟨key c0, key c1, key c2, key c3, key c4, key c5, key c6⟩
theorem marked_all (gs : List Gr) (n : Nat) (hl : gs.length = n) : (marked gs 1 n).length = n ∧ ∀ j, j < n → (marked gs 1 n).getD j default = mkd (1 + 7 * j) := by
  refine ⟨by rw [marked_length gs 1 n (by omega), hl], fun j hj => ?_⟩
  unfold marked
  rw [List.getD_eq_getElem?_getD, List.getElem?_append_left (by simp; exact hj), List.getElem?_map, List.getElem?_range hj]
  rfl

/-- what both sides give where the row is valid -/
def GaveGs (gs : List Gr) (n : Nat) (w : World) (e : Ending) (w' : World) : Prop := ∃ b c, e = .returned (.tuple #[.agg #[.slice (some ⟨b, 0, none⟩) n c], .bool true]) ∧ w'.ownsRow w.heap.size 37 7 (.slice (some ⟨b, 0, none⟩) n c) n (gcells gs) ∧ Below w.heap.size w w'

set_option maxHeartbeats 3200000 in
theorem walk_some (a0 : Int) (a1 a2 n : Nat) (gs : List Gr) (w : World) (hl : gs.length = n) (hn : n ≤ 24) (hv : gs.all Gr.valid = true)
    (hs : ∀ w, Calls Try.prog 4 #[.int .i64 a0, .float .f32 a1, .float .f32 a2] w (GaveGs gs n w))
    (hi : ∀ w, Calls Try.prog 5 #[.int .i64 a0, .float .f32 a1, .float .f32 a2] w (GaveGs gs n w)) :
    Calls Try.prog 3 #[.int .i64 a0, .float .f32 a1, .float .f32 a2] w fun e w' => e = .returned (.bool true) ∧ Below w.heap.size w w' := by
  obtain ⟨M, hM⟩ : ∃ M : Nat, M = 1 + 7 * n := ⟨_, rfl⟩
  have HS := Lib.hid hs
  have HI := Lib.hid hi
  have HE := Lib.hid fun b1 b2 c1 c2 W h1 h2 => eqHeap_self b1 b2 n c1 c2 gs W hl h1 h2 hv hn
  have HM := Lib.hid fun base b c W ho hb => (show Calls Try.prog 7 #[.agg #[.slice (some ⟨b, 0, none⟩) n c], .int .i64 1] W fun e w' => e = .returned (.int .i64 (M : Int)) ∧
      w'.ownsRow base 37 7 (.slice (some ⟨b, 0, none⟩) n c) n (gcells (marked gs 1 n)) ∧ (∀ B w0, Below B w0 W → B ≤ b → Below B w0 w') ∧ (∀ g' t cs, Blk W g' t cs → g' ≠ b → Blk w' g' t cs) by rw [hM]; exact markHeap_of base b n c 1 gs W hl ho (by omega) hb)
  have HA := marked_all gs n hl
  have HH := Lib.hid fun b c W hr => (show Calls Try.prog 8 #[.agg #[.slice (some ⟨b, 0, none⟩) n c], .int .i64 1] W fun e w' => e = .returned (.int .i64 (M : Int)) ∧ Below W.heap.size W w' by rw [hM]; exact heldHeap_of b n c 1 (marked gs 1 n) W HA.1 hr HA.2 (by omega))
  have HL := Lib.hid hl
  have HA1 := Lib.hid HA.1
  clear hs hi hl hv hM HA
  go_enter Try.func3, Try.ntmps3
  go_wp2_with (go_at_call 4; (go_must ((with_reducible refine (HS.out _).mono ?_)); go_must (rintro e w1 ⟨bS, cS, rfl, ho1, hb1⟩); go_must (have RS1 := Lib.hid (GrRow.alloc (row_of_own ho1 HL.out) (.cells #[.slice (some ⟨bS, 0, none⟩) n cS] 25))); go_must (have lS := (ho1.lt bS rfl).2); have KA := Lib.hid (blk_new w1 25 #[.slice (some ⟨bS, 0, none⟩) n cS] _ rfl); have K1 := Lib.hid (hb1.alloc hb1.size (.cells #[.slice (some ⟨bS, 0, none⟩) n cS] 25)); clear hb1 ho1))
  go_wp2_with (go_at_call 5; ((with_reducible refine (HI.out _).mono ?_); rintro e w2 ⟨bG, cG, rfl, ho2, hb2⟩; have cA := (blk_next KA.out hb2).cell 0; have lA := (blk_next KA.out hb2).lt; have KB := Lib.hid (blk_new w2 25 #[.slice (some ⟨bG, 0, none⟩) n cG] _ rfl); have KA2 := Lib.hid ((blk_next KA.out hb2).alloc (.cells #[.slice (some ⟨bG, 0, none⟩) n cG] 25)); have K2 := Lib.hid ((below_next K1.out hb2).alloc (below_next K1.out hb2).size (.cells #[.slice (some ⟨bG, 0, none⟩) n cG] 25)); have RS2 := Lib.hid (GrRow.alloc (GrRow.next RS1.out hb2) (.cells #[.slice (some ⟨bG, 0, none⟩) n cG] 25)); have OG2 := Lib.hid (ho2.alloc (.cells #[.slice (some ⟨bG, 0, none⟩) n cG] 25)); have lG := Lib.hid (ho2.lt bG rfl); clear hb2 ho2))
  go_wp2_with (go_at_call 6; ((with_reducible refine (HE.out _ _ _ _ _ (row_of_own OG2.out HL.out) RS2.out).mono ?_); rintro e w3 ⟨rfl, hb3⟩; have cB3 := (blk_next KB.out hb3).cell 0; have KB3 := Lib.hid (blk_next KB.out hb3); have KA3 := Lib.hid (blk_next KA2.out hb3); have K3 := Lib.hid (below_next K2.out hb3); have RS3 := Lib.hid (GrRow.next RS2.out hb3); have OG3 := Lib.hid (own_below OG2.out hb3 (Nat.le_refl _)); clear hb3))
  go_wp2_with (go_at_call 7; ((with_reducible refine (HM.out _ _ _ _ OG3.out (by have h1 := KB3.out.lt; have h2 := lG.out.2; omega)).mono ?_); rintro e w4 ⟨rfl, ho4, hx4, hk4⟩; have cB4 := (hk4 _ _ _ KB3.out (by have h2 := lG.out.2; omega)).cell 0; have KB4 := Lib.hid (hk4 _ _ _ KB3.out (by have h2 := lG.out.2; omega)); have KA4 := Lib.hid (hk4 _ _ _ KA3.out (by have h2 := lG.out.1; simp at h2; omega)); have K4 := Lib.hid (hx4 _ _ K3.out (by have h2 := lG.out.1; have h3 := K1.out.size; simp at h2 h3; omega)); have RS4 := Lib.hid (GrRow.block RS3.out (hx4 (bS + 1) w3 (Below.refl _ _) (by have h2 := lG.out.1; simp at h2; omega)) (Nat.lt_succ_self _)); have RG4 := Lib.hid (row_of_own ho4 HA1.out); clear ho4 hx4 hk4))
  go_wp2_with (go_at_call 8; ((with_reducible refine (HH.out _ _ _ RG4.out).mono ?_); rintro e w5 ⟨rfl, hb5⟩; have KB5 := Lib.hid (blk_next KB4.out hb5); have KA5 := Lib.hid (blk_next KA4.out hb5); have K5 := Lib.hid (below_next K4.out hb5); have RS5 := Lib.hid (GrRow.next RS4.out hb5); have RG5 := Lib.hid (GrRow.next RG4.out hb5); clear hb5))
  go_wp2_with (go_at_call 5; ((with_reducible refine (HI.out _).mono ?_); rintro e w6 ⟨bH, cH, rfl, ho6, hb6⟩; have cA6 := (blk_next KA5.out hb6).cell 0; have lA6 := (blk_next KA5.out hb6).lt; have KB6 := Lib.hid ((blk_next KB5.out hb6).alloc (.cells #[.slice (some ⟨bH, 0, none⟩) n cH] 25)); have K6 := Lib.hid ((below_next K5.out hb6).alloc (below_next K5.out hb6).size (.cells #[.slice (some ⟨bH, 0, none⟩) n cH] 25)); have RS6 := Lib.hid (GrRow.alloc (GrRow.next RS5.out hb6) (.cells #[.slice (some ⟨bH, 0, none⟩) n cH] 25)); have RG6 := Lib.hid (GrRow.alloc (GrRow.next RG5.out hb6) (.cells #[.slice (some ⟨bH, 0, none⟩) n cH] 25)); have RH6 := Lib.hid (GrRow.alloc (row_of_own ho6 HL.out) (.cells #[.slice (some ⟨bH, 0, none⟩) n cH] 25)); clear hb6 ho6))
  go_wp2_with (go_at_call 6; ((with_reducible refine (HE.out _ _ _ _ _ RH6.out RS6.out).mono ?_); rintro e w7 ⟨rfl, hb7⟩; have cB7 := (blk_next KB6.out hb7).cell 0; have K7 := Lib.hid (below_next K6.out hb7); have RG7 := Lib.hid (GrRow.next RG6.out hb7); clear hb7))
  go_wp2_with (go_at_call 8; ((with_reducible refine (HH.out _ _ _ RG7.out).mono ?_); rintro e w8 ⟨rfl, hb8⟩; have K8 := Lib.hid (below_next K7.out hb8); clear hb8))
  go_ret
  exact ⟨rfl, K8.out⟩

theorem walk (a0 : Int) (a1 a2 : Nat) (w : World) (_b0 : -9223372036854775808 ≤ a0 ∧ a0 ≤ 9223372036854775807) (_b1 : a1 < 4294967296) (_b2 : a2 < 4294967296) :
    Calls Try.prog 3 #[.int .i64 a0, .float .f32 a1, .float .f32 a2] w fun e w' => e = .returned (.bool true) ∧ Below w.heap.size w w' := by
  cases hin : inPile a0
  · exact walk_none a0 a1 a2 w (fun w => specPile_out a0 a1 a2 w hin) (fun w => implPile_out a0 a1 a2 w hin)
  · simp only [inPile, Bool.and_eq_true, decide_eq_true_eq] at hin
    obtain ⟨h1, h2⟩ := hin
    obtain ⟨n, rfl⟩ := Int.eq_ofNat_of_zero_le (show 0 ≤ a0 by omega)
    have hs := fun w => specPile_in n a1 a2 w (by omega) (by omega)
    have hi := fun w => implPile_in n a1 a2 w (by omega) (by omega)
    have hl : (pileGs a1 a2 n).length ≤ 24 := by rw [pileGs_length]; have := pile_len a1 n (by omega); omega
    have hv : okPile a1 a2 n = true → (pileGs a1 a2 n).all Gr.valid = true := pile_valid
    generalize pileGs a1 a2 n = gs at hs hi hl hv
    cases hok : okPile a1 a2 n
    · rw [hok] at hs hi
      exact walk_none n a1 a2 w hs hi
    · rw [hok] at hs hi
      exact walk_some _ a1 a2 gs.length gs w rfl hl (hv hok) hs hi

set_option maxRecDepth 100000 in
theorem lifted (os : Os) (started : os.Started) (H : Type) (enc : TypeId × Value → H) :
    ReturnsInHanded {} Try.checked os 3 .any (Rows.fnExactPileOfGrainsSpec.pre6 enc Try.prog Try.f3 Rows.fnExactPileOfGrainsRow.domain false) (Rows.fnExactPileOfGrainsSpec.post enc Try.prog Try.f3 false true false false) := by
  refine returnsInHanded_of_change (C := Try.checked) own started (by kernel_rfl) Try.func3
    (ChangeSpec.witness6 (enc := enc) (C := Try.checked) false ⟨#[], #[.int .i64 0, .float .f32 0, .float .f32 0], []⟩ 8 (by kernel_rfl) (by kernel_rfl) (by kernel_rfl) (by kernel_rfl)) ?_
  intro W base args ds gs before hval0 hW hcnd _
  have hval : ∀ (j : Nat) t v, Try.f3.params[j]? = some t → args[j]? = some v → Value.okWide Try.prog W .any base t v := hval0
  have hW' := hW
  obtain ⟨p, q, hA0, hV, rfl, hfz, hnd⟩ := hW
  have hA : DataW.TrodAll enc Try.prog W 0 (fun _ => true) true Try.f3.params.toList args.toList ds p := hA0
  rw [Try.params3] at hA hval
  obtain ⟨v0, vs0, d0, ds0, p0, q0, hargs, rfl, rfl, h0, r0⟩ := trodAll_cons hA
  obtain ⟨v1, vs1, d1, ds1, p1, q1, rfl, rfl, rfl, h1, r1⟩ := trodAll_cons r0
  obtain ⟨v2, vs2, d2, ds2, p2, q2, rfl, rfl, rfl, h2, r2⟩ := trodAll_cons r1
  obtain ⟨rfl, rfl, rfl⟩ := trodAll_nil r2
  obtain rfl : args = #[v0, v1, v2] := by cases args; simp_all
  obtain ⟨rfl, rfl⟩ := trodVars_none hV
  obtain ⟨a0, rfl, rfl, rfl, wf0⟩ := open_int Try.underlying2 (hval 0 2 v0 rfl rfl) h0
  have b0 := bounds_i64 wf0
  obtain ⟨a1, rfl, rfl, rfl, wf1⟩ := open_float Try.underlying22 (hval 1 22 v1 rfl rfl) h1
  have b1 : a1 < 4294967296 := by simpa [Lit.wf] using wf1
  obtain ⟨a2, rfl, rfl, rfl, wf2⟩ := open_float Try.underlying22 (hval 2 22 v2 rfl rfl) h2
  have b2 : a2 < 4294967296 := by simpa [Lit.wf] using wf2
  clear hA0 hval0
  refine (walk a0 a1 a2 W b0 b1 b2).mono fun e W' ⟨he, bel⟩ => ?_
  subst he
  exact ⟨_, rfl, _, _, _, [], _, [], hW', trodAll_mk1 (shut_bool Try.underlying4 _), (trodAll_cons_mk (shut_int Try.underlying2 wf0) (trodAll_cons_mk (shut_float Try.underlying22 wf1) (trodAll_cons_mk (shut_float Try.underlying22 wf2) trodAll_mk0))), rfl, bel.frame _, fun h => by cases h⟩

theorem fnExactPileOfGrains_holds : Rows.FnExactPileOfGrainsSaid :=
  OpenClaim.holds_of_wide 3 Try.f3 rfl rfl rfl rfl rfl rfl rfl ⟨rfl, rfl, rfl, rfl, rfl⟩ rfl rfl rfl rfl rfl (by kernel_rfl) Try.func3 (by kernel_rfl)
    (of_decide_eq_true (by kernel_rfl)) (by unfold Func.isWrapper; rw [if_neg (of_decide_eq_false (by kernel_rfl))]; exact ⟨rfl, rfl⟩)
    (fun os started H enc _ => lifted os started H enc)

end Go.Proofs.Ytnfmfiomemcfdab.pFnExactPileOfGrains
