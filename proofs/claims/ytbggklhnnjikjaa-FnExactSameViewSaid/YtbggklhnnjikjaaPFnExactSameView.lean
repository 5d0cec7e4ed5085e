/- The law FnExactSameView is true at every input that its row speaks of. No condition beyond the given row's. -/
import Derived.Test.YtbggklhnnjikjaaVs
import Derived.ProofKit
import Derived.OpenShut
import Derived.Laws.Cover2
import Derived.ShutString
import Derived.ChangeOld
import Derived.Below
namespace Go.Proofs.Ytbggklhnnjikjaa.pFnExactSameView
open Go.ChangeShapes Go.WideShapes Go.ChangeAt Go.RowKit Fl
open Go.ChangeMaps (open_string shut_string)

theorem own : ownKnob Try.prog.godebug = none := by kernel_rfl
theorem laidOut : laidOutB Try.prog = true := by kernel_rfl

set_option maxRecDepth 100000 in
set_option maxHeartbeats 6400000 in
theorem walk_ok (X Y : Int) (ao : Option Addr) (n c : Nat) (zs : List Nat) (X' Y' : Int) (ao' : Option Addr) (n' c' : Nat) (zs' : List Nat) (w : World) (fr : FRow w ao n zs) (fr' : FRow w ao' n' zs') (bz : ∀ x ∈ zs, x < 4294967296) (bz' : ∀ x ∈ zs', x < 4294967296) (hl : n ≤ 1048576) (hl2 : n + n' ≤ 1048576) (r : Bool) (hr : sameV X Y zs X' Y' zs' = r) :
    Calls Try.prog 6 #[vwVal X Y ao n c, vwVal X' Y' ao' n' c'] w fun e w' => e = .returned (.bool true) ∧ Below w.heap.size w w' := by
  have hl' : n' ≤ 1048576 := by omega
  have hz0 := fun w => szView_any X Y ao n c 1048576 w (by omega) (by omega) (by omega)
  have hz1 := fun w => szView_any X' Y' ao' n' c' ((1048576 : Int) - n) w (by omega) (by omega) (by omega)
  rw [if_pos (by omega)] at hz0 hz1
  have hs0 : ¬ ((1048576 : Int) - (n : Int) < 0) := by omega
  have hs1 : ¬ ((1048576 : Int) - (n : Int) - (n' : Int) < 0) := by omega
  have HZ0 := Lib.hid hz0
  have HZ1 := Lib.hid hz1
  have hbel := ((Below.refl w.heap.size w).alloc (Nat.le_refl _) (.cells #[.int .i64 X, .int .i64 Y, .slice ao n c] 58)).alloc (by simp) (.cells #[.int .i64 X', .int .i64 Y', .slice ao' n' c'] 58)
  have HBel := Lib.hid hbel
  have hA : Blk ((w.alloc (.cells #[.int .i64 X, .int .i64 Y, .slice ao n c] 58)).alloc (.cells #[.int .i64 X', .int .i64 Y', .slice ao' n' c'] 58)) w.heap.size 58 _ := (blk_new w _ _ _ rfl).alloc _
  have hB : Blk ((w.alloc (.cells #[.int .i64 X, .int .i64 Y, .slice ao n c] 58)).alloc (.cells #[.int .i64 X', .int .i64 Y', .slice ao' n' c'] 58)) (w.heap.size + 1) 58 _ := blk_new _ _ _ _ (by simp)
  have A0 := Lib.hid hA
  have B0 := Lib.hid hB
  have F0 := Lib.hid (fr.below hbel (Nat.le_refl _))
  have E0 := Lib.hid (fr'.below hbel (Nat.le_refl _))
  have HT := Lib.hid fun w (h : FRow w ao n zs) => toView_any X Y ao n c zs w h hl
  have HT' := Lib.hid fun w (h : FRow w ao' n' zs') => toView_any X' Y' ao' n' c' zs' w h hl'
  have hS := fun b b' w (h : FRow w (some ⟨b, 0, none⟩) n zs) (h' : FRow w (some ⟨b', 0, none⟩) n' zs') => specSameView_any X Y b n n zs X' Y' b' n' n' zs' w h h' hl hl' bz bz'
  have hI := fun b b' w (h : FRow w (some ⟨b, 0, none⟩) n zs) (h' : FRow w (some ⟨b', 0, none⟩) n' zs') => sameView_any X Y b n n zs X' Y' b' n' n' zs' w h h' hl hl' bz bz'
  rw [hr] at hS hI
  have HS := Lib.hid hS
  have HI := Lib.hid hI
  have HE := Lib.hid fun b b' w (h : FRow w (some ⟨b, 0, none⟩) n zs) (h' : FRow w (some ⟨b', 0, none⟩) n zs) => eqView_self X Y (some ⟨b, 0, none⟩) (some ⟨b', 0, none⟩) n n n zs w h h' hl
  have HE' := Lib.hid fun b b' w (h : FRow w (some ⟨b, 0, none⟩) n' zs') (h' : FRow w (some ⟨b', 0, none⟩) n' zs') => eqView_self X' Y' (some ⟨b, 0, none⟩) (some ⟨b', 0, none⟩) n' n' n' zs' w h h' hl'
  clear hz0 hz1 hbel hA hB fr fr' bz bz' hl hl2 hl' hr hS hI
  unfold vwVal at *
  cases r
  all_goals
    go_enter Try.func6, Try.ntmps6
    have K0 := HBel
    go_wp2_with fail
    refine (HZ0.out _).mono ?_
    rintro e w1 ⟨rfl, hb⟩
    have K1 := Lib.hid (below_next K0.out hb)
    have A1 := Lib.hid (blk_next A0.out hb)
    have B1 := Lib.hid (blk_next B0.out hb)
    have F1 := Lib.hid (F0.out.below hb (Nat.le_refl _))
    have E1 := Lib.hid (E0.out.below hb (Nat.le_refl _))
    clear hb
    have b0 := B1.out.cell 0
    have b1 := B1.out.cell 1
    have b2 := B1.out.cell 2
    go_wp2_with fail
    refine (HZ1.out _).mono ?_
    rintro e w2 ⟨rfl, hb⟩
    have K2 := Lib.hid (below_next K1.out hb)
    have A2 := Lib.hid (blk_next A1.out hb)
    have B2 := Lib.hid (blk_next B1.out hb)
    have F2 := Lib.hid (F1.out.below hb (Nat.le_refl _))
    have E2 := Lib.hid (E1.out.below hb (Nat.le_refl _))
    clear hb b0 b1 b2
    have a0 := A2.out.cell 0
    have a1 := A2.out.cell 1
    have a2 := A2.out.cell 2
    have b0 := B2.out.cell 0
    have b1 := B2.out.cell 1
    have b2 := B2.out.cell 2
    go_wp2
    go_region_held3 (fun w' => w'.cell? ⟨w.heap.size, 0, none⟩ = some (.int .i64 X) ∧ w'.cell? ⟨w.heap.size, 1, none⟩ = some (.int .i64 Y) ∧ w'.cell? ⟨w.heap.size, 2, none⟩ = some (.slice ao n c) ∧ w'.cell? ⟨w.heap.size + 1, 0, none⟩ = some (.int .i64 X') ∧ w'.cell? ⟨w.heap.size + 1, 1, none⟩ = some (.int .i64 Y') ∧ w'.cell? ⟨w.heap.size + 1, 2, none⟩ = some (.slice ao' n' c'))
      (first | go_keep | exact ⟨a0, a1, a2, b0, b1, b2⟩ | (go_split_ands; refine ⟨?_, ?_, ?_, ?_, ?_, ?_⟩ <;> (refine cell_next hb ?_; assumption)))
      (first | (go_at_call 33; (with_reducible refine (HT.out _ (F2.out.quiet (Quiet.one _))).mono ?_); rintro e w3 ⟨g3, rfl, _, _, f, hb⟩; have A3 := Lib.hid (blk_next (blk_drewN A2.out _) hb); have B3 := Lib.hid (blk_next (blk_drewN B2.out _) hb); have K3 := Lib.hid (below_next (below_drewN K2.out _) hb); have F3 := Lib.hid ((F2.out.quiet (Quiet.one _)).below hb (Nat.le_refl _)); have E3 := Lib.hid ((E2.out.quiet (Quiet.one _)).below hb (Nat.le_refl _)); have G3 := Lib.hid f; clear f) | (go_at_call 33; (with_reducible refine (HT'.out _ E3.out).mono ?_); rintro e w4 ⟨g4, rfl, _, _, f, hb⟩; have A4 := Lib.hid (blk_next A3.out hb); have B4 := Lib.hid (blk_next B3.out hb); have K4 := Lib.hid (below_next K3.out hb); have F4 := Lib.hid (F3.out.below hb (Nat.le_refl _)); have E4 := Lib.hid (E3.out.below hb (Nat.le_refl _)); have G4 := Lib.hid (G3.out.below hb (Nat.le_refl _)); have J4 := Lib.hid f; clear f) | (go_at_call 36; (with_reducible refine (HS.out _ _ _ G4.out J4.out).mono ?_); rintro e w5 ⟨rfl, hb⟩; have A5 := Lib.hid (blk_next A4.out hb); have B5 := Lib.hid (blk_next B4.out hb); have K5 := Lib.hid (below_next K4.out hb); have F5 := Lib.hid (F4.out.below hb (Nat.le_refl _)); have E5 := Lib.hid (E4.out.below hb (Nat.le_refl _))))
    clear a0 a1 a2 b0 b1 b2
    have a0 := A5.out.cell 0
    have a1 := A5.out.cell 1
    have a2 := A5.out.cell 2
    go_wp2_with fail
    refine (HT.out _ F5.out).mono ?_
    rintro e w6 ⟨g6, rfl, _, _, f, hb⟩
    have bx := (Below.refl w6.heap.size w6).alloc (Nat.le_refl _) (.cells #[.int .i64 X, .int .i64 Y, .slice (some ⟨g6, 0, none⟩) n n] 61)
    have X6 := Lib.hid (blk_new w6 61 #[.int .i64 X, .int .i64 Y, .slice (some ⟨g6, 0, none⟩) n n] _ rfl)
    have K6 := Lib.hid (below_next (below_next K5.out hb) bx)
    have A6 := Lib.hid (blk_next (blk_next A5.out hb) bx)
    have B6 := Lib.hid (blk_next (blk_next B5.out hb) bx)
    have F6 := Lib.hid ((F5.out.below hb (Nat.le_refl _)).below bx (Nat.le_refl _))
    have E6 := Lib.hid ((E5.out.below hb (Nat.le_refl _)).below bx (Nat.le_refl _))
    have G6 := Lib.hid (f.below bx (Nat.le_refl _))
    clear hb f bx a0 a1 a2
    have b0 := B6.out.cell 0
    have b1 := B6.out.cell 1
    have b2 := B6.out.cell 2
    go_wp2_with fail
    refine (HT'.out _ E6.out).mono ?_
    rintro e w7 ⟨g7, rfl, _, _, f, hb⟩
    have bx := (Below.refl w7.heap.size w7).alloc (Nat.le_refl _) (.cells #[.int .i64 X', .int .i64 Y', .slice (some ⟨g7, 0, none⟩) n' n'] 61)
    have Z7 := Lib.hid (blk_new w7 61 #[.int .i64 X', .int .i64 Y', .slice (some ⟨g7, 0, none⟩) n' n'] _ rfl)
    have K7 := Lib.hid (below_next (below_next K6.out hb) bx)
    have A7 := Lib.hid (blk_next (blk_next A6.out hb) bx)
    have B7 := Lib.hid (blk_next (blk_next B6.out hb) bx)
    have X7 := Lib.hid (blk_next (blk_next X6.out hb) bx)
    have F7 := Lib.hid ((F6.out.below hb (Nat.le_refl _)).below bx (Nat.le_refl _))
    have E7 := Lib.hid ((E6.out.below hb (Nat.le_refl _)).below bx (Nat.le_refl _))
    have G7 := Lib.hid ((G6.out.below hb (Nat.le_refl _)).below bx (Nat.le_refl _))
    have J7 := Lib.hid (f.below bx (Nat.le_refl _))
    clear hb f bx b0 b1 b2
    have x0 := X7.out.cell 0
    have x1 := X7.out.cell 1
    have x2 := X7.out.cell 2
    have z0 := Z7.out.cell 0
    have z1 := Z7.out.cell 1
    have z2 := Z7.out.cell 2
    go_wp2_with fail
    refine (HI.out _ _ _ G7.out J7.out).mono ?_
    rintro e w8 ⟨rfl, hb⟩
    have K8 := Lib.hid (below_next K7.out hb)
    have A8 := Lib.hid (blk_next A7.out hb)
    have B8 := Lib.hid (blk_next B7.out hb)
    have X8 := Lib.hid (blk_next X7.out hb)
    have Z8 := Lib.hid (blk_next Z7.out hb)
    have F8 := Lib.hid (F7.out.below hb (Nat.le_refl _))
    have E8 := Lib.hid (E7.out.below hb (Nat.le_refl _))
    have G8 := Lib.hid (G7.out.below hb (Nat.le_refl _))
    have J8 := Lib.hid (J7.out.below hb (Nat.le_refl _))
    clear hb x0 x1 x2 z0 z1 z2
    have a0 := A8.out.cell 0
    have a1 := A8.out.cell 1
    have a2 := A8.out.cell 2
    have x0 := X8.out.cell 0
    have x1 := X8.out.cell 1
    have x2 := X8.out.cell 2
    go_wp2
    go_region_held3 (fun w' => w'.cell? ⟨w.heap.size, 0, none⟩ = some (.int .i64 X) ∧ w'.cell? ⟨w.heap.size, 1, none⟩ = some (.int .i64 Y) ∧ w'.cell? ⟨w.heap.size, 2, none⟩ = some (.slice ao n c) ∧ w'.cell? ⟨w6.heap.size, 0, none⟩ = some (.int .i64 X) ∧ w'.cell? ⟨w6.heap.size, 1, none⟩ = some (.int .i64 Y) ∧ w'.cell? ⟨w6.heap.size, 2, none⟩ = some (.slice (some ⟨g6, 0, none⟩) n n))
      (first | go_keep | exact ⟨a0, a1, a2, x0, x1, x2⟩ | (go_split_ands; refine ⟨?_, ?_, ?_, ?_, ?_, ?_⟩ <;> (refine cell_next hb ?_; assumption)))
      (first | (go_at_call 33; (with_reducible refine (HT.out _ (F8.out.quiet (Quiet.one _))).mono ?_); rintro e w9 ⟨g9, rfl, _, _, f, hb⟩; have K9 := Lib.hid (below_next (below_drewN K8.out _) hb); have B9 := Lib.hid (blk_next (blk_drewN B8.out _) hb); have Z9 := Lib.hid (blk_next (blk_drewN Z8.out _) hb); have E9 := Lib.hid ((E8.out.quiet (Quiet.one _)).below hb (Nat.le_refl _)); have J9 := Lib.hid ((J8.out.quiet (Quiet.one _)).below hb (Nat.le_refl _)); have G9 := Lib.hid ((G8.out.quiet (Quiet.one _)).below hb (Nat.le_refl _)); have R9 := Lib.hid f; clear f) | (go_at_call 35; (with_reducible refine (HE.out _ _ _ G9.out R9.out).mono ?_); rintro e w10 ⟨rfl, hb⟩; have K10 := Lib.hid (below_next K9.out hb); have B10 := Lib.hid (blk_next B9.out hb); have Z10 := Lib.hid (blk_next Z9.out hb); have E10 := Lib.hid (E9.out.below hb (Nat.le_refl _)); have J10 := Lib.hid (J9.out.below hb (Nat.le_refl _)); have G10 := Lib.hid (G9.out.below hb (Nat.le_refl _))))
    clear a0 a1 a2 x0 x1 x2
    have b0 := B10.out.cell 0
    have b1 := B10.out.cell 1
    have b2 := B10.out.cell 2
    have z0 := Z10.out.cell 0
    have z1 := Z10.out.cell 1
    have z2 := Z10.out.cell 2
    go_wp2
    go_region_held3 (fun w' => w'.cell? ⟨w.heap.size + 1, 0, none⟩ = some (.int .i64 X') ∧ w'.cell? ⟨w.heap.size + 1, 1, none⟩ = some (.int .i64 Y') ∧ w'.cell? ⟨w.heap.size + 1, 2, none⟩ = some (.slice ao' n' c') ∧ w'.cell? ⟨w7.heap.size, 0, none⟩ = some (.int .i64 X') ∧ w'.cell? ⟨w7.heap.size, 1, none⟩ = some (.int .i64 Y') ∧ w'.cell? ⟨w7.heap.size, 2, none⟩ = some (.slice (some ⟨g7, 0, none⟩) n' n'))
      (first | go_keep | exact ⟨b0, b1, b2, z0, z1, z2⟩ | (go_split_ands; refine ⟨?_, ?_, ?_, ?_, ?_, ?_⟩ <;> (refine cell_next hb ?_; assumption)))
      (first | (go_at_call 33; (with_reducible refine (HT'.out _ (E10.out.quiet (Quiet.one _))).mono ?_); rintro e w11 ⟨g11, rfl, _, _, f, hb⟩; have K11 := Lib.hid (below_next (below_drewN K10.out _) hb); have J11 := Lib.hid ((J10.out.quiet (Quiet.one _)).below hb (Nat.le_refl _)); have R11 := Lib.hid f; clear f) | (go_at_call 35; (with_reducible refine (HE'.out _ _ _ J11.out R11.out).mono ?_); rintro e w12 ⟨rfl, hb⟩; have K12 := Lib.hid (below_next K11.out hb); have J12 := Lib.hid (J11.out.below hb (Nat.le_refl _))))
    go_wp2
    go_ret
    exact ⟨rfl, K12.out⟩
theorem walk (X Y : Int) (ao : Option Addr) (n c : Nat) (zs : List Nat) (X' Y' : Int) (ao' : Option Addr) (n' c' : Nat) (zs' : List Nat) (w : World) (fr : FRow w ao n zs) (bz : ∀ x ∈ zs, x < 4294967296) (bn : n ≤ 9223372036854775807) (fr' : FRow w ao' n' zs') (bz' : ∀ x ∈ zs', x < 4294967296) (bn' : n' ≤ 9223372036854775807) :
    Calls Try.prog 6 #[vwVal X Y ao n c, vwVal X' Y' ao' n' c'] w fun e w' => e = .returned (.bool true) ∧ Below w.heap.size w w' := by
  have hbel := ((Below.refl w.heap.size w).alloc (Nat.le_refl _) (.cells #[.int .i64 X, .int .i64 Y, .slice ao n c] 58)).alloc (by simp) (.cells #[.int .i64 X', .int .i64 Y', .slice ao' n' c'] 58)
  have HBel := Lib.hid hbel
  have hB : Blk ((w.alloc (.cells #[.int .i64 X, .int .i64 Y, .slice ao n c] 58)).alloc (.cells #[.int .i64 X', .int .i64 Y', .slice ao' n' c'] 58)) (w.heap.size + 1) 58 _ := blk_new _ _ _ _ (by simp)
  have B0 := Lib.hid hB
  clear hbel hB
  by_cases hl0 : n ≤ 1048576
  · by_cases hl1 : n + n' ≤ 1048576
    · exact walk_ok X Y ao n c zs X' Y' ao' n' c' zs' w fr fr' bz bz' hl0 hl1 _ rfl
    · have hz0 := fun w => szView_any X Y ao n c 1048576 w bn (by omega) (by omega)
      have hz1 := fun w => szView_any X' Y' ao' n' c' ((1048576 : Int) - n) w bn' (by omega) (by omega)
      rw [if_pos (by omega)] at hz0
      rw [if_neg (by omega)] at hz1
      have HZ0 := Lib.hid hz0
      have HZ1 := Lib.hid hz1
      have hs0 : ¬ ((1048576 : Int) - (n : Int) < 0) := by omega
      clear hz0 hz1 bn bn' fr fr' bz bz'
      unfold vwVal at *
      go_enter Try.func6, Try.ntmps6
      go_wp2_with fail
      refine (HZ0.out _).mono ?_
      rintro e w1 ⟨rfl, hb⟩
      have K1 := Lib.hid (below_next HBel.out hb)
      have B1 := Lib.hid (blk_next B0.out hb)
      clear hb
      have b0 := B1.out.cell 0
      have b1 := B1.out.cell 1
      have b2 := B1.out.cell 2
      go_wp2_with fail
      refine (HZ1.out _).mono ?_
      rintro e w2 ⟨rfl, hb⟩
      have K2 := Lib.hid (below_next K1.out hb)
      clear hb
      go_wp2
      go_ret
      exact ⟨rfl, K2.out⟩
  · have hz0 := fun w => szView_any X Y ao n c 1048576 w bn (by omega) (by omega)
    rw [if_neg (by omega)] at hz0
    have HZ0 := Lib.hid hz0
    clear hz0 bn bn' fr fr' bz bz'
    unfold vwVal at *
    go_enter Try.func6, Try.ntmps6
    go_wp2_with fail
    refine (HZ0.out _).mono ?_
    rintro e w1 ⟨rfl, hb⟩
    have K1 := Lib.hid (below_next HBel.out hb)
    clear hb
    go_wp2
    go_ret
    exact ⟨rfl, K1.out⟩

set_option maxRecDepth 100000 in
theorem lifted (os : Os) (started : os.Started) (H : Type) (enc : TypeId × Value → H) :
    ReturnsInHanded {} Try.checked os 6 .any (Rows.fnExactSameViewSpec.pre6 enc Try.prog Try.f6 Rows.fnExactSameViewRow.domain false) (Rows.fnExactSameViewSpec.post enc Try.prog Try.f6 false true false false) := by
  refine returnsInHanded_of_change (C := Try.checked) own started (by kernel_rfl) Try.func6
    (ChangeSpec.witness6 (enc := enc) (C := Try.checked) false ⟨#[], #[.agg #[.int .i64 0, .int .i64 0, .slice none 0 0], .agg #[.int .i64 0, .int .i64 0, .slice none 0 0]], []⟩ 8 (by kernel_rfl) (by kernel_rfl) (by kernel_rfl) (by kernel_rfl)) ?_
  intro W base args ds gs before hval0 hW hcnd _
  have hval : ∀ (j : Nat) t v, Try.f6.params[j]? = some t → args[j]? = some v → Value.okWide Try.prog W .any base t v := hval0
  have hW' := hW
  obtain ⟨p, q, hA0, hV, rfl, hfz, hnd⟩ := hW
  have hA : DataW.TrodAll enc Try.prog W 0 (fun _ => true) true Try.f6.params.toList args.toList ds p := hA0
  rw [Try.params6] at hA hval
  obtain ⟨v0, vs0, d0, ds0, p0, q0, hargs, rfl, rfl, h0, r0⟩ := trodAll_cons hA
  obtain ⟨v1, vs1, d1, ds1, p1, q1, rfl, rfl, rfl, h1, r1⟩ := trodAll_cons r0
  obtain ⟨rfl, rfl, rfl⟩ := trodAll_nil r1
  obtain rfl : args = #[v0, v1] := by cases args; simp_all
  obtain ⟨rfl, rfl⟩ := trodVars_none hV
  have k0 := h0
  have lt0 : ∀ x ∈ p0, x.block < W.heap.size := by obtain ⟨m, hm⟩ := k0; exact DataW.trod_lt m _ _ _ hm
  obtain ⟨X0, Y0, ao0, n0, c0, zs0, rfl, fr0, bz0, bn0⟩ := open_view (hval 0 58 v0 rfl rfl) h0
  have k1 := h1
  have lt1 : ∀ x ∈ p1, x.block < W.heap.size := by obtain ⟨m, hm⟩ := k1; exact DataW.trod_lt m _ _ _ hm
  obtain ⟨X1, Y1, ao1, n1, c1, zs1, rfl, fr1, bz1, bn1⟩ := open_view (hval 1 58 v1 rfl rfl) h1
  clear hA0 hval0
  refine (walk X0 Y0 ao0 n0 c0 zs0 X1 Y1 ao1 n1 c1 zs1 W fr0 bz0 bn0 fr1 bz1 bn1).mono fun e W' ⟨he, bel⟩ => ?_
  subst he
  exact ⟨_, rfl, _, _, _, [], _, [], hW', trodAll_mk1 (shut_bool Try.underlying4 _), (trodAll_cons_mk (Below.trod laidOut (by kernel_rfl) (of_decide_eq_true (by kernel_rfl)) k0 bel lt0) (trodAll_cons_mk (Below.trod laidOut (by kernel_rfl) (of_decide_eq_true (by kernel_rfl)) k1 bel lt1) trodAll_mk0)), rfl, bel.frame _, fun h => by cases h⟩

theorem fnExactSameView_holds : Rows.FnExactSameViewSaid :=
  OpenClaim.holds_of_wide 6 Try.f6 rfl rfl rfl rfl rfl rfl rfl ⟨rfl, rfl, rfl, rfl, rfl⟩ rfl rfl rfl rfl rfl (by kernel_rfl) Try.func6 (by kernel_rfl)
    (of_decide_eq_true (by kernel_rfl)) (by unfold Func.isWrapper; rw [if_neg (of_decide_eq_false (by kernel_rfl))]; exact ⟨rfl, rfl⟩)
    (fun os started H enc _ => lifted os started H enc)

end Go.Proofs.Ytbggklhnnjikjaa.pFnExactSameView
