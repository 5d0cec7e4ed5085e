/- The law FnExactVoidsOf is true at every input that its row speaks of. No condition beyond the given row's. -/
import Derived.Test.YtkgijboahjiodaaVog
import Derived.ProofKit
import Derived.OpenShut
import Derived.Laws.Cover2
import Derived.ShutString
import Derived.ChangeOld
import Derived.Below
namespace Go.Proofs.Ytkgijboahjiodaa.pFnExactVoidsOf
open Go.ChangeShapes Go.WideShapes Go.ChangeAt Go.RowKit Fl
open Go.ChangeMaps (open_string shut_string)

theorem own : ownKnob Try.prog.godebug = none := by kernel_rfl
theorem laidOut : laidOutB Try.prog = true := by kernel_rfl

set_option maxRecDepth 100000 in
set_option maxHeartbeats 6400000 in
theorem walk (X Y : Int) (ao : Option Addr) (n c : Nat) (zs : List Nat) (lv : Nat) (w : World) (fr : FRow w ao n zs) (_bz : ∀ x ∈ zs, x < 4294967296) (bn : n ≤ 9223372036854775807) (_bl : lv < 4294967296) :
    Calls Try.prog 4 #[vwVal X Y ao n c, .float .f32 lv] w fun e w' => e = .returned (.bool true) ∧ Below w.heap.size w w' := by
  have HZ := Lib.hid fun w => szView_any X Y ao n c 1048576 w bn (by omega) (by omega)
  have hbel := (Below.refl w.heap.size w).alloc (Nat.le_refl _) (.cells #[.int .i64 X, .int .i64 Y, .slice ao n c] 51)
  have HBel := Lib.hid hbel
  have HF := Lib.hid (fr.below hbel (Nat.le_refl _))
  have HK := Lib.hid (blk_new w 51 #[.int .i64 X, .int .i64 Y, .slice ao n c] _ rfl)
  have HZl := Lib.hid fr.len
  clear hbel fr
  by_cases hl : n ≤ 1048576
  · have hz := HZ.out
    rw [if_pos (by omega)] at hz
    have HZ' := Lib.hid hz
    have hneg : ¬ ((1048576 : Int) - (n : Int) < 0) := by omega
    clear hz HZ
    have HT := Lib.hid fun w (h : FRow w ao n zs) => toView_own X Y ao n c zs w h hl
    have hS := fun b w (h : FRow w (some ⟨b, 0, none⟩) n zs) => (specVoidsOf_any X Y b n n zs lv w h hl).mono (fun _ _ h => gave_of HZl.out h)
    have hI := fun b w (h : FRow w (some ⟨b, 0, none⟩) n zs) => (voidsOf_any X Y b n n zs lv w h hl).mono (fun _ _ h => gave_of HZl.out h)
    have HE := Lib.hid fun b b' w (h : FRow w (some ⟨b, 0, none⟩) n zs) (h' : FRow w (some ⟨b', 0, none⟩) n zs) => eqView_self X Y (some ⟨b, 0, none⟩) (some ⟨b', 0, none⟩) n n n zs w h h' hl
    have HS := Lib.hid hS
    have HI := Lib.hid hI
    have hlm : (zs.map (Value.float .f32)).length = n := by rw [List.length_map]; exact HZl.out
    have HM := Lib.hid fun base b w (ho : w.ownsRow base 29 1 (.slice (some ⟨b, 0, none⟩) n n) n (zs.map (Value.float .f32))) => markView_any X Y base b n n (zs.map (Value.float .f32)) w hl hlm ho
    clear hS hI hlm
    generalize okView X Y zs = r at HS HI
    generalize hW : w.alloc (.cells #[.int .i64 X, .int .i64 Y, .slice ao n c] 51) = W1 at HBel HF HK
    have HW := Lib.hid hW
    clear hW
    unfold vwVal at *
    cases r
    all_goals
      go_enter Try.func4, Try.ntmps4
      go_wp2_with fail
      rw [HW.out]
      refine (HZ'.out _).mono ?_
      rintro e w1 ⟨rfl, hb⟩
      have J1 := Lib.hid hb
      have a0 := (HK.out.below hb HK.out.lt).cell 0
      have a1 := (HK.out.below hb HK.out.lt).cell 1
      have a2 := (HK.out.below hb HK.out.lt).cell 2
      clear hb
      go_wp2_with fail
      refine (HT.out _ (HF.out.below J1.out (Nat.le_refl _))).mono ?_
      rintro e w2 ⟨b1, rfl, _, _, f, _, hb⟩
      have J2 := Lib.hid (below_next J1.out hb)
      have G2 := Lib.hid f
      clear hb f a0 a1 a2
      go_wp2_with fail
      refine (HS.out _ _ G2.out).mono ?_
      rintro e w3 ⟨hb, aw, cw, ms, m, rfl, hm, hV, ho⟩
      have J3 := Lib.hid (below_next J2.out hb)
      have HV := Lib.hid hV
      obtain ⟨_, _, e9, ir, ib⟩ := irow_own ho
      injection e9 with e91 e92 e93
      subst e91
      clear e92 e93
      have S3 := Lib.hid ir
      have SB := Lib.hid fun a h => (ib a h).2
      have a0 := (HK.out.below J3.out HK.out.lt).cell 0
      have a1 := (HK.out.below J3.out HK.out.lt).cell 1
      have a2 := (HK.out.below J3.out HK.out.lt).cell 2
      have hmm : ((m : Int) != (m : Int)) = false := by simp
      clear hb hV ho ir ib G2
      go_wp2_with fail
      refine (HT.out _ (HF.out.below J3.out (Nat.le_refl _))).mono ?_
      rintro e w4 ⟨b4, rfl, hb4, hb4', f, ho, hb⟩
      have bx := (Below.refl w4.heap.size w4).alloc (Nat.le_refl _) (.cells #[.int .i64 X, .int .i64 Y, .slice (some ⟨b4, 0, none⟩) n n] 55)
      have X4 := Lib.hid (blk_new w4 55 #[.int .i64 X, .int .i64 Y, .slice (some ⟨b4, 0, none⟩) n n] _ rfl)
      have J4 := Lib.hid (below_next (below_next J3.out hb) bx)
      have S4 := Lib.hid ((S3.out.below hb (Nat.le_refl _)).below bx (Nat.le_refl _))
      have G4 := Lib.hid (f.below bx (Nat.le_refl _))
      have O4 := Lib.hid (own_below ho bx (Nat.le_refl _))
      have hsz : (w4.alloc (.cells #[.int .i64 X, .int .i64 Y, .slice (some ⟨b4, 0, none⟩) n n] 55)).heap.size = w4.heap.size + 1 := by simp
      have HSz := Lib.hid hsz
      clear hb f bx ho a0 a1 a2 S3 hsz
      go_wp2_with fail
      refine (HI.out _ _ G4.out).mono ?_
      rintro e w5 ⟨hb, ag, cg, ms', m', rfl, _, hV, ho⟩
      obtain ⟨rfl, rfl⟩ := HV.out.uniq hV
      have J5 := Lib.hid (below_next J4.out hb)
      have S5 := Lib.hid (S4.out.below hb (Nat.le_refl _))
      have G5 := Lib.hid (G4.out.below hb (Nat.le_refl _))
      have O5 := Lib.hid (own_below O4.out hb (Nat.le_refl _))
      have X5 := Lib.hid (blk_next X4.out hb)
      have P5 := Lib.hid ho
      have hbs := HSz.out
      generalize (w4.alloc (.cells #[.int .i64 X, .int .i64 Y, .slice (some ⟨b4, 0, none⟩) n n] 55)).heap.size = base at P5 ho hbs
      have HBs := Lib.hid hbs
      have hba : w4.heap.size < base := by omega
      have hib : ∀ (W : World), W.ownsRow base 2 1 (.slice ag ms.length cg) ms.length (ms.map (Value.int .i64)) → IRow W ag ms.length ms := fun W h => by
        obtain ⟨_, _, e9, ir, _⟩ := irow_own h
        injection e9 with e91 e92 e93
        subst e91
        exact ir
      have HIb := Lib.hid hib
      have HQ := Lib.hid fun W (h : IRow W ag ms.length ms) (h' : IRow W aw ms.length ms) => eqInt64S_same ag aw ms.length cg cw ms W h h' (by omega)
      clear hb hV ho G4 S4 O4 X4 J4 hib hbs
      go_wp2_with fail
      refine (HQ.out _ (HIb.out _ P5.out) S5.out).mono ?_
      rintro e w6 ⟨rfl, q, rfl⟩
      have J6 := Lib.hid (below_drewN J5.out q)
      have S6 := Lib.hid (S5.out.quiet_ q)
      have G6 := Lib.hid (G5.out.quiet ⟨q, rfl⟩)
      have O6 := Lib.hid (own_below O5.out (below_drewN (Below.refl _ w5) q) (Nat.le_refl _))
      have P6 := Lib.hid (own_below P5.out (below_drewN (Below.refl _ w5) q) (Nat.le_refl _))
      have X6 := Lib.hid (blk_drewN X5.out q)
      clear J5 S5 G5 O5 P5 X5
      generalize w5.drewN q = w6 at J6 S6 G6 O6 P6 X6 ⊢
      have x0 := X6.out.cell 0
      have x1 := X6.out.cell 1
      have x2 := X6.out.cell 2
      have a0 := (HK.out.below J6.out HK.out.lt).cell 0
      have a1 := (HK.out.below J6.out HK.out.lt).cell 1
      have a2 := (HK.out.below J6.out HK.out.lt).cell 2
      go_wp2_with fail
      go_cut [59] (fun s59 wx => s59 = .bool false ∧ Below w6.heap.size w6 wx)
      case first =>
        have F6 := Lib.hid (HF.out.below J6.out (Nat.le_refl _))
        clear HZ' HS HI HM HQ HIb O6 P6 S6 hneg hmm
        go_region_with (first | (go_at_call 21; go_loud (refine (HT.out _ (F6.out.quiet (Quiet.one _))).mono ?_); rintro e w7 ⟨b7, rfl, _, _, f, _, hb⟩; have G7 := Lib.hid f; have K7 := Lib.hid (below_next (below_drewN (Below.refl w6.heap.size w6) 1) hb); have H7 := Lib.hid ((G6.out.quiet (Quiet.one _)).below hb (Nat.le_refl _)); have X7 := Lib.hid (blk_next (blk_drewN X6.out 1) hb); have y0 := X7.out.cell 0; have y1 := X7.out.cell 1; have y2 := X7.out.cell 2; clear hb f) | (go_at_call 24; (with_reducible refine (HE.out _ _ _ H7.out G7.out).mono ?_); rintro e w8 ⟨rfl, hb⟩; have K8 := Lib.hid (below_next K7.out hb); clear hb))
        all_goals
          go_wp2_with fail
          go_meet
          case rel => exact ⟨rfl, K8.out⟩
      case rest =>
      obtain ⟨rfl, hb⟩ := hcut
      have J7 := Lib.hid (below_next J6.out hb)
      have S7 := Lib.hid (S6.out.below hb (Nat.le_refl _))
      have O7 := Lib.hid (own_below O6.out hb (Nat.le_refl _))
      have P7 := Lib.hid (own_below P6.out hb (Nat.le_refl _))
      have X7 := Lib.hid (blk_next X6.out hb)
      have x0 := X7.out.cell 0
      have x1 := X7.out.cell 1
      have x2 := X7.out.cell 2
      have hb9 : b4 < base := by omega
      have hs9 := J3.out.size
      have HB9 := Lib.hid hb9
      clear hb J6 S6 O6 P6 X6 a0 a1 a2 HE
      go_wp2_with fail
      refine (HM.out _ _ _ O7.out).mono ?_
      rintro e w8 ⟨rfl, hbu⟩
      have hsb : ∀ a, aw = some a → a.block ≠ b4 := fun a ha => by have := SB.out a ha; omega
      have hJ8 : Below W1.heap.size W1 w8 := hbu.below J7.out J7.out.size (Nat.le_trans hs9 hb4)
      have J8 := Lib.hid hJ8
      have S8 := Lib.hid (S7.out.but hbu hsb)
      have P8 := Lib.hid (hbu.own P7.out HB9.out)
      clear hbu hsb hJ8 J7 S7 O7 P7 X7 x0 x1 x2 HM
      have hk9 : ¬ (((1 + n : Nat) : Int) < 0) := by omega
      go_wp2_with fail
      refine (HQ.out _ (HIb.out _ P8.out) S8.out).mono ?_
      rintro e w9 ⟨rfl, q, rfl⟩
      have J9 := Lib.hid (below_drewN J8.out q)
      have S9 := Lib.hid (S8.out.quiet_ q)
      have P9 := Lib.hid (own_below P8.out (below_drewN (Below.refl _ w8) q) (Nat.le_refl _))
      clear J8 S8 P8
      generalize w8.drewN q = w9 at J9 S9 P9 ⊢
      go_wp2_with fail
      refine (markInt64S_of base ms.length cg ag ms w9 rfl (by omega) P9.out).mono ?_
      rintro e w10 ⟨rfl, ho, hb⟩
      have hbw : W1.heap.size ≤ base := by have := J3.out.size; omega
      have J10 := Lib.hid (J9.out.trans (hb.mono hbw))
      have S10 := Lib.hid (S9.out.keep hb (fun a ha => by have := SB.out a ha; omega))
      have P10 := Lib.hid ho
      have hrow : ∀ W, W.ownsRow base 2 1 (.slice ag ms.length cg) ms.length ((mks ms ms.length).map (Value.int .i64)) → IRow W ag ms.length (mks ms ms.length) := fun W h => by
        obtain ⟨_, _, e9, ir, _⟩ := irow_own h
        injection e9 with e91 e92 e93
        subst e91
        exact ir
      have HRw := Lib.hid hrow
      have HHd := Lib.hid fun W (h : IRow W ag ms.length (mks ms ms.length)) => heldInt64S_of ms.length cg ag (mks ms ms.length) W (by omega) h (fun j hj => mks_get ms ms.length j hj)
      have hk10 : ¬ (((1 + ms.length : Nat) : Int) < 0) := by omega
      have hk11 : (((1 + ms.length : Nat) : Int) != ((1 + ms.length : Nat) : Int)) = false := by simp
      generalize ((1 + ms.length : Nat) : Int) = mk at HHd hk10 hk11 ⊢
      clear hb ho J9 S9 P9 hrow
      go_wp2_with fail
      refine (HHd.out _ (HRw.out _ P10.out)).mono ?_
      rintro e w11 ⟨rfl, rfl⟩
      have a0 := (HK.out.below J10.out HK.out.lt).cell 0
      have a1 := (HK.out.below J10.out HK.out.lt).cell 1
      have a2 := (HK.out.below J10.out HK.out.lt).cell 2
      go_wp2_with fail
      refine (HT.out _ (HF.out.below J10.out (Nat.le_refl _))).mono ?_
      rintro e w12 ⟨b12, rfl, _, _, f, _, hb⟩
      have J12 := Lib.hid (below_next J10.out hb)
      have S12 := Lib.hid (S10.out.below hb (Nat.le_refl _))
      have P12 := Lib.hid (own_below P10.out hb (Nat.le_refl _))
      have G12 := Lib.hid f
      clear hb f J10 S10 P10 a0 a1 a2
      go_wp2_with fail
      refine (HI.out _ _ G12.out).mono ?_
      rintro e w13 ⟨hb, ah, ch, ms', m', rfl, _, hV, ho⟩
      obtain ⟨rfl, rfl⟩ := HV.out.uniq hV
      obtain ⟨_, _, e9, ir, _⟩ := irow_own ho
      injection e9 with e91 e92 e93
      subst e91
      clear e92 e93
      have J13 := Lib.hid (below_next J12.out hb)
      have S13 := Lib.hid (S12.out.below hb (Nat.le_refl _))
      have P13 := Lib.hid (own_below P12.out hb (Nat.le_refl _))
      have I13 := Lib.hid ir
      have HQ2 := Lib.hid fun W (h : IRow W ah ms.length ms) (h' : IRow W aw ms.length ms) => eqInt64S_same ah aw ms.length ch cw ms W h h' (by omega)
      clear hb hV ho ir G12 J12 S12 P12 HQ
      go_wp2_with fail
      refine (HQ2.out _ I13.out S13.out).mono ?_
      rintro e w14 ⟨rfl, q, rfl⟩
      have J14 := Lib.hid (below_drewN J13.out q)
      have P14 := Lib.hid (own_below P13.out (below_drewN (Below.refl _ w13) q) (Nat.le_refl _))
      clear J13 S13 P13 I13 HQ2
      generalize w13.drewN q = w14 at J14 P14 ⊢
      go_wp2_with fail
      refine (HHd.out _ (HRw.out _ P14.out)).mono ?_
      rintro e w15 ⟨rfl, rfl⟩
      go_wp2_with fail
      go_ret
      refine ⟨rfl, ?_⟩
      have h9 := J14.out.size
      have h8 := J14.out
      rw [← HW.out] at h8
      exact (((Below.refl w.heap.size w).alloc (Nat.le_refl _) _).trans (h8.mono (by simp)))
  · have hz := HZ.out
    rw [if_neg (by omega)] at hz
    have HZ' := Lib.hid hz
    clear hz HZ HF hl
    unfold vwVal at *
    go_enter Try.func4, Try.ntmps4
    go_wp2_with (go_at_call 19; (with_reducible refine (HZ'.out _).mono ?_); rintro e w1 ⟨rfl, hb⟩)
    go_ret
    exact ⟨rfl, below_next HBel.out hb⟩

set_option maxRecDepth 100000 in
theorem lifted (os : Os) (started : os.Started) (H : Type) (enc : TypeId × Value → H) :
    ReturnsInHanded {} Try.checked os 4 .any (Rows.fnExactVoidsOfSpec.pre6 enc Try.prog Try.f4 Rows.fnExactVoidsOfRow.domain false) (Rows.fnExactVoidsOfSpec.post enc Try.prog Try.f4 false true false false) := by
  refine returnsInHanded_of_change (C := Try.checked) own started (by kernel_rfl) Try.func4
    (ChangeSpec.witness6 (enc := enc) (C := Try.checked) false ⟨#[], #[.agg #[.int .i64 0, .int .i64 0, .slice none 0 0], .float .f32 0], []⟩ 8 (by kernel_rfl) (by kernel_rfl) (by kernel_rfl) (by kernel_rfl)) ?_
  intro W base args ds gs before hval0 hW hcnd _
  have hval : ∀ (j : Nat) t v, Try.f4.params[j]? = some t → args[j]? = some v → Value.okWide Try.prog W .any base t v := hval0
  have hW' := hW
  obtain ⟨p, q, hA0, hV, rfl, hfz, hnd⟩ := hW
  have hA : DataW.TrodAll enc Try.prog W 0 (fun _ => true) true Try.f4.params.toList args.toList ds p := hA0
  rw [Try.params4] at hA hval
  obtain ⟨v0, vs0, d0, ds0, p0, q0, hargs, rfl, rfl, h0, r0⟩ := trodAll_cons hA
  obtain ⟨v1, vs1, d1, ds1, p1, q1, rfl, rfl, rfl, h1, r1⟩ := trodAll_cons r0
  obtain ⟨rfl, rfl, rfl⟩ := trodAll_nil r1
  obtain rfl : args = #[v0, v1] := by cases args; simp_all
  obtain ⟨rfl, rfl⟩ := trodVars_none hV
  have k0 := h0
  have lt0 : ∀ x ∈ p0, x.block < W.heap.size := by obtain ⟨m, hm⟩ := k0; exact DataW.trod_lt m _ _ _ hm
  obtain ⟨X0, Y0, ao0, n0, c0, zs0, rfl, fr0, bz0, bn0⟩ := open_view (hval 0 51 v0 rfl rfl) h0
  obtain ⟨a1, rfl, rfl, rfl, wf1⟩ := open_float Try.underlying29 (hval 1 29 v1 rfl rfl) h1
  have b1 : a1 < 4294967296 := by simpa [Lit.wf] using wf1
  clear hA0 hval0
  refine (walk X0 Y0 ao0 n0 c0 zs0 a1 W fr0 bz0 bn0 b1).mono fun e W' ⟨he, bel⟩ => ?_
  subst he
  exact ⟨_, rfl, _, _, _, [], _, [], hW', trodAll_mk1 (shut_bool Try.underlying4 _), (trodAll_cons_mk (Below.trod laidOut (by kernel_rfl) (of_decide_eq_true (by kernel_rfl)) k0 bel lt0) (trodAll_cons_mk (shut_float Try.underlying29 wf1) trodAll_mk0)), rfl, bel.frame _, fun h => by cases h⟩

theorem fnExactVoidsOf_holds : Rows.FnExactVoidsOfSaid :=
  OpenClaim.holds_of_wide 4 Try.f4 rfl rfl rfl rfl rfl rfl rfl ⟨rfl, rfl, rfl, rfl, rfl⟩ rfl rfl rfl rfl rfl (by kernel_rfl) Try.func4 (by kernel_rfl)
    (of_decide_eq_true (by kernel_rfl)) (by unfold Func.isWrapper; rw [if_neg (of_decide_eq_false (by kernel_rfl))]; exact ⟨rfl, rfl⟩)
    (fun os started H enc _ => lifted os started H enc)

end Go.Proofs.Ytkgijboahjiodaa.pFnExactVoidsOf
