/- The law FnFlown: the walk. -/
import Derived.Test.YtklceohoghjhdaaFlk
import Derived.Test.YtklceohoghjhdaaBox
namespace Go.Proofs.Ytklceohoghjhdaa.pFnFlown
open Go.RowKit Fl

set_option maxRecDepth 100000 in
set_option maxHeartbeats 25600000 in
theorem walk (a0 : Option Addr) (n0 c0 : Nat) (a1 : Option Addr) (n1 c1 : Nat) (w : World) (h0 : BRow w a0 n0) (h1 : BRow w a1 n1) :
    Calls Try.prog 4 #[.slice a0 n0 c0, .slice a1 n1 c1] w fun e w' => e = .returned (.bool true) ∧ Below w.heap.size w w' := by
  have HL := Lib.hid fun w => r8Long_of a0 a1 n0 c0 n1 c1 w
  by_cases hlong : 48 < n0 ∨ 48 < n1
  · have hb : (decide (48 < n0) || decide (48 < n1)) = true := by simp; exact hlong
    rw [hb] at HL
    clear hb hlong h0 h1
    go_enter Try.func4, Try.ntmps4
    go_wp2_with (go_at_call 7; (with_reducible refine (HL.out _).mono ?_); rintro e w' ⟨rfl, rfl⟩)
    go_ret
    exact ⟨rfl, Below.refl _ _⟩
  · have hb : (decide (48 < n0) || decide (48 < n1)) = false := by simp; omega
    rw [hb] at HL
    have hn1 : n1 ≤ 48 := by omega
    have HH := Lib.hid fun w (h : BRow w a0 n0) => r8Heap_of a0 n0 c0 3 w h (by omega)
    obtain ⟨o0, ho0⟩ := ByteAt.of_row h1 0
    obtain ⟨o1, ho1⟩ := ByteAt.of_row h1 1
    obtain ⟨qa, hqa, hqa1, hqa2⟩ := placeW_exa o0 _ 4 exa_one4 (by omega)
    obtain ⟨qb, hqb, hqb1, hqb2⟩ := placeW_exa o1 _ (-2) exa_half4 (by omega)
    have HP := Lib.hid fun w' (h : Below w.heap.size w w') => r8Place_of a1 n1 c1 0 o0 o1 w' hn1 (by omega) (ho0.next h) (ho1.next h)
    generalize placeW o0 1065353216 = fx at *
    generalize placeW o1 3204448256 = fy at *
    have HX := Lib.hid hqa
    have HY := Lib.hid hqb
    have HQ := Lib.hid (show (-16 ≤ qa ∧ qa ≤ 16) ∧ -16 ≤ qb ∧ qb ≤ 16 from ⟨⟨hqa1, hqa2⟩, hqb1, hqb2⟩)
    have H0 := Lib.hid h0
    have hsf := run_store_float' Try.prog
    have hsc := run_store_complex Try.prog
    clear hb hlong h0 h1 ho0 ho1 hqa hqb hqa1 hqa2 hqb1 hqb2
    go_enter Try.func4, Try.ntmps4
    go_wp2_with (go_at_call 7; (with_reducible refine (HL.out _).mono ?_); rintro e w' ⟨rfl, rfl⟩)
    go_wp2_with fail
    refine (HH.out _ H0.out).mono ?_
    rintro e w1 ⟨gs, is, bh, ch, hl, hq, hbent, hfree, rfl, ho, hb⟩
    obtain ⟨hs, fl, fr, bk, ps, hF, hC⟩ := flownC_of hl hq hfree HX.out HY.out HQ.out.1 HQ.out.2
    have F := Lib.hid hF
    have C := Lib.hid hC
    have GL := Lib.hid hl
    have K1 := Lib.hid ((Keep.nil hb).push bh ch gs (row_of_own ho hl))
    clear hl hq hbent hfree ho hb hF hC HX HY HQ HH H0 HL
    go_wp2_with fail
    refine (C.out.hold _ _ _ (K1.out.v _ (.head _)).r).mono ?_
    rintro e w2 ⟨bn, cn, rfl, hr, hb⟩
    have K2 := Lib.hid ((K1.out.next hb).push bn cn hs hr)
    clear hr hb K1
    go_wp2_with fail
    refine (HP.out _ K2.out.l).mono ?_
    rintro e w3 ⟨rfl, hb⟩
    have K3 := Lib.hid (K2.out.next hb)
    have d0 := (K3.out.v _ (.head _)).d.cell 0
    clear hb K2 HP
    go_wp2_with fail
    refine (C.out.fly _ _ _ (K3.out.v _ (.head _)).r).mono ?_
    rintro e w4 ⟨b4, c4, rfl, hr, hb⟩
    have K4 := Lib.hid ((K3.out.next hb).push b4 c4 fl hr)
    have d1 := (K4.out.v _ (.tail _ (.tail _ (.head _)))).d.cell 0
    clear hr hb K3 d0
    go_wp2_with fail
    refine (C.out.free _ _ _ (K4.out.v _ (.tail _ (.tail _ (.head _)))).r).mono ?_
    rintro e w5 ⟨b5, c5, rfl, hr, hb⟩
    have K5 := Lib.hid ((K4.out.next hb).push b5 c5 fr hr)
    have d2 := (K5.out.v _ (.head _)).d.cell 0
    clear hr hb K4 d1
    go_wp2_with fail
    refine (C.out.back _ _ _ (K5.out.v _ (.head _)).r).mono ?_
    rintro e w6 ⟨b6, c6, rfl, hr, hb⟩
    have K6 := Lib.hid ((K5.out.next hb).push b6 c6 bk hr)
    clear hr hb K5 d2
    have hd := (K6.out.v _ (.tail _ (.tail _ (.tail _ (.tail _ (.head _)))))).d.cell 0
    have fd := (K6.out.v _ (.tail _ (.tail _ (.head _)))).d.cell 0
    have rd := (K6.out.v _ (.tail _ (.head _))).d.cell 0
    have bd := (K6.out.v _ (.head _)).d.cell 0
    have nq1 := neq_same F.out.ax1 F.out.ay1
    have nq2 := neq_same F.out.sx1 F.out.sy1
    obtain ⟨gf, ef, f0, f1, _, _, _⟩ := (K6.out.v _ (.tail _ (.tail _ (.head _)))).at_ 1 (by show 1 < fl.length; rw [F.out.lfl]; decide)
    obtain ⟨gh, eh, h0, h1, _, _, _⟩ := (K6.out.v _ (.tail _ (.tail _ (.tail _ (.tail _ (.head _)))))).at_ 1 (by show 1 < gs.length; rw [GL.out]; decide)
    rw [show fl.getD 1 default = gf from ef, show gs.getD 1 default = gh from eh] at nq1 nq2
    clear ef eh
    go_wp2_with fail
    go_quiet (fail)
    clear hd fd rd bd nq1 nq2 f0 f1 h0 h1
    have hz0 : FloatKind.f64.format.order 0 4562254508917369340 = some .lt := by decide +kernel
    have K7 := Lib.hid (show Keep w _ _ from K6.out.drewN 1)
    go_wp2_with fail
    go_loopw [15] (fun i wr => ∃ (W : World) (k : Nat), W = wr ∧ k ≤ 3 ∧ i = .int .i64 k ∧ Keep w wr [(w6.heap.size, b6, c6, bk), (w5.heap.size, b5, c5, fr), (w4.heap.size, b4, c4, fl), (w2.heap.size, bn, cn, hs), (w1.heap.size, bh, ch, gs)]) (fun i _ => 3 - (intOf i).toNat)
    case atStart => exact ⟨_, 0, rfl, Nat.zero_le _, rfl, by first | exact K7.out | exact K6.out.drewN _⟩
    case round =>
      obtain ⟨W, k, rfl, hk, rfl, hI⟩ := hrel
      have HI := Lib.hid hI
      clear hI
      by_cases hlt : k < 3
      · have hd := (HI.out.v _ (.tail _ (.tail _ (.tail _ (.tail _ (.head _)))))).d.cell 0
        have fd := (HI.out.v _ (.tail _ (.tail _ (.head _)))).d.cell 0
        have rd := (HI.out.v _ (.tail _ (.head _))).d.cell 0
        have bd := (HI.out.v _ (.head _)).d.cell 0
        obtain ⟨zx, ex1, ex2⟩ := F.out.atx k hlt
        obtain ⟨zy, ey1, ey2⟩ := F.out.aty k hlt
        obtain ⟨td, te, t1, t2, t3, t4, t5⟩ := F.out.turn k hlt
        obtain ⟨nt1, nt2⟩ := F.out.numt k hlt
        have nq := neq_same (F.out.eqx k hlt) (F.out.eqy k hlt)
        obtain ⟨R, I, hR, hRI⟩ := F.out.half
        obtain ⟨gf, ef, _, f1, _, _, _⟩ := (HI.out.v _ (.tail _ (.tail _ (.head _)))).at_ k (by show k < fl.length; rw [F.out.lfl]; exact hlt)
        obtain ⟨gh, eh, h0, h1, _, _, h4⟩ := (HI.out.v _ (.tail _ (.tail _ (.tail _ (.tail _ (.head _)))))).at_ k (by show k < gs.length; rw [GL.out]; exact hlt)
        obtain ⟨gr, er, _, r1, _, _, _⟩ := (HI.out.v _ (.tail _ (.head _))).at_ k (by show k < fr.length; rw [F.out.lfr]; exact hlt)
        obtain ⟨gb, eb, b0, _, _, _, b4'⟩ := (HI.out.v _ (.head _)).at_ k (by show k < bk.length; rw [F.out.lbk]; exact hlt)
        rw [show gs.getD k default = gh from eh, show fr.getD k default = gr from er] at nq
        rw [show gs.getD k default = gh from eh, show bk.getD k default = gb from eb] at ex1 ey1 t1 t2
        rw [show bk.getD k default = gb from eb] at nt1
        rw [show gs.getD k default = gh from eh] at nt2
        have HA := Lib.hid fun w => apart_zero gb.ax gb.ay gh.ax gh.ay zx zy w ex1 ey1 ex2 ey2
        have HG := Lib.hid fun w => r8Gap_of (wide gb.t) (wide gh.t) td te w t1 t2 t5
        have hmx : FloatKind.f64.format.order (maxD td te) 4562254508917369340 = some .lt := by
          rcases maxD_one td te with e | e
          · rw [e]; exact t3
          · rw [e]; exact t4
        generalize maxD td te = mx at HG hmx
        have hc1 := fun w => run_convert_float_float (P := Try.prog) w 35 47 .f32 .f64 gb.t (wide gb.t) (by kernel_rfl) Try.underlying47 (wide_conv gb.t nt1)
        have hc2 := fun w => run_convert_float_float (P := Try.prog) w 35 47 .f32 .f64 gh.t (wide gh.t) (by kernel_rfl) Try.underlying47 (wide_conv gh.t nt2)
        have HRI : Hid (k ≠ 1 → ∃ i j z z', floatBits .add .f32 gh.sx R = some i ∧ floatBits .add .f32 gh.sy I = some j ∧ floatBits .sub .f32 gf.sx i = some z ∧ floatBits .sub .f32 gf.sy j = some z' ∧ (z = 0 ∨ z = 2147483648) ∧ (z' = 0 ∨ z' = 2147483648)) := fun h1 => by
          have h := hRI k hlt h1
          rw [show gs.getD k default = gh from eh, show fl.getD k default = gf from ef] at h
          exact h
        clear ex1 ex2 ey1 ey2 t1 t2 t3 t4 t5 nt1 nt2 eh er eb ef hRI
        have hk3 : (k : Int) < 3 := by omega
        have hk0 : (0 : Int) ≤ (k : Int) := by omega
        by_cases hk1 : k = 1
        · have hkb : ((k : Int) != 1) = false := by subst hk1; rfl
          clear HRI hk1
          go_wp2_with fail
          go_quiet (first | (go_at_call 22; exact Calls.quiet_of_same ((HA.out _).mono (fun _ _ h => ⟨h.1, h.2.symm⟩))) | (go_at_call 23; exact Calls.quiet_of_same ((HG.out _).mono (fun _ _ h => ⟨h.1, h.2.symm⟩))))
          go_wp2_with fail
          go_quiet (fail)
          go_wp2_with fail
          go_roundw
          case rel => exact ⟨_, k + 1, rfl, by omega, by go_num, HI.out.drewN _⟩
          case measure => simp [intOf]; omega
        · have hkb : ((k : Int) != 1) = true := by simp; omega
          obtain ⟨i, j, z, z', s1, s2, s3, s4, s5, s6⟩ := HRI.out hk1
          have hca := fun w => run_csum (P := Try.prog) .add (Or.inl rfl) 31 gh.sx gh.sy R I i j s1 s2 w
          have HA2 := Lib.hid fun w => apart_zero gf.sx gf.sy i j z z' w s3 s4 s5 s6
          clear s1 s2 s3 s4 s5 s6 HRI hk1
          go_wp2_with fail
          go_quiet (first | (go_at_call 22; exact Calls.quiet_of_same ((HA.out _).mono (fun _ _ h => ⟨h.1, h.2.symm⟩))) | (go_at_call 23; exact Calls.quiet_of_same ((HG.out _).mono (fun _ _ h => ⟨h.1, h.2.symm⟩))))
          go_wp2_with fail
          go_quiet ((go_at_call 22; exact (HA2.out _).mono (fun _ _ h => ⟨h.1, _, h.2.symm⟩)))
          go_wp2_with fail
          go_roundw
          case rel => exact ⟨_, k + 1, rfl, by omega, by go_num, HI.out.drewN _⟩
          case measure => simp [intOf]; omega
      · have hk3 : ¬ (k : Int) < 3 := by omega
        have hd := (HI.out.v _ (.tail _ (.tail _ (.tail _ (.head _))))).d.cell 0
        obtain ⟨P, Q, S, T, P', Q', S', T', m, R, I, i, j, z, z', mS, mS', mf, mf', mm, hR, s1, s2, s3, s4, s5, s6⟩ := F.out.mom
        obtain ⟨A, B, Cx, D, bw, mA, mB, mC, mD⟩ := F.out.box
        have M1 := Lib.hid fun W (h : GrRow W bh gs) => momentumOf_of bh 3 ch gs P Q S T W GL.out h (by omega) F.out.vg mS mf
        have M2 := Lib.hid fun W b c (h : GrRow W b ps) => momentumOf_of b 3 c ps P' Q' S' T' W F.out.lps h (by omega) F.out.vps mS' mf'
        have MB := Lib.hid fun W (h : GrRow W bh gs) => boxOfHeap_of bh 3 ch gs A B Cx D W GL.out h (by omega) (by omega) F.out.vg bw mA mB mC mD
        have HA := Lib.hid fun w => apart_zero (S' 3) (T' 3) i j z z' w s3 s4 s5 s6
        have hca := fun w => run_csum (P := Try.prog) .add (Or.inl rfl) 31 (S 3) (T 3) R I i j s1 s2 w
        have NA := Lib.hid mA.no
        have NB := Lib.hid mB.no
        have NC := Lib.hid mC.no
        have ND := Lib.hid mD.no
        have BW := Lib.hid bw
        generalize S' 3 = S3' at M2 HA
        generalize T' 3 = T3' at M2 HA
        generalize S 3 = S3 at M1 hca
        generalize T 3 = T3 at M1 hca
        generalize minsW A (3 - 1) = x0 at MB NA
        generalize minsW B (3 - 1) = x1 at MB NB
        generalize maxsW Cx (3 - 1) = x2 at MB NC
        generalize maxsW D (3 - 1) = x3 at MB ND
        clear mS mS' mf mf' s1 s2 s3 s4 s5 s6 bw mA mB mC mD
        go_wp2_with fail
        refine (C.out.push _ _ _ (HI.out.v _ (.tail _ (.tail _ (.tail _ (.head _))))).r).mono ?_
        rintro e w8 ⟨b8, c8, rfl, hr, hb⟩
        have K8 := Lib.hid ((HI.out.next hb).push b8 c8 ps hr)
        have d8 := (K8.out.v _ (.tail _ (.tail _ (.tail _ (.tail _ (.tail _ (.head _))))))).d.cell 0
        clear hr hb hd
        go_wp2_with fail
        refine (M1.out _ (K8.out.v _ (.tail _ (.tail _ (.tail _ (.tail _ (.tail _ (.head _))))))).r).mono ?_
        rintro e w9 ⟨rfl, hb⟩
        have K9 := Lib.hid (K8.out.next hb)
        have d9 := (K9.out.v _ (.head _)).d.cell 0
        clear hb d8
        go_wp2_with fail
        refine (M2.out _ _ _ (K9.out.v _ (.head _)).r).mono ?_
        rintro e wa ⟨rfl, hb⟩
        have Ka := Lib.hid (K9.out.next hb)
        have da := (Ka.out.v _ (.tail _ (.tail _ (.tail _ (.tail _ (.tail _ (.head _))))))).d.cell 0
        obtain ⟨g0, eg0, _, _, _, q0, _⟩ := (Ka.out.v _ (.tail _ (.tail _ (.tail _ (.tail _ (.tail _ (.head _))))))).at_ 0 (by show 0 < gs.length; rw [GL.out]; decide)
        obtain ⟨g2, eg2, _, _, _, q2, _⟩ := (Ka.out.v _ (.tail _ (.tail _ (.tail _ (.tail _ (.tail _ (.head _))))))).at_ 2 (by show 2 < gs.length; rw [GL.out]; decide)
        rw [show gs.getD 0 default = g0 from eg0, show gs.getD 2 default = g2 from eg2] at mm
        have hma := fun w => run_float_arith (P := Try.prog) w .add 35 .f32 _ _ _ mm
        clear hb d9 eg0 eg2 mm
        go_wp2_with fail
        go_quiet (fail)
        have Kb := Lib.hid (Ka.out.drewN nq)
        go_wp2_with fail
        refine (MB.out _ (Kb.out.v _ (.tail _ (.tail _ (.tail _ (.tail _ (.tail _ (.head _))))))).r).mono ?_
        rintro e wc ⟨rfl, hb⟩
        have Kc := Lib.hid (Kb.out.next hb)
        clear hb da Kb Ka K9 K8 q0 q2
        go_wp2_with (go_at_call 22; (with_reducible refine (HA.out _).mono ?_); rintro e w' ⟨rfl, rfl⟩)
        clear hca hR hma HA M1 M2 MB
        go_wp2_with fail
        go_loopw [26] (fun i wr => ∃ (V : World) (l : Nat), V = wr ∧ l ≤ 3 ∧ i = .int .i64 l ∧ Keep w wr [(w8.heap.size, b8, c8, ps), (w6.heap.size, b6, c6, bk), (w5.heap.size, b5, c5, fr), (w4.heap.size, b4, c4, fl), (w2.heap.size, bn, cn, hs), (w1.heap.size, bh, ch, gs)]) (fun i _ => 3 - (intOf i).toNat)
        case atStart => exact ⟨_, 0, rfl, Nat.zero_le _, rfl, Kc.out⟩
        case round =>
          obtain ⟨V, l, rfl, hl, rfl, hJ⟩ := hrel
          have HJ := Lib.hid hJ
          clear hJ Kc HI
          by_cases hl3 : l < 3
          · have hd := (HJ.out.v _ (.tail _ (.tail _ (.tail _ (.tail _ (.tail _ (.head _))))))).d.cell 0
            have hl3' : (l : Int) < 3 := by omega
            have hl0 : (0 : Int) ≤ (l : Int) := by omega
            obtain ⟨q0, q1, q2, q3, q4, q5, q6⟩ := (HJ.out.v _ (.tail _ (.tail _ (.tail _ (.tail _ (.tail _ (.head _))))))).r l (by show l < gs.length; rw [GL.out]; exact hl3)
            dsimp only at q0 q1 q2 q3 q4 q5 q6
            have e1 := fun w => run_float_arith (P := Try.prog) w .sub 35 .f32 _ _ _ (BW.out.a l hl3)
            have e2 := fun w => run_float_arith (P := Try.prog) w .sub 35 .f32 _ _ _ (BW.out.b l hl3)
            have e3 := fun w => run_float_arith (P := Try.prog) w .add 35 .f32 _ _ _ (BW.out.c l hl3)
            have e4 := fun w => run_float_arith (P := Try.prog) w .add 35 .f32 _ _ _ (BW.out.d l hl3)
            have n1 := NA.out l hl3
            have n2 := NB.out l hl3
            have n3 := NC.out l hl3
            have n4 := ND.out l hl3
            generalize gs.getD l default = g at q0 q1 q2 q3 q4 q5 q6 e1 e2 e3 e4
            obtain ⟨ax, ay, sx, sy, r, mg, t, s, hh⟩ := g
            dsimp only at q0 q1 q2 q3 q4 q5 q6 e1 e2 e3 e4
            generalize A l = al at e1 n1
            generalize B l = bl at e2 n2
            generalize Cx l = cl at e3 n3
            generalize D l = dl at e4 n4
            have Gx := Lib.hid (blk_new V 37 #[.complex .f32 ax ay, .complex .f32 sx sy, .float .f32 r, .float .f32 mg, .float .f32 t, .float .f32 s, .bool hh] _ rfl)
            have HN := Lib.hid (HJ.out.next ((Below.refl _ _).alloc (Nat.le_refl _) (.cells #[.complex .f32 ax ay, .complex .f32 sx sy, .float .f32 r, .float .f32 mg, .float .f32 t, .float .f32 s, .bool hh] 37)))
            go_wp2_with fail
            go_roundw
            case rel => exact ⟨_, l + 1, rfl, by omega, by go_num, HN.out⟩
            case measure => simp [intOf]; omega
          · have hl3' : ¬ (l : Int) < 3 := by omega
            go_wp2_with fail
            go_ret
            exact ⟨rfl, HJ.out.l⟩
end Go.Proofs.Ytklceohoghjhdaa.pFnFlown
