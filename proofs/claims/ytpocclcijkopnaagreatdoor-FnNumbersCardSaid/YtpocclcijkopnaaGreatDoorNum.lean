/- The law FnNumbers: the walk. -/
import Derived.Test.YtpocclcijkopnaaGreatDoorSm
import Derived.Test.YtpocclcijkopnaaGreatDoorRfm
namespace Go.Proofs.YtpocclcijkopnaaGreatDoor.pFnNumbers
open Go.RowKit Fl

theorem repR_fit {a : Nat} {o : Option Nat} (ha : RepR a o) (ho : ∀ r, o = some r → nan32 r = false ∧ r < 4294967296) : Fit a := by
  cases o with
  | none => exact .inl ha
  | some r => obtain ⟨rfl, _⟩ := ha; exact .inr (ho _ rfl).2
theorem angle_same {a b : Nat} {o : Option Nat} (ha : RepR a o) (hb : RepR b o) (ho : ∀ r, o = some r → nan32 r = false ∧ r < 4294967296) (w : World) :
    Calls Tryz.prog 15 #[.float .f32 a, .float .f32 b] w fun e w' => e = .returned (.bool true) ∧ w = w' := by
  have := same_ok a b w (repR_fit ha ho) (repR_fit hb ho)
  rwa [show (bitsOf a == bitsOf b) = true by rw [repR_same ha hb]; simp] at this
theorem nan_same {a b : Nat} (ha : nan32 a = true) (hb : nan32 b = true) (w : World) :
    Calls Tryz.prog 15 #[.float .f32 a, .float .f32 b] w fun e w' => e = .returned (.bool true) ∧ w = w' := by
  have := same_ok a b w (.inl ha) (.inl hb)
  rwa [show (bitsOf a == bitsOf b) = true by simp [bitsOf, ha, hb]] at this
set_option maxRecDepth 100000 in
set_option maxHeartbeats 6400000 in
theorem walk (a0 a1 : Option Addr) (n0 c0 n1 c1 : Nat) (w : World) (m : Int) (h0 : BRow w a0 n0) (h1 : BRow w a1 n1) (hm : w.cell? ⟨1, 0, none⟩ = some (.int .i64 m)) (ht : Tz w) (he : ∀ w', Below w.heap.size w w' → Errs w') :
    Calls Tryz.prog 3 #[.slice a0 n0 c0, .slice a1 n1 c1] w fun e w' => e = .returned (.bool true) ∧ Below w.heap.size w w' := by
  have HL := Lib.hid fun w => b10Long_of a0 a1 n0 c0 n1 c1 w
  by_cases hlong : 1048576 < n0 ∨ 1048576 < n1
  · have hb : (decide (1048576 < n0) || decide (1048576 < n1)) = true := by simp; exact hlong
    rw [hb] at HL
    clear hb hlong h0 h1 hm ht he
    go_enter Tryz.func3, Tryz.ntmps3
    go_wp2_with (go_at_call 5; (with_reducible refine (HL.out _).mono ?_); rintro e w' ⟨rfl, rfl⟩)
    go_ret
    exact ⟨rfl, Below.refl _ _⟩
  · have hb : (decide (1048576 < n0) || decide (1048576 < n1)) = false := by simp; omega
    rw [hb] at HL
    have hn0 : n0 ≤ 1048576 := by omega
    have H0 := Lib.hid h0
    have H1 := Lib.hid h1
    have HM := Lib.hid fun w' (h : Below w.heap.size w w') => (show w'.cell? ⟨1, 0, none⟩ = some (.int .i64 m) by rw [h.cell (p := ⟨1, 0, none⟩) (World.block_lt_of_cell? w _ hm)]; exact hm)
    have HT := Lib.hid fun w' (h : Below w.heap.size w w') => ht.below h (Nat.le_refl _)
    have HE := Lib.hid he
    have HX := Lib.hid fun w' (h : Below w.heap.size w w') => b10Number_of a0 n0 c0 w' (H0.out.next h)
    have HY := Lib.hid fun w' (h : Below w.heap.size w w') => b10Number_of a1 n1 c1 w' (H1.out.next h)
    have HAt := Lib.hid fun w' (h : Below w.heap.size w w') => b10At_of a0 n0 c0 0 12 w' (H0.out.next h) hn0 (by omega) (by omega) (by omega)
    have HNs := Lib.hid fun w' (h : Below w.heap.size w w') k hk => b10Numbers_of a1 n1 c1 k w' (H1.out.next h) hk
    clear hb hlong h0 h1 hm ht he
    go_enter Tryz.func3, Tryz.ntmps3
    go_wp2_with (go_at_call 5; (with_reducible refine (HL.out _).mono ?_); rintro e w' ⟨rfl, rfl⟩)
    go_wp2_with fail
    refine (HX.out _ (Below.refl _ _)).mono ?_
    rintro e w1 ⟨X, hX, rfl, hb⟩
    have K1 := Lib.hid hb
    clear hb
    go_wp2_with fail
    refine (HY.out _ K1.out).mono ?_
    rintro e w2 ⟨Y, hY, rfl, hb⟩
    have K2 := Lib.hid (below_next K1.out hb)
    clear hb
    have HBi := Lib.hid fun w => (show Calls Tryz.prog 8 #[.float .f32 X] w fun e w' => e = .returned (.int .i64 ((bitsN X : Nat) : Int)) ∧ Quiet w w' by rw [← bitsN_eq]; exact bitsOf_any X w hX)
    have HFr := Lib.hid fun w => fromBits_in (bitsN X) w (bitsN_lt hX)
    have HFl := Lib.hid fun w => flushNumber_any X w hX
    obtain ⟨hsub, hZ, hse⟩ := sub_flush X hX
    go_wp2_with (first | (go_at_call 8; (with_reducible refine (HBi.out _).mono ?_); rintro e w3 ⟨rfl, q3, rfl⟩) | (go_at_call 7; (with_reducible refine (HFr.out _).mono ?_); rintro e w4 ⟨rfl, rfl⟩) | (go_at_call 9; (with_reducible refine (HFl.out _).mono ?_); rintro e w5 ⟨rfl, q5, rfl⟩))
    refine (HAt.out _ (below_drewN K2.out _)).mono ?_
    rintro e w6 ⟨x, hx0, hx1, rfl, rfl⟩
    obtain ⟨k, rfl⟩ := Int.eq_ofNat_of_zero_le hx0
    go_wp2_with fail
    refine (HNs.out _ (below_drewN K2.out _) k (by omega)).mono ?_
    rintro e w7 ⟨v, zs, rfl, hl, hv, ho, hb⟩
    have K7 := Lib.hid (below_next (below_drewN K2.out _) hb)
    obtain ⟨ao, c, rfl, hfr, hat⟩ := frow_own ho
    have HFr7 := Lib.hid hfr
    have HV := Lib.hid hv
    have HLn := Lib.hid hl
    clear hb ho hfr hat hv hl
    have hk11 : k ≤ 11 := by omega
    go_wp2_with fail
    go_loopw [11, 41] (fun s i wr => ∃ (W : World) (j v : Nat), W = wr ∧ j ≤ k ∧ i = .int .i64 j ∧ s = .float .f32 v ∧ Hid (Rep v (sumO (zs.take j))) ∧ Quiet w7 wr) (fun _ i _ => k - (intOf i).toNat)
    case atStart => exact ⟨_, 0, 0, rfl, Nat.zero_le _, rfl, rfl, rep_start, Quiet.refl _⟩
    case round =>
      obtain ⟨W, j, v, rfl, hj, rfl, rfl, hr, hq⟩ := hrel
      by_cases hlt : j < k
      · obtain ⟨a, rfl⟩ := HFr7.out.addr (by omega)
        have hx := (HFr7.out.quiet hq).cell a rfl j hlt
        have hs := Lib.hid (take_snocN zs j (by rw [HLn.out]; exact hlt))
        obtain ⟨r, w', g1, g2, g3⟩ := add_step (P := Tryz.prog) 24 v (zs.getD j 0) _ W hr.out
        have h2' := Lib.hid g2
        clear hr g2
        generalize zs.getD j 0 = x at hx g1 h2' hs
        go_wp2
        go_roundw
        case rel => exact ⟨_, j + 1, r, rfl, by omega, by go_num, rfl, by show Rep _ _; rw [hs.out, sumO_snoc]; exact h2'.out, hq.trans g3⟩
        case measure => simp [intOf]; omega
      · obtain rfl : j = k := by omega
        have HR := Lib.hid (show Rep v (sumO zs) by have := hr.out; rwa [List.take_of_length_le (by rw [HLn.out]; omega)] at this)
        have K8 := Lib.hid (K7.out.trans (hq.below _))
        have HFr8 := Lib.hid (HFr7.out.quiet hq)
        clear hr hq
        have hlen : zs.length = j := HLn.out
        have HSum := Lib.hid fun w' h => sumNumbers_few ao j c zs w' h (by omega)
        have hnt : ntAns zs = .returned (.tuple #[.string ⟨(ntext zs).toArray⟩, .bool true]) := by unfold ntAns; rw [if_pos (by omega), decide_eq_true (by omega : zs.length ≤ 256)]
        have hTx := fun w' h h2 => numbersText_of ao j c zs w' h (by omega) HV.out h2
        rw [hnt] at hTx
        have HTx := Lib.hid hTx
        obtain ⟨e1, e2⟩ := fl_ntext zs (by omega) HV.out
        have hsz : (⟨(ntext zs).toArray⟩ : ByteArray).size ≤ 1048576 := by
          show (ntext zs).toArray.size ≤ _
          have h9 := join_len' zs
          unfold ntext
          split
          · decide
          · simp; omega
        have hRd := fun w' h1 h2 h3 => readNumbers_of ⟨(ntext zs).toArray⟩ w' m hsz h1 h2 h3
        rw [show (⟨(ntext zs).toArray⟩ : ByteArray).data.toList = ntext zs from rfl, e1, e2] at hRd
        have HRd := Lib.hid hRd
        generalize (⟨(ntext zs).toArray⟩ : ByteArray) = T at HTx HRd
        clear hnt hTx e1 e2 hsz hRd hlen
        go_wp2_with (first | (go_at_call 12; (with_reducible refine (HSum.out _ HFr8.out).mono ?_); rintro e w9 ⟨⟨v2, rfl, hv2⟩, hq⟩; have HR2 := Lib.hid hv2; have K9 := Lib.hid (K8.out.trans (hq.below _)); have HFr9 := Lib.hid (HFr8.out.quiet hq); clear hv2 hq) | (go_at_call 13; (with_reducible refine (HTx.out _ HFr9.out (HT.out _ K9.out)).mono ?_); rintro e w10 ⟨rfl, hb⟩; have K10 := Lib.hid (below_next K9.out hb); have HFr10 := Lib.hid (HFr9.out.below hb (Nat.le_refl _)); clear hb) | (go_at_call 14; (with_reducible refine (HRd.out _ (HM.out _ K10.out) (HT.out _ K10.out) (fun w' h => HE.out w' (below_next K10.out h))).mono ?_); rintro e w11 ⟨rv, rfl, ho, hb⟩; have K11 := Lib.hid (below_next K10.out hb); have HFr11 := Lib.hid (HFr10.out.below hb (Nat.le_refl _)); rw [List.length_map, HLn.out] at ho; obtain ⟨ro, rc, rfl, hfr, -⟩ := frow_own ho; have HRr := Lib.hid hfr; clear ho hb hfr))
        have HS1 := Lib.hid fun w => (show Calls Tryz.prog 15 #[.float .f32 (bitsN X), .float .f32 X] w fun e w' => e = .returned (.bool true) ∧ w = w' by
          have := same_ok (bitsN X) X w (.inr (bitsN_lt hX)) (.inr hX)
          rwa [show (bitsOf (bitsN X) == bitsOf X) = true by rw [bitsN_eq, bitsN_eq, bitsN_bitsN]; simp] at this)
        have HI1 := Lib.hid fun w => (show Calls Tryz.prog 16 #[.float .f32 (flush32 X)] w fun e w' => e = .returned (.bool false) ∧ Quiet w w' by
          have := isSubnormal_any (flush32 X) w
          rwa [hsub] at this)
        have hI2 := fun w => isSubnormal_any X w
        have hS2 := fun w => same_ok X (flush32 X) w (.inr hX) (.inr hZ)
        have HS3 := Lib.hid fun w => (show Calls Tryz.prog 15 #[.float .f32 v2, .float .f32 v] w fun e w' => e = .returned (.bool true) ∧ w = w' by
          have := same_ok v2 v w (rep_fit HR2.out (sumO_lt zs)) (rep_fit HR.out (sumO_lt zs))
          rwa [show (bitsOf v2 == bitsOf v) = true by rw [rep_same HR2.out HR.out]; simp] at this)
        obtain ⟨A, hA⟩ : ∃ A, sub32 X = A := ⟨_, rfl⟩
        obtain ⟨B, hB⟩ : ∃ B, (bitsOf X == bitsOf (flush32 X)) = B := ⟨_, rfl⟩
        rw [hA] at hI2 hse
        rw [hB] at hS2 hse
        have HI2 := Lib.hid hI2
        have HS2 := Lib.hid hS2
        have hj0 : ((j : Int) != (j : Int)) = false := by simp
        clear hI2 hS2 hA hB hsub
        rcases A with _ | _ <;> rcases B with _ | _ <;> first | (cases hse; done) | skip
        all_goals
          clear hse
          go_wp2_with (first | (go_at_call 15; (with_reducible refine (HS1.out _).mono ?_); rintro e w' ⟨rfl, rfl⟩) | (go_at_call 16; (with_reducible refine (HI1.out _).mono ?_); rintro e w' ⟨rfl, p1, rfl⟩) | (go_at_call 16; (with_reducible refine (HI2.out _).mono ?_); rintro e w' ⟨rfl, p2, rfl⟩) | (go_at_call 15; (with_reducible refine (HS2.out _).mono ?_); rintro e w' ⟨rfl, rfl⟩) | (go_at_call 15; (with_reducible refine (HS3.out _).mono ?_); rintro e w' ⟨rfl, rfl⟩))
          go_loopw [113] (fun i wr => ∃ (W : World) (q : Nat), W = wr ∧ q ≤ j ∧ i = .int .i64 q ∧ Quiet w11 wr) (fun i _ => j - (intOf i).toNat)
          case atStart => exact ⟨_, 0, rfl, Nat.zero_le _, rfl, _, rfl⟩
          case round =>
            obtain ⟨W, q, rfl, hq, rfl, hqq⟩ := hrel
            by_cases hlt : q < j
            · obtain ⟨a, rfl⟩ := HFr11.out.addr (by omega)
              obtain ⟨b, rfl⟩ := HRr.out.addr (by omega)
              have hx := (HFr11.out.quiet hqq).cell a rfl q hlt
              have hy := (HRr.out.quiet hqq).cell b rfl q hlt
              have hzl := small_at HV.out q
              rw [show (zs.map bitsN).getD q 0 = bitsN (zs.getD q 0) by simp [List.getD, List.getElem?_eq_getElem (show q < zs.length by rw [HLn.out]; exact hlt)]] at hy
              generalize zs.getD q 0 = z at hx hy hzl
              have hxn : ∀ m, (W.drewN m).cell? (a.add q) = some (.float .f32 z) := fun m => hx
              have hyn : ∀ m, (W.drewN m).cell? (b.add q) = some (.float .f32 (bitsN z)) := fun m => hy
              have HSz := Lib.hid fun w => (show Calls Tryz.prog 15 #[.float .f32 (bitsN z), .float .f32 z] w fun e w' => e = .returned (.bool true) ∧ w = w' by
                have := same_ok (bitsN z) z w (.inr (bitsN_lt hzl)) (.inr hzl)
                rwa [show (bitsOf (bitsN z) == bitsOf z) = true by rw [bitsN_eq, bitsN_eq, bitsN_bitsN]; simp] at this)
              clear hzl
              go_wp2
              go_quiet ((go_at_call 15; exact Calls.quiet_of_same ((HSz.out _).mono (fun _ _ h => ⟨h.1, h.2.symm⟩))))
              go_wp2
              go_roundw
              case rel => exact ⟨_, q + 1, rfl, by omega, by go_num, hqq.trans ⟨_, rfl⟩⟩
              case measure => simp [intOf]; omega
            · obtain rfl : q = j := by omega
              have K12 := Lib.hid (K11.out.trans (hqq.below _))
              obtain ⟨o, ho1, ho2⟩ := angle_impl Y X
              have HAn := Lib.hid ho2
              have HAo := Lib.hid fun w => angleOf_any Y X o w ho2
              have HOk := Lib.hid ho1
              clear hqq ho1 ho2
              have HSi := Lib.hid fun w => sine_quarter w
              cases hn : nan32 X
              · have hc := fun w => run_convert_float_float (P := Tryz.prog) w 24 44 .f32 .f64 X (wide X) (by kernel_rfl) Tryz.underlying44 (wide_conv X hn)
                have HNa := Lib.hid fun w => narrowNumber_ok (wide X) X w (narrow_wide X hX hn)
                have HS6 := Lib.hid fun w => (show Calls Tryz.prog 15 #[.float .f32 X, .float .f32 X] w fun e w' => e = .returned (.bool true) ∧ w = w' by
                  have := same_ok X X w (.inr hX) (.inr hX)
                  rwa [show (bitsOf X == bitsOf X) = true by simp] at this)
                clear hn
                go_wp2_with (first | (go_at_call 17; (with_reducible refine (HAn.out _).mono ?_); rintro e w13 ⟨⟨v3, rfl, hv3⟩, q13, rfl⟩; have HV3 := Lib.hid hv3; clear hv3) | (go_at_call 18; (with_reducible refine (HAo.out _).mono ?_); rintro e w14 ⟨⟨v4, rfl, hv4⟩, q14, rfl⟩; have HS5 := Lib.hid (angle_same HV3.out hv4 HOk.out); clear hv4) | (go_at_call 15; (with_reducible refine (HS5.out _).mono ?_); rintro e w' ⟨rfl, rfl⟩) | (go_at_call 19; (with_reducible refine (HNa.out _).mono ?_); rintro e w' ⟨rfl, rfl⟩) | (go_at_call 15; (with_reducible refine (HS6.out _).mono ?_); rintro e w' ⟨rfl, rfl⟩) | (go_at_call 20; (with_reducible refine (HSi.out _).mono ?_); rintro e w' ⟨rfl, rfl⟩))
                all_goals (go_ret; exact ⟨rfl, below_drewN K12.out _⟩)
              · have hc := fun w => run_widen_nan (P := Tryz.prog) 24 44 X w (by kernel_rfl) Tryz.underlying44 hn
                have HNa := Lib.hid fun w y h => narrowNumber_nan y w h
                have HN := Lib.hid hn
                clear hn
                go_wp2_with (first | (go_at_call 17; (with_reducible refine (HAn.out _).mono ?_); rintro e w13 ⟨⟨v3, rfl, hv3⟩, q13, rfl⟩; have HV3 := Lib.hid hv3; clear hv3) | (go_at_call 18; (with_reducible refine (HAo.out _).mono ?_); rintro e w14 ⟨⟨v4, rfl, hv4⟩, q14, rfl⟩; have HS5 := Lib.hid (angle_same HV3.out hv4 HOk.out); clear hv4) | (go_at_call 15; (with_reducible refine (HS5.out _).mono ?_); rintro e w' ⟨rfl, rfl⟩) | (go_at_call 19; (with_reducible refine (HNa.out _ _ (nanc64_nan _ _)).mono ?_); rintro e w' ⟨⟨v5, rfl, hv5⟩, q15, rfl⟩; have HS6 := Lib.hid (nan_same hv5 HN.out); clear hv5) | (go_at_call 15; (with_reducible refine (HS6.out _).mono ?_); rintro e w' ⟨rfl, rfl⟩) | (go_at_call 20; (with_reducible refine (HSi.out _).mono ?_); rintro e w' ⟨rfl, rfl⟩))
                all_goals (go_ret; exact ⟨rfl, below_drewN K12.out _⟩)
end Go.Proofs.YtpocclcijkopnaaGreatDoor.pFnNumbers
