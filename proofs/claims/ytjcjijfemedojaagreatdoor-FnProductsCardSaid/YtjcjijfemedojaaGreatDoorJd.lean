/- The law FnProducts: true at every input, and its tied card. -/
import Derived.Test.YtjcjijfemedojaaGreatDoorJc
import Derived.Test.YtjcjijfemedojaaGreatDoorObr
import Derived.HandedShaped
import Derived.Shelf.Vars
import Derived.Lay
import Derived.OpenShut
import Derived.Laws.Cover2
import Derived.ChangeOld
import Derived.Below
namespace Go.Proofs.YtjcjijfemedojaaGreatDoor
open Go.RowKit Fl

set_option maxHeartbeats 800000 in
theorem readC_of (s : ByteArray) (w : World) (m : Int) (hs : s.size ≤ 1048576) (hm : w.cell? ⟨1, 0, none⟩ = some (.int .i64 m)) (ht : Tz w) (he : ∀ w', Below w.heap.size w w' → Errs w') :
    Calls Tryz.prog 17 #[.string s] w (ClAns (clZ s.data.toList) (clOk s.data.toList) w) := by
  have HC := Lib.hid (splitComplex_of s w m hs hm ht he)
  clear hm ht he
  generalize clZ s.data.toList = zs at HC ⊢
  generalize clOk s.data.toList = b at HC ⊢
  go_enter Tryz.func17, Tryz.ntmps17
  go_wp2_with (go_at_call 39; (with_reducible refine HC.out.mono ?_); rintro e w' ⟨v, rfl, ho, hb⟩; have HO := Lib.hid ho; have HB := Lib.hid hb; clear ho hb)
  go_ret2
  exact ⟨v, rfl, HO.out, HB.out⟩
theorem bitsZ_at {zs : List (Nat × Nat)} {k : Nat} (h : k < zs.length) : (zs.map bitsZ).getD k (0, 0) = bitsZ (zs.getD k (0, 0)) := by
  rw [List.getD_eq_getElem?_getD, List.getElem?_map, List.getElem?_eq_getElem h, List.getD_eq_getElem?_getD, List.getElem?_eq_getElem h]
  rfl
set_option maxHeartbeats 1600000 in
theorem b10Same_of (ao bo : Option Addr) (n c c' : Nat) (zs : List (Nat × Nat)) (w : World) (h1 : CRow w ao n (zs.map bitsZ)) (h2 : CRow w bo n zs) (hv : ∀ z ∈ zs, F2 z) (hn : n ≤ 256) :
    Calls Tryz.prog 22 #[.slice ao n c, .slice bo n c'] w fun e w' => e = .returned (.bool true) ∧ Quiet w w' := by
  have HR1 := Lib.hid h1
  have HR2 := Lib.hid h2
  have HV := Lib.hid (f2_at hv)
  clear h1 h2 hv
  go_enter Tryz.func22, Tryz.ntmps22
  go_wp2
  go_loopw [13] (fun i wr => ∃ (W : World) (q : Nat), W = wr ∧ q ≤ n ∧ i = .int .i64 q ∧ Quiet w wr) (fun i _ => n - (intOf i).toNat)
  case atStart => exact ⟨_, 0, rfl, Nat.zero_le _, rfl, Quiet.refl _⟩
  case round =>
    obtain ⟨W, q, rfl, hq, rfl, hqq⟩ := hrel
    by_cases hlt : q < n
    · obtain ⟨a, rfl⟩ := HR1.out.addr (by omega)
      obtain ⟨b, rfl⟩ := HR2.out.addr (by omega)
      have hx := (HR1.out.quiet hqq).cell a rfl q hlt
      have hy := (HR2.out.quiet hqq).cell b rfl q hlt
      have hz := HV.out q
      rw [bitsZ_at (by rw [HR2.out.len]; exact hlt)] at hx
      generalize zs.getD q (0, 0) = z at hx hy hz
      obtain ⟨z1, z2⟩ := z
      unfold bitsZ at hx
      dsimp only at hx hy
      have HS := Lib.hid fun w => ssameC_yes (bitsN z1) (bitsN z2) z1 z2 w (.inr (bitsN_lt hz.1)) (.inr (bitsN_lt hz.2)) (.inr hz.1) (.inr hz.2) (by rw [bitsN_eq, bitsN_eq, bitsN_bitsN]) (by rw [bitsN_eq, bitsN_eq, bitsN_bitsN])
      have hxn : ∀ m, (W.drewN m).cell? (a.add q) = some (.complex .f32 (bitsN z1) (bitsN z2)) := fun m => hx
      have hyn : ∀ m, (W.drewN m).cell? (b.add q) = some (.complex .f32 z1 z2) := fun m => hy
      clear hz
      go_wp2
      go_quiet ((go_at_call 49; exact Calls.quiet_of_same ((HS.out _).mono (fun _ _ h => ⟨h.1, h.2.symm⟩))))
      go_wp2
      go_roundw
      case rel => exact ⟨_, q + 1, rfl, by omega, by go_num, hqq.trans ⟨_, rfl⟩⟩
      case measure => simp [intOf]; omega
    · have hqn : q = n := by omega
      subst hqn
      go_wp2
      go_ret
      exact ⟨rfl, hqq⟩
end Go.Proofs.YtjcjijfemedojaaGreatDoor

namespace Go.Proofs.YtjcjijfemedojaaGreatDoor.pFnProducts
open Go.RowKit Fl

set_option maxRecDepth 100000 in
set_option maxHeartbeats 6400000 in
theorem walk (a0 a1 : Option Addr) (n0 c0 n1 c1 : Nat) (w : World) (m : Int) (h0 : BRow w a0 n0) (h1 : BRow w a1 n1) (hm : w.cell? ⟨1, 0, none⟩ = some (.int .i64 m)) (ht : Tz w) (he : ∀ w', Below w.heap.size w w' → Errs w') :
    Calls Tryz.prog 3 #[.slice a0 n0 c0, .slice a1 n1 c1] w fun e w' => e = .returned (.bool true) ∧ Below w.heap.size w w' := by
  have HL := Lib.hid fun w => b10Long_of a0 a1 n0 c0 n1 c1 w
  by_cases hlong : 1048576 < n0 ∨ 1048576 < n1
  · have hb : (decide (1048576 < n0) || decide (1048576 < n1)) = true := by simp; exact hlong
    rw [hb] at HL
    clear hb hlong h0 h1 hm ht he
    go_enter Tryz.func3, Tryz.ntmps3
    go_wp2_with (go_at_call 4; (with_reducible refine (HL.out _).mono ?_); rintro e w' ⟨rfl, rfl⟩)
    go_ret
    exact ⟨rfl, Below.refl _ _⟩
  · have hb : (decide (1048576 < n0) || decide (1048576 < n1)) = false := by simp; omega
    rw [hb] at HL
    have hn0 : n0 ≤ 1048576 := by omega
    have H0 := Lib.hid h0
    have H1 := Lib.hid h1
    have HM := Lib.hid fun w' (h : Below w.heap.size w w') => (show w'.cell? ⟨1, 0, none⟩ = some (.int .i64 m) by rw [h.cell (p := ⟨1, 0, none⟩) (World.block_lt_of_cell? w _ hm)]; exact hm)
    have HT := Lib.hid fun w' (h : Below w.heap.size w w') => ht.below h (Nat.le_refl _)
    have HE := Lib.hid he
    have HX := Lib.hid fun w' (h : Below w.heap.size w w') => b10Whole_of a0 n0 c0 w' (H0.out.next h)
    have HY := Lib.hid fun w' (h : Below w.heap.size w w') => b10Whole_of a1 n1 c1 w' (H1.out.next h)
    clear hb hlong h0 h1 hm ht he
    go_enter Tryz.func3, Tryz.ntmps3
    go_wp2_with (go_at_call 4; (with_reducible refine (HL.out _).mono ?_); rintro e w' ⟨rfl, rfl⟩)
    go_wp2_with fail
    refine (HX.out _ (Below.refl _ _)).mono ?_
    rintro e w1 ⟨x1, x2, b1, cp1, l1, l2, l3, l4, rfl, hcl, hb⟩
    have K1 := Lib.hid hb
    clear hb
    go_wp2_with fail
    refine (HY.out _ K1.out).mono ?_
    rintro e w2 ⟨y1, y2, b2, cp2, l5, l6, l7, l8, rfl, hcl2, hb⟩
    have K2 := Lib.hid (below_next K1.out hb)
    clear hb
    have na1 : x1.natAbs ≤ 200 := by omega
    have na2 : x2.natAbs ≤ 200 := by omega
    have nb1 : y1.natAbs ≤ 200 := by omega
    have nb2 : y2.natAbs ≤ 200 := by omega
    have p1 : -40000 ≤ x1 * y1 ∧ x1 * y1 ≤ 40000 := by have := abs_mul_le na1 nb1; omega
    have p2 : -40000 ≤ x2 * y2 ∧ x2 * y2 ≤ 40000 := by have := abs_mul_le na2 nb2; omega
    have p3 : -40000 ≤ x1 * y2 ∧ x1 * y2 ≤ 40000 := by have := abs_mul_le na1 nb2; omega
    have p4 : -40000 ≤ x2 * y1 ∧ x2 * y1 ≤ 40000 := by have := abs_mul_le na2 nb1; omega
    have p5 : -40000 ≤ x1 * x1 ∧ x1 * x1 ≤ 40000 := by have := abs_mul_le na1 na1; omega
    have p6 : -40000 ≤ x2 * x2 ∧ x2 * x2 ≤ 40000 := by have := abs_mul_le na2 na2; omega
    have hH := heads_of na1 na2 nb1 nb2
    generalize floatOfInt .f32 x1 = A1 at hcl hH
    generalize floatOfInt .f32 x2 = A2 at hcl hH
    generalize floatOfInt .f32 y1 = B1 at hcl2 hH
    generalize floatOfInt .f32 y2 = B2 at hcl2 hH
    obtain ⟨⟨R, I, hm1, q1, q2, ⟨R2, I2, hm2, q3, q4⟩, hquo⟩, ⟨P, hp, q5⟩, ⟨N, R4, I4, hcj, hm3, q6, q7⟩, ⟨o, hlo, hro, hol⟩, ⟨R5, I5, R6, I6, hsc, hadd, q8, q9⟩, v1, v2, v3, v4, r1, r2⟩ := hH
    have HM1 := Lib.hid hm1
    have HM2 := Lib.hid hm2
    have HM3 := Lib.hid hm3
    have HPw := Lib.hid hp
    have HCj := Lib.hid hcj
    have HLo := Lib.hid hlo
    have HRo := Lib.hid hro
    have HOl := Lib.hid hol
    have HSc := Lib.hid hsc
    have HQu := Lib.hid hquo
    have V1 := fun w => run_convert_float_int (P := Tryz.prog) w 28 2 .f32 .i64 _ _ (by kernel_rfl) Tryz.underlying2 v1
    have V2 := fun w => run_convert_float_int (P := Tryz.prog) w 28 2 .f32 .i64 _ _ (by kernel_rfl) Tryz.underlying2 v2
    have V3 := fun w => run_convert_float_int (P := Tryz.prog) w 28 2 .f32 .i64 _ _ (by kernel_rfl) Tryz.underlying2 v3
    have V4 := fun w => run_convert_float_int (P := Tryz.prog) w 28 2 .f32 .i64 _ _ (by kernel_rfl) Tryz.underlying2 v4
    clear hm1 hm2 hm3 hp hcj hlo hro hol hsc hquo v1 v2 v3 v4
    go_wp2_with (first | (go_at_call 6; (with_reducible refine (HM1.out _).mono ?_); rintro e w' ⟨rfl, rfl⟩) | (go_at_call 6; (with_reducible refine (HM2.out _).mono ?_); rintro e w' ⟨rfl, rfl⟩) | (go_at_call 6; (with_reducible refine (HM3.out _).mono ?_); rintro e w' ⟨rfl, rfl⟩) | (go_at_call 7; (with_reducible refine (HPw.out _).mono ?_); rintro e w' ⟨rfl, rfl⟩) | (go_at_call 8; (with_reducible refine (HCj.out _).mono ?_); rintro e w' ⟨rfl, rfl⟩) | (go_at_call 10; (with_reducible refine (HLo.out _).mono ?_); rintro e w3 ⟨⟨v3, rfl, hv3⟩, k3, rfl⟩; have HV3 := Lib.hid hv3; clear hv3) | (go_at_call 11; (with_reducible refine (HRo.out _).mono ?_); rintro e w4 ⟨⟨v4, rfl, hv4⟩, k4, rfl⟩; have HV4 := Lib.hid hv4; clear hv4))
    have HSm := Lib.hid (root_same HV3.out HV4.out HOl.out)
    have hz : (FloatKind.f32.format.order B1 0 = some .eq ∧ FloatKind.f32.format.order B2 0 = some .eq) ∨ (∃ R3 I3, Hid (∀ w, Calls Tryz.prog 12 #[.complex .f32 R I, .complex .f32 B1 B2] w fun e w' => e = .returned (.complex .f32 R3 I3) ∧ w = w') ∧ FloatKind.f32.format.order R3 A1 = some .eq ∧ FloatKind.f32.format.order I3 A2 = some .eq ∧ FloatKind.f32.format.order B1 0 = some (compare y1 0) ∧ FloatKind.f32.format.order B2 0 = some (compare y2 0) ∧ ¬(y1 = 0 ∧ y2 = 0)) := by
      by_cases h00 : y1 * y1 + y2 * y2 = 0
      · obtain ⟨e1, e2⟩ := sq_zero h00
        rw [e1] at r1
        rw [e2] at r2
        exact .inl ⟨r1, r2⟩
      · obtain ⟨R3, I3, hq, qa, qb⟩ := HQu.out h00
        exact .inr ⟨R3, I3, hq, qa, qb, r1, r2, fun ⟨e1, e2⟩ => h00 (by rw [e1, e2]; rfl)⟩
    clear r1 r2 HQu
    rcases hz with ⟨r1, r2⟩ | ⟨R3, I3, HQ, qa, qb, r1, r2, hne⟩
    all_goals go_wp2_with (first | (go_at_call 9; (with_reducible refine (HSm.out _).mono ?_); rintro e w' ⟨rfl, rfl⟩) | (go_at_call 12; (with_reducible refine (HQ.out _).mono ?_); rintro e w' ⟨rfl, rfl⟩))
    all_goals
      have HAt := Lib.hid fun w' (h : Below w.heap.size w w') => b10At_of a0 n0 c0 0 9 w' (H0.out.next h) hn0 (by omega) (by omega) (by omega)
      have HAny := Lib.hid fun w' (h : Below w.heap.size w w') k hk => b10Any_of a1 n1 c1 k w' (H1.out.next h) hk
      have HNu := Lib.hid fun w' (h : Below w.heap.size w w') => b10Number_of a0 n0 c0 w' (H0.out.next h)
      have HCo := Lib.hid fun w' (h : Below w.heap.size w w') => b10Complex_of a0 n0 c0 w' (H0.out.next h)
      have K3 := Lib.hid (below_drewN K2.out (k3 + k4))
      clear p1 p2 p3 p4 p5 p6 na1 na2 nb1 nb2
      go_wp2_with (go_at_call 13; (with_reducible refine (HSc.out _).mono ?_); rintro e w' ⟨rfl, rfl⟩)
      refine (HAt.out _ K3.out).mono ?_
      rintro e w6 ⟨k, hx0, hx1, rfl, rfl⟩
      obtain ⟨k, rfl⟩ := Int.eq_ofNat_of_zero_le hx0
      go_wp2_with fail
      refine (HAny.out _ K3.out k (by omega)).mono ?_
      rintro e w7 ⟨v, zs, rfl, hl, hv, ho, hb⟩
      have K7 := Lib.hid (below_next K3.out hb)
      obtain ⟨ao, c, rfl, hfr, hat⟩ := crow_own ho
      have HFr7 := Lib.hid hfr
      have HV := Lib.hid hv
      have HLn := Lib.hid hl
      clear hb ho hfr hat hv hl
      have hk8 : k ≤ 8 := by omega
      have hlen : zs.length = k := HLn.out
      have hnt : ctAns zs = .returned (.tuple #[.string ⟨(ctext zs).toArray⟩, .bool true]) := by unfold ctAns; rw [if_pos (by omega), decide_eq_true (by omega : zs.length ≤ 256)]
      have hTx := fun w' h h2 => complexTextAll_of ao k c zs w' h (by omega) HV.out h2
      rw [hnt] at hTx
      have HTx := Lib.hid hTx
      obtain ⟨e1, e2⟩ := cl_ctext zs (by omega) HV.out
      have hsz : (⟨(ctext zs).toArray⟩ : ByteArray).size ≤ 1048576 := by
        show (ctext zs).toArray.size ≤ _
        have h9 := cjoin_len' zs
        unfold ctext
        split
        · decide
        · simp; omega
      have hRd := fun w' h1 h2 h3 => readC_of ⟨(ctext zs).toArray⟩ w' m hsz h1 h2 h3
      rw [show (⟨(ctext zs).toArray⟩ : ByteArray).data.toList = ctext zs from rfl, e1, e2] at hRd
      have HRd := Lib.hid hRd
      generalize (⟨(ctext zs).toArray⟩ : ByteArray) = T at HTx HRd
      clear hnt hTx e1 e2 hsz hRd
      go_wp2_with (first | (go_at_call 16; (with_reducible refine (HTx.out _ HFr7.out (HT.out _ K7.out)).mono ?_); rintro e w10 ⟨rfl, hb⟩; have K10 := Lib.hid (below_next K7.out hb); have HFr10 := Lib.hid (HFr7.out.below hb (Nat.le_refl _)); clear hb) | (go_at_call 17; (with_reducible refine (HRd.out _ (HM.out _ K10.out) (HT.out _ K10.out) (fun w' h => HE.out w' (below_next K10.out h))).mono ?_); rintro e w11 ⟨v2, rfl, ho, hb⟩; have K11 := Lib.hid (below_next K10.out hb); have HFr11 := Lib.hid (HFr10.out.below hb (Nat.le_refl _)); have HOw := Lib.hid ho; clear ho hb))
      refine (HNu.out _ K11.out).mono ?_
      rintro e w12 ⟨X, hX, rfl, hb⟩
      have K12 := Lib.hid (below_next K11.out hb)
      have HFr12 := Lib.hid (HFr11.out.below hb (Nat.le_refl _))
      have HOw12 := Lib.hid (own_below HOw.out hb (Nat.le_refl _))
      clear hb
      have HBi := Lib.hid fun w => (show Calls Tryz.prog 20 #[.float .f32 X] w fun e w' => e = .returned (.int .i64 ((bitsN X : Nat) : Int)) ∧ Quiet w w' by rw [← bitsN_eq]; exact bitsOf_any X w hX)
      have HFb := Lib.hid fun w => fromBits_in (bitsN X) w (bitsN_lt hX)
      have HS1 := Lib.hid fun w => (show Calls Tryz.prog 9 #[.float .f32 (bitsN X), .float .f32 X] w fun e w' => e = .returned (.bool true) ∧ w = w' by
        have := same_ok (bitsN X) X w (.inr (bitsN_lt hX)) (.inr hX)
        rwa [show (bitsOf (bitsN X) == bitsOf X) = true by rw [bitsN_eq, bitsN_eq, bitsN_bitsN]; simp] at this)
      go_wp2_with (first | (go_at_call 20; (with_reducible refine (HBi.out _).mono ?_); rintro e w13 ⟨rfl, q13, rfl⟩) | (go_at_call 19; (with_reducible refine (HFb.out _).mono ?_); rintro e w14 ⟨rfl, rfl⟩))
      refine (HCo.out _ (below_drewN K12.out _)).mono ?_
      rintro e w15 ⟨x, y, hx, hy, rfl, hb⟩
      have K15 := Lib.hid (below_next (below_drewN K12.out _) hb)
      have HFr15 := Lib.hid ((HFr12.out.quiet ⟨q13, rfl⟩).below hb (Nat.le_refl _))
      have HOw15 := own_below (w := w12.drewN q13) HOw12.out hb (Nat.le_refl _)
      rw [show (zs.map bitsZ).length = k by rw [List.length_map, HLn.out]] at HOw15
      obtain ⟨ao2, cc2, rfl, hr2, hz2⟩ := crow_own HOw15
      have HB10 := Lib.hid fun w' h1 h2 => b10Same_of ao2 ao k cc2 c zs w' h1 h2 HV.out (by omega)
      have HR15 := Lib.hid hr2
      clear hb hr2 hz2 HOw15
      have HNC := Lib.hid fun p q w h1 h2 => narrowC_wd p q x y w (.inr hx) (.inr hy) h1 h2
      have HSC1 := Lib.hid fun r s w hr hs h1 h2 => isameC_yes r s x y w hr hs (.inr hx) (.inr hy) h1 h2
      have HSC2 := Lib.hid fun w => isameC_yes x y x y w (.inr hx) (.inr hy) (.inr hx) (.inr hy) rfl rfl
      obtain ⟨ny, hny⟩ : ∃ ny, ny = Op.negFloat .f32 y := ⟨_, rfl⟩
      have HC1 := Lib.hid fun w => conj_of x y ny w hny
      have HC2 := Lib.hid fun w => conj_of x ny y w (by rw [hny, neg_neg])
      have hFC := fun w => finC_of x y w
      have hSF1 := fun w => specIsFinite_any x w
      have hSF2 := fun w => specIsFinite_any y w
      generalize fin32 x = fa at hFC hSF1
      generalize fin32 y = fb at hFC hSF2
      have HFC := Lib.hid hFC
      have HSF1 := Lib.hid hSF1
      have HSF2 := Lib.hid hSF2
      have hk0 : ((k : Int) == (k : Int)) = true := by simp
      clear hFC hSF1 hSF2 hny HNu HCo HX HY HAt HAny HTx HRd HBi HFb HL H0 H1 HM HT HE
      have hw1 : (nan32 x = false ∧ WdOf (wide x) x) ∨ (nan32 x = true ∧ ∀ w, WdOf (nanc .f64 x w) x) := by
        cases h : nan32 x
        · exact .inl ⟨rfl, .inl (narrow_wide x hx h)⟩
        · exact .inr ⟨rfl, fun w => .inr ⟨nanc64_nan _ _, h⟩⟩
      have hw2 : (nan32 y = false ∧ WdOf (wide y) y) ∨ (nan32 y = true ∧ ∀ w, WdOf (nanc .f64 y w) y) := by
        cases h : nan32 y
        · exact .inl ⟨rfl, .inl (narrow_wide y hy h)⟩
        · exact .inr ⟨rfl, fun w => .inr ⟨nanc64_nan _ _, h⟩⟩
      have hcv : ∀ z, nan32 z = false → ∀ w, (convert 28 46 (.float .f32 z)).run Tryz.prog w = .ok (.float .f64 (wide z)) w := fun z hz w => run_convert_float_float (P := Tryz.prog) w 28 46 .f32 .f64 z (wide z) (by kernel_rfl) Tryz.underlying46 (wide_conv z hz)
      have hcn : ∀ z, nan32 z = true → ∀ w, (convert 28 46 (.float .f32 z)).run Tryz.prog w = .ok (.float .f64 (nanc .f64 z w)) w.drew := fun z hz w => run_widen_nan (P := Tryz.prog) 28 46 z w (by kernel_rfl) Tryz.underlying46 hz
      have HCV := Lib.hid hcv
      have HCN := Lib.hid hcn
      clear hcv hcn hx hy hX
      cases fa
      all_goals
        rcases hw1 with ⟨n1, W1⟩ | ⟨n1, W1⟩
        all_goals
          rcases hw2 with ⟨n2, W2⟩ | ⟨n2, W2⟩
          all_goals
            have t1 := (by first | exact HCV.out x n1 | exact HCN.out x n1)
            have t2 := (by first | exact HCV.out y n2 | exact HCN.out y n2)
            have HW1 := Lib.hid W1
            have HW2 := Lib.hid W2
            clear n1 n2 W1 W2
            go_wp2_with (first | (go_at_call 22; (with_reducible refine (HB10.out _ (HR15.out.quiet (by first | exact Quiet.refl _ | exact Quiet.one _ | exact (Quiet.one _).trans (Quiet.one _))) (HFr15.out.quiet (by first | exact Quiet.refl _ | exact Quiet.one _ | exact (Quiet.one _).trans (Quiet.one _)))).mono ?_); rintro e w16 ⟨rfl, q16, rfl⟩) | (go_at_call 9; (with_reducible refine (HS1.out _).mono ?_); rintro e w' ⟨rfl, rfl⟩) | (go_at_call 24; (with_reducible refine (HNC.out _ _ _ (by first | exact HW1.out | exact HW1.out _) (by first | exact HW2.out | exact HW2.out _)).mono ?_); rintro e w17 ⟨⟨r, s, rfl, f1, f2, g1, g2⟩, q17, rfl⟩; have HFi := Lib.hid (And.intro (And.intro f1 f2) (And.intro g1 g2)); clear f1 f2 g1 g2) | (go_at_call 23; (with_reducible refine (HSC1.out _ _ _ HFi.out.1.1 HFi.out.1.2 HFi.out.2.1 HFi.out.2.2).mono ?_); rintro e w18 ⟨rfl, q18, rfl⟩) | (go_at_call 23; (with_reducible refine (HSC2.out _).mono ?_); rintro e w19 ⟨rfl, q19, rfl⟩) | (go_at_call 8; (with_reducible refine (HC1.out _).mono ?_); rintro e w' ⟨rfl, rfl⟩) | (go_at_call 8; (with_reducible refine (HC2.out _).mono ?_); rintro e w' ⟨rfl, rfl⟩) | (go_at_call 25; (with_reducible refine (HFC.out _).mono ?_); rintro e w20 ⟨rfl, q20, rfl⟩) | (go_at_call 26; (with_reducible refine (HSF1.out _).mono ?_); rintro e w21 ⟨rfl, q21, rfl⟩) | (go_at_call 26; (with_reducible refine (HSF2.out _).mono ?_); rintro e w22 ⟨rfl, q22, rfl⟩))
    all_goals (go_ret; exact ⟨rfl, below_drewN K15.out _⟩)
end Go.Proofs.YtjcjijfemedojaaGreatDoor.pFnProducts

namespace Go.Proofs.YtjcjijfemedojaaGreatDoor.pFnProducts
open Fl Go.ChangeShapes Go.WideShapes Go.ChangeAt Go.WideMaps Go.WideElems Go.RowKit
open Go.ChangeMaps (open_string shut_string)

theorem laidOut : laidOutB Tryz.prog = true := by kernel_rfl
theorem own : ownKnob Tryz.prog.godebug = none := by kernel_rfl
def db64 : List Int := [0, 1, 56, 2, 57, 49, 28, 3, 61, 58, 42, 50, 38, 29, 17, 4, 62, 47, 59, 36, 45, 43, 51, 22, 53, 39, 33, 30, 24, 18, 12, 5, 63, 55, 48, 27, 60, 41, 37, 16, 46, 35, 44, 21, 52, 32, 23, 11, 54, 26, 40, 15, 34, 20, 31, 10, 25, 14, 19, 9, 13, 8, 7, 6]
theorem gDb : Tryz.prog.globalNamed "math/bits.deBruijn64tab" = some 8 := by kernel_rfl
theorem tDb : (Tryz.prog.globals[8]?).map (·.type) = some 154 := by kernel_rfl
theorem gSyn : Tryz.prog.globalNamed "strconv.ErrSyntax" = some 3 := by kernel_rfl
theorem tSyn : (Tryz.prog.globals[3]?).map (·.type) = some 92 := by kernel_rfl
theorem gRan : Tryz.prog.globalNamed "strconv.ErrRange" = some 4 := by kernel_rfl
theorem tRan : (Tryz.prog.globals[4]?).map (·.type) = some 92 := by kernel_rfl
theorem star : "*" ++ "errors.errorString" = "*errors.errorString" := by decide
theorem rowE (u : TypeId) (h : Tryz.prog.typeName? 3 u = some "*errors.errorString") : u = 150 :=
  typeName_ptr_named (nm := "errors.errorString") (by rw [star]; kernel_rfl) (by kernel_rfl) (by decide) u (by rw [star]; exact h)
theorem of_laid {W : World} (h : laidMetH Tryz.prog Rows.fnProductsRow.laid W) : Tz W ∧ ∀ w', Below W.heap.size W w' → Errs w' := by
  rw [MakeChecks.laidMetH_plain _ _ _ (by kernel_rfl)] at h
  have h2 := (laidMet.tail (laidMet.tail h))
  have h1 := laidMet.tail h
  have ht : Lib.TabIs Tryz.prog W "math/bits.deBruijn64tab" .u8 db64 := Lib.tabIs_of_head gDb tDb Tryz.underlying154 Tryz.underlying5 (by kernel_rfl) (by kernel_rfl) h1
  refine ⟨ht.cell gDb 15 (by decide), ?_⟩
  obtain ⟨a0, s0, hv0, -, -, -⟩ := laid_sentinel h2.tail.tail gRan tRan Tryz.underlying92 rowE Tryz.underlying150 Tryz.underlying152 rfl rfl Tryz.underlying9 (by kernel_rfl) (by kernel_rfl)
  obtain ⟨a1, s1, hv1, -, -, -⟩ := laid_sentinel h2.tail.tail.tail gSyn tSyn Tryz.underlying92 rowE Tryz.underlying150 Tryz.underlying152 rfl rfl Tryz.underlying9 (by kernel_rfl) (by kernel_rfl)
  exact fun w' hb => ⟨_, _, _, _, Joins.var_stays gSyn hv1 hb (Nat.le_refl _), Joins.var_stays gRan hv0 hb (Nat.le_refl _)⟩

theorem maxLenCell {W : World} (h : W.ShapedOpen Tryz.prog) : ∃ m, W.cell? ⟨1, 0, none⟩ = some (.int .i64 m) :=
  cell_of_shapedOpen_int (g := 1) (zero := #[.int .i64 0]) (t := 3) h (of_decide_eq_true (by kernel_rfl)) (by kernel_rfl) rfl (by kernel_rfl) (by kernel_rfl) Tryz.underlying3

set_option maxRecDepth 100000 in
theorem lifted (os : Os) (started : os.Started) (H : Type) (enc : TypeId × Value → H) :
    ReturnsInHanded {} Tryz.checked os 3 .any (fun w args => (Rows.fnProductsSpec.pre enc Tryz.prog Tryz.f3 [] false w args ∧ laidMetH Tryz.prog Rows.fnProductsRow.laid w) ∧ sizedMet enc Tryz.prog Tryz.f3 (OpenSpec.ofChange Rows.fnProductsSpec) false w args)
      (Rows.fnProductsSpec.post enc Tryz.prog Tryz.f3 false true false false) := by
  refine returnsInHanded_of_calls own started (by kernel_rfl)
    (ChangeSpec.witness_shaped (enc := enc) (C := Tryz.checked) (os := os) (X := fun w _ => laidMetH Tryz.prog Rows.fnProductsRow.laid w) false (World.laidAll Tryz.prog os Rows.fnProductsRow.laid) #[.slice none 0 0, .slice none 0 0] 8 (World.laidAll_os _ _ _)
      (World.shaped_of_ZipB (by kernel_rfl) (by kernel_rfl)) (by kernel_rfl) (by kernel_rfl) (by kernel_rfl)
      (by rw [MakeChecks.laidMetH_plain _ _ _ (by kernel_rfl)]; exact laidMet_laidAll _ (by kernel_rfl) (by kernel_rfl))) ?_
  intro w0 tape i _ hshape _ hok hpre _
  obtain ⟨_, _, _, fn', hfn', _, _, _, _, hval0⟩ := hok
  obtain rfl : fn' = Tryz.f3 := Option.some.inj (hfn'.symm.trans Tryz.func3)
  obtain ⟨⟨⟨ds, gs, before, hw0, hc⟩, hx⟩, hz⟩ := hpre
  have hW := DataW.Whole.of_heap (w' := w0.forCall tape i) (by rfl) hw0
  have hL : laidMetH Tryz.prog Rows.fnProductsRow.laid (w0.forCall tape i) := hx.of_heap (by rfl)
  generalize hWW : w0.forCall tape i = W at hval0 hW hL hshape ⊢
  generalize i.args = args at hval0 hW ⊢
  suffices hcalls : Calls Tryz.prog 3 args W fun e W' => ∃ v, e = .returned v ∧ Rows.fnProductsSpec.post enc Tryz.prog Tryz.f3 false true false false W args v W' by
    refine hcalls.mono fun e W' ⟨v, he, hp⟩ => ?_
    subst he
    subst hWW
    exact ChangeSpec.post_blind hp
  have hval : ∀ (j : Nat) t v, Tryz.f3.params[j]? = some t → args[j]? = some v → Value.okWide Tryz.prog W .any w0.heap.size t v := hval0
  have hW' := hW
  obtain ⟨p, q, hA0, hV, rfl, hfz, hnd⟩ := hW
  have hA : DataW.TrodAll enc Tryz.prog W 0 (fun _ => true) true Tryz.f3.params.toList args.toList ds p := hA0
  rw [Tryz.params3] at hA hval
  obtain ⟨v0, vs0, d0, ds0, p0, q0, hargs, rfl, rfl, h0, r0⟩ := trodAll_cons hA
  obtain ⟨v1, vs1, d1, ds1, p1, q1, rfl, rfl, rfl, h1, r1⟩ := trodAll_cons r0
  obtain ⟨rfl, rfl, rfl⟩ := trodAll_nil r1
  obtain rfl : args = #[v0, v1] := by cases args; simp_all
  obtain ⟨rfl, rfl⟩ := trodVars_none hV
  obtain ⟨a0, n0, c0, rfl⟩ := okWide_slice Tryz.underlying22 (hval 0 22 v0 rfl rfl)
  obtain ⟨a1, n1, c1, rfl⟩ := okWide_slice Tryz.underlying22 (hval 1 22 v1 rfl rfl)
  have k0 := h0
  have k1 := h1
  have lt0 : ∀ x ∈ p0, x.block < W.heap.size := by obtain ⟨m, hm⟩ := k0; exact DataW.trod_lt m _ _ _ hm
  have lt1 : ∀ x ∈ p1, x.block < W.heap.size := by obtain ⟨m, hm⟩ := k1; exact DataW.trod_lt m _ _ _ hm
  have br0 := open_brow Tryz.underlying22 Tryz.underlying5 (by kernel_rfl) h0
  have br1 := open_brow Tryz.underlying22 Tryz.underlying5 (by kernel_rfl) h1
  clear hA0 hval0
  obtain ⟨m, hm⟩ := maxLenCell hshape
  refine (walk a0 a1 n0 c0 n1 c1 W m br0 br1 hm (of_laid hL).1 (of_laid hL).2).mono fun e W' ⟨he, bel⟩ => ?_
  subst he
  exact ⟨_, rfl, _, _, _, [], _, [], hW', trodAll_mk1 (shut_bool Tryz.underlying4 _), (trodAll_cons_mk (Below.trod laidOut (by kernel_rfl) (of_decide_eq_true (by kernel_rfl)) k0 bel lt0) (trodAll_cons_mk (Below.trod laidOut (by kernel_rfl) (of_decide_eq_true (by kernel_rfl)) k1 bel lt1) trodAll_mk0)), rfl, bel.frame _, fun h => by cases h⟩

theorem fnProducts_holds : Rows.FnProductsSaid :=
  OpenClaim.holds_of_wide 3 Tryz.f3 rfl rfl rfl rfl rfl rfl rfl ⟨rfl, rfl, rfl, rfl, rfl⟩ rfl rfl rfl rfl rfl (by kernel_rfl) Tryz.func3 (by kernel_rfl)
    (of_decide_eq_true (by kernel_rfl)) (by unfold Func.isWrapper; rw [if_neg (of_decide_eq_false (by kernel_rfl))]; exact ⟨rfl, rfl⟩)
    (fun os started H enc _ => lifted os started H enc)

theorem card_holds : Rows.FnProductsCardSaid :=
  Claim7.holds_tied_plain_at .later [] [.data, .data, .data, .data, .sentinel, .sentinel, .pinned] true Rows.fnProductsCard.stood.harness true
    fnProducts_holds (fun _ h => by cases h) (by kernel_rfl) (fun _ h => by cases h) fnProducts_row_tie rfl ⟨rfl, rfl⟩ (by kernel_rfl) rfl
    (fun f fn hf hfn => by
      obtain rfl : f = 3 := Option.some.inj ((show Tryz.prog.funcNamed "loop.example/g01268/laws.FnProducts" = some 3 by kernel_rfl).symm.trans hf) |>.symm
      obtain rfl : fn = Tryz.f3 := (Option.some.inj (Tryz.func3.symm.trans hfn)).symm
      exact ⟨by kernel_rfl, fun j t ht => by
        rw [Tryz.params3] at ht
        have hm : t ∈ [22, 22] := by simpa using Array.mem_of_getElem? ht
        have hall : ([22, 22].all fun u => !Tryz.prog.wantsStandIn u) = true := by kernel_rfl
        exact (show Tryz.prog.wantsStandIn t = false by simpa using List.all_eq_true.1 hall t hm)⟩)
    (by kernel_rfl)

end Go.Proofs.YtjcjijfemedojaaGreatDoor.pFnProducts
