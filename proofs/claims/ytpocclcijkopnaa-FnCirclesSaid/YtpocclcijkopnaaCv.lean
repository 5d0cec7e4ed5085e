/- The law FnCircles: the walk. -/
import Derived.Test.YtpocclcijkopnaaCu
import Derived.Test.YtpocclcijkopnaaB10
namespace Go.Proofs.Ytpocclcijkopnaa.pFnCircles
open Go.RowKit Fl

theorem log_small {n : Nat} (h : n ≤ 40000) : n.log2 ≤ 23 := log2_le _ 23 (Nat.lt_of_le_of_lt h (by decide))
theorem ten_one (w : World) : Calls Try.prog 47 #[.float .f32 1065353216] w fun e w' => e = .returned (.tuple #[.int .i64 0, .bool true]) ∧ Quiet w w' := by
  have h := tenthsOf_of 64 200 (by decide) (log2_le _ 23 (by decide)) (by have := tab_at 64 (by decide) (by rw [tab64]; decide); rwa [tab64] at this) w
  rw [w32_64] at h
  exact h
theorem angle_one (w : World) : Calls Try.prog 42 #[.complex .f32 0 1065353216] w fun e w' => e = .returned (.float .f32 1048576000) ∧ Quiet w w' :=
  angleOf_of 1065353216 0 1048576000 (by kernel_rfl) (by kernel_rfl) w
theorem same_one (w : World) : Calls Try.prog 48 #[.float .f32 1048576000, .float .f32 0] w fun e w' => e = .returned (.bool false) ∧ w = w' := by
  have h := specSameNumber_any 1048576000 0 w (by decide) (by decide)
  rwa [show (bitsOf 1048576000 == bitsOf 0) = false by kernel_rfl] at h
set_option maxRecDepth 100000 in
set_option maxHeartbeats 6400000 in
theorem walkq (a0 : Option Addr) (n0 c0 : Nat) (a1 : Option Addr) (n1 c1 : Nat) (w : World) (h0 : BRow w a0 n0) (h1 : BRow w a1 n1) :
    Calls Try.prog 6 #[.slice a0 n0 c0, .slice a1 n1 c1] w fun e w' => e = .returned (.bool true) ∧ Quiet w w' := by
  have HL := Lib.hid fun w => b10Long_of a0 a1 n0 c0 n1 c1 w
  by_cases hlong : 1048576 < n0 ∨ 1048576 < n1
  · have hb : (decide (1048576 < n0) || decide (1048576 < n1)) = true := by simp; exact hlong
    rw [hb] at HL
    clear hb hlong h0 h1
    go_enter Try.func6, Try.ntmps6
    go_wp2_with (go_at_call 39; (with_reducible refine (HL.out _).mono ?_); rintro e w' ⟨rfl, rfl⟩)
    go_ret
    exact ⟨rfl, Quiet.refl _⟩
  · have hb : (decide (1048576 < n0) || decide (1048576 < n1)) = false := by simp; omega
    rw [hb] at HL
    have hn0 : n0 ≤ 1048576 := by omega
    have hn1 : n1 ≤ 1048576 := by omega
    have HA := Lib.hid (b10At_of a0 n0 c0 0 256 w h0 hn0 (by omega) (by omega) (by omega))
    have HB := Lib.hid (b10At_of a0 n0 c0 1 256 w h0 hn0 (by omega) (by omega) (by omega))
    have HX := Lib.hid fun w' (h : Quiet w w') => b10At_of a1 n1 c1 0 200 w' (h1.next (h.below _)) hn1 (by omega) (by omega) (by omega)
    have HY := Lib.hid fun w' (h : Quiet w w') => b10At_of a1 n1 c1 1 200 w' (h1.next (h.below _)) hn1 (by omega) (by omega) (by omega)
    clear hb hlong h0 h1 hn0 hn1
    go_enter Try.func6, Try.ntmps6
    go_wp2_with (go_at_call 39; (with_reducible refine (HL.out _).mono ?_); rintro e w' ⟨rfl, rfl⟩)
    go_wp2_with fail
    refine HA.out.mono ?_
    rintro e w1 ⟨x, hx0, hx1, rfl, rfl⟩
    obtain ⟨a, rfl⟩ : ∃ a, x = a + 128 := ⟨x - 128, by omega⟩
    go_wp2_with fail
    refine HB.out.mono ?_
    rintro e w1 ⟨x, hy0, hy1, rfl, rfl⟩
    obtain ⟨b, rfl⟩ : ∃ b, x = b + 128 := ⟨x - 128, by omega⟩
    have b1 : -128 ≤ a := by omega
    have b2 : a < 128 := by omega
    have b3 : -128 ≤ b := by omega
    have b4 : b < 128 := by omega
    clear hx0 hx1 hy0 hy1
    obtain ⟨ya, ea, PA⟩ := phasor_call a (by omega) (by omega)
    obtain ⟨yb, eb, PB⟩ := phasor_call b (by omega) (by omega)
    obtain ⟨yc, ec, PC⟩ := phasor_call (a + b) (by omega) (by omega)
    have va := fun w => run_float_arith (P := Try.prog) w .quo 47 .f64 _ _ _ ea
    have vb := fun w => run_float_arith (P := Try.prog) w .quo 47 .f64 _ _ _ eb
    have vc := fun w => run_float_arith (P := Try.prog) w .quo 47 .f64 _ _ _ ec
    clear ea eb ec
    obtain ⟨n1, n2, ok, an, pw⟩ := ang_at (kOf a) (kOf_lt a)
    obtain ⟨q1, q2, _, _, _⟩ := ang_at (kOf b) (kOf_lt b)
    obtain ⟨r1, r2, _, _, _⟩ := ang_at (kOf (a + b)) (kOf_lt (a + b))
    have HAn := Lib.hid fun w => angleOf_of _ _ _ ok an w
    have HPw := Lib.hid fun w => powF_of (pt (kOf a)) _ n1 n2 pw w
    obtain ⟨m, hm, m1, m2, hnear⟩ := mul_at (kOf a) (kOf b) (kOf_lt a) (kOf_lt b)
    rw [← kOf_add] at hnear
    have HMu := Lib.hid fun w => mulF_of (pt (kOf a)) (pt (kOf b)) m n1 n2 q1 q2 hm w
    have HNe := Lib.hid fun w => nearF_of m (pt (kOf (a + b))) one4 m1 m2 r1 r2 hnear w
    obtain ⟨d1, g1, z1, o1⟩ := pow_at (kOf a) (kOf_lt a)
    have HG1 := Lib.hid fun w => gapF_of _ _ d1 g1 w
    obtain ⟨g, t, s, n, d2, t1, t2, t3, t4, g2, z2, u1, u2, u3, o2⟩ := turn_at a b1 b2
    have HG2 := Lib.hid fun w => gapF_of _ _ d2 g2 w
    have k1 := fun w => run_convert_float_float (P := Try.prog) w 35 47 .f32 .f64 (AT.getD (kOf a) 0) (wide (AT.getD (kOf a) 0)) (by kernel_rfl) Try.underlying47 (wide_conv _ z2)
    have k2 := fun w => run_convert_float_float (P := Try.prog) w 35 47 .f32 .f64 (WT.getD (kOf a) 0) (wide (WT.getD (kOf a) 0)) (by kernel_rfl) Try.underlying47 (wide_conv _ z1)
    have k3 := fun w => run_convert_float_float (P := Try.prog) w 35 47 .f32 .f64 (pt (kOf a)).1 (wide (pt (kOf a)).1) (by kernel_rfl) Try.underlying47 (wide_conv _ n1)
    have k4 := fun w => run_float_arith (P := Try.prog) w .mul 47 .f64 _ _ _ t1
    have k5 := fun w => run_float_arith (P := Try.prog) w .sub 47 .f64 _ _ _ t2
    have k6 := fun w => run_float_arith (P := Try.prog) w .add 47 .f64 _ _ _ t3
    have k7 := fun w => run_convert_float_int (P := Try.prog) w 47 2 .f64 .i64 s _ (by kernel_rfl) Try.underlying2 t4
    have HAx := Lib.hid fun h => axis_at a h
    unfold one4 at o1 HNe
    clear n1 n2 ok an pw q1 q2 r1 r2 hm m1 m2 hnear g1 z1 t1 t2 t3 t4 g2 z2
    generalize pt (kOf a) = pa at *
    generalize pt (kOf b) = pb at *
    generalize pt (kOf (a + b)) = pc at *
    generalize AT.getD (kOf a) 0 = ang at *
    generalize WT.getD (kOf a) 0 = pow at *
    go_wp2_with (first | (go_at_call 41; (with_reducible refine (PA.out _).mono ?_); rintro e w' ⟨rfl, rfl⟩) | (go_at_call 41; (with_reducible refine (PB.out _).mono ?_); rintro e w' ⟨rfl, rfl⟩) | (go_at_call 41; (with_reducible refine (PC.out _).mono ?_); rintro e w' ⟨rfl, rfl⟩))
    go_wp2_with fail
    refine (HAn.out _).mono ?_
    rintro e w1 ⟨rfl, hq1⟩
    have Q1 := Lib.hid hq1
    clear hq1
    have hax : (a.tmod 16 = 0 → False) ∨ (a.tmod 16 = 0 ∧ ∃ d3, (Hid (∀ w, Calls Try.prog 43 #[.float .f64 (wide pa.1), .float .f64 0] w fun e w' => e = .returned (.float .f64 d3) ∧ w = w')) ∧ (FloatKind.f64.format.order d3 0 = some .eq ∨ FloatKind.f64.format.order d3 0 = some .gt ∧ FloatKind.f64.format.order d3 4607182418800017408 = some .eq)) := by
      by_cases h : a.tmod 16 = 0
      · obtain ⟨d3, g3, o3⟩ := HAx.out h
        exact .inr ⟨h, d3, fun w => gapF_of _ _ d3 g3 w, o3⟩
      · exact .inl h
    clear HAx
    rcases hax with h16 | ⟨h16, d3, HG3, h3 | ⟨h3, h4⟩⟩
    all_goals
      go_wp2_with (first | (go_at_call 44; (with_reducible refine (HPw.out _).mono ?_); rintro e w' ⟨rfl, rfl⟩) | (go_at_call 46; (with_reducible refine (HMu.out _).mono ?_); rintro e w' ⟨rfl, rfl⟩) | (go_at_call 45; (with_reducible refine (HNe.out _).mono ?_); rintro e w' ⟨rfl, rfl⟩) | (go_at_call 43; (with_reducible refine (HG1.out _).mono ?_); rintro e w' ⟨rfl, rfl⟩) | (go_at_call 43; (with_reducible refine (HG2.out _).mono ?_); rintro e w' ⟨rfl, rfl⟩) | (go_at_call 43; (with_reducible refine (HG3.out _).mono ?_); rintro e w' ⟨rfl, rfl⟩))
      refine (HX.out _ Q1.out).mono ?_
      rintro e w2 ⟨x, hx0, hx1, rfl, rfl⟩
      obtain ⟨i, rfl⟩ : ∃ i : Nat, x = (i : Int) := ⟨x.toNat, by omega⟩
      have ex := x_at (i : Int) hx0 hx1
      rw [Int.toNat_natCast] at ex
      have vx := fun w => run_float_arith (P := Try.prog) w .quo 35 .f32 _ _ _ ex
      clear ex
      go_wp2_with fail
      refine (HY.out _ Q1.out).mono ?_
      rintro e w2 ⟨y, hy0, hy1, rfl, rfl⟩
      obtain ⟨k, rfl⟩ : ∃ k : Nat, y = (k : Int) := ⟨y.toNat, by omega⟩
      have ey := x_at (k : Int) hy0 hy1
      rw [Int.toNat_natCast] at ey
      have vy := fun w => run_float_arith (P := Try.prog) w .quo 35 .f32 _ _ _ ey
      clear ey
      have vxy := fun w => run_float_arith (P := Try.prog) w .mul 35 .f32 _ _ _ (xy_at (i + 1) (k + 1) (by omega) (by omega) (by omega) (by omega))
      obtain ⟨p1, p2, p3, p4, p5⟩ := pair_at (i + 1) (k + 1) (by omega) (by omega) (by omega) (by omega)
      have hik : (i + 1) * (k + 1) ≤ 40000 := Nat.mul_le_mul (show i + 1 ≤ 200 by omega) (show k + 1 ≤ 200 by omega)
      have hik0 : (i + 1) * (k + 1) ≠ 0 := Nat.mul_ne_zero (by omega) (by omega)
      have T1 := Lib.hid fun w => tenthsOf_of (8 * (i + 1)) _ (by omega) (log_small (by omega)) (tab_at (8 * (i + 1)) (by omega) p1) w
      have T2 := Lib.hid fun w => tenthsOf_of (8 * (k + 1)) _ (by omega) (log_small (by omega)) (tab_at (8 * (k + 1)) (by omega) p2) w
      have T3 := Lib.hid fun w => tenthsOf_of ((i + 1) * (k + 1)) _ hik0 (log_small (by omega)) (tab_at ((i + 1) * (k + 1)) (by omega) p3) w
      have q1 := tab_lt (8 * (i + 1))
      have q2 := tab_lt (8 * (k + 1))
      have q3 := tab_lt ((i + 1) * (k + 1))
      generalize tab (8 * (i + 1)) = t1 at *
      generalize tab (8 * (k + 1)) = t2 at *
      generalize tab ((i + 1) * (k + 1)) = t3 at *
      generalize w32 (8 * (i + 1)) = x1 at *
      generalize w32 (8 * (k + 1)) = x2 at *
      generalize w32 ((i + 1) * (k + 1)) = x3 at *
      clear hik hik0 p1 p2 p3
      go_wp2_with fail
      refine (T1.out _).mono ?_
      rintro e w2 ⟨rfl, hq⟩
      have Q2 := Lib.hid (Q1.out.trans hq)
      clear hq
      go_wp2_with fail
      refine (T2.out _).mono ?_
      rintro e w3 ⟨rfl, hq⟩
      have Q3 := Lib.hid (Q2.out.trans hq)
      clear hq
      go_wp2_with fail
      refine (T3.out _).mono ?_
      rintro e w4 ⟨rfl, hq⟩
      have Q4 := Lib.hid (Q3.out.trans hq)
      clear hq
      have T4 := Lib.hid ten_one
      have HI := Lib.hid angle_one
      have HS := Lib.hid same_one
      go_wp2_with fail
      refine (T4.out _).mono ?_
      rintro e w5 ⟨rfl, hq⟩
      have Q5 := Lib.hid (Q4.out.trans hq)
      clear hq
      go_wp2_with fail
      refine (HI.out _).mono ?_
      rintro e w6 ⟨rfl, hq⟩
      have Q6 := Lib.hid (Q5.out.trans hq)
      clear hq
      go_wp2_with (go_at_call 48; (with_reducible refine (HS.out _).mono ?_); rintro e w' ⟨rfl, rfl⟩)
      go_ret
      exact ⟨rfl, Q6.out⟩
end Go.Proofs.Ytpocclcijkopnaa.pFnCircles
