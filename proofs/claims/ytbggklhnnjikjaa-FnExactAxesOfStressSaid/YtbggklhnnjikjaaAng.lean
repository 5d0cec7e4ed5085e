/- Contracts of AngleTurns, on both sides. -/
import Derived.Test.YtbggklhnnjikjaaAngf
import Derived.Test.YtbggklhnnjikjaaSint
import Derived.Test.YtbggklhnnjikjaaSub
import Derived.Deep.Cut
import Derived.Deep.DeepCutAuto
namespace Go.Proofs.Ytbggklhnnjikjaa
open Go.RowKit Fl

set_option maxHeartbeats 3200000 in
theorem arcOf_of (t0 r : Nat) (w : World) (h : ArcRel t0 r) : Calls Try.prog 122 #[.float .f64 t0] w fun e w' => e = .returned (.float .f64 r) ∧ w = w' := by
  obtain ⟨T, P, u, a, b, hT0, hT, hu, hP, hstep, ha, hb, hr⟩ := h
  have HT0 := Lib.hid hT0
  have HT := Lib.hid hT
  have HP := Lib.hid hP
  have HS := Lib.hid hstep
  have eu := fun w => run_float_arith (P := Try.prog) w .mul 47 .f64 _ _ _ hu
  have ea := fun w => run_float_arith (P := Try.prog) w .mul 47 .f64 _ _ _ ha
  have eb := fun w => run_float_arith (P := Try.prog) w .mul 47 .f64 _ _ _ hb
  have er := fun w => run_float_arith (P := Try.prog) w .quo 47 .f64 _ _ _ hr
  clear hT0 hT hu hP hstep ha hb hr
  go_enter Try.func122, Try.ntmps122
  go_wp2
  go_loop [0, 6] (fun t i => ∃ k : Nat, k ≤ 3 ∧ i = .int .i64 k ∧ t = .float .f64 (T k)) (fun _ i => 3 - (intOf i).toNat)
  case atStart => exact ⟨0, by omega, rfl, by rw [HT0.out]⟩
  case round =>
    obtain ⟨k, hk, rfl, rfl⟩ := hrel
    by_cases hk3 : k < 3
    · obtain ⟨a1, b1, c1, d1, s1, s2, s3, s4, s5⟩ := HT.out k hk3
      have k1 := fun w => run_float_arith (P := Try.prog) w .mul 47 .f64 _ _ _ s1
      have k2 := fun w => run_float_arith (P := Try.prog) w .add 47 .f64 _ _ _ s2
      have k4 := fun w => run_float_arith (P := Try.prog) w .add 47 .f64 _ _ _ s4
      have k5 := fun w => run_float_arith (P := Try.prog) w .quo 47 .f64 _ _ _ s5
      have s3' := Lib.hid s3
      clear s1 s2 s3 s4 s5
      go_wp2_with (go_at_call 106; go_loud (refine (sqrt_some _ _ _ s3'.out).mono ?_); rintro e w' ⟨rfl, rfl⟩)
      go_round
      case rel => exact ⟨k + 1, by omega, by go_num, rfl⟩
      case measure => simp [intOf]; omega
    · obtain rfl : k = 3 := by omega
      go_wp2
      go_loop [4, 5] (fun p i => ∃ j : Nat, j ≤ 8 ∧ i = .int .i64 (2 * (j : Int) - 1) ∧ p = .float .f64 (P j)) (fun _ i => (intOf i + 2).toNat)
      case atStart => exact ⟨8, by omega, rfl, by rw [HP.out]⟩
      case round =>
        obtain ⟨j, hj, rfl, rfl⟩ := hrel
        by_cases hj0 : 1 ≤ j
        · obtain ⟨a1, b1, s1, s2, s3⟩ := HS.out j hj0 hj
          have k1 := fun w => run_float_arith (P := Try.prog) w .quo 47 .f64 _ _ _ s1
          have k2 := fun w => run_float_arith (P := Try.prog) w .mul 47 .f64 _ _ _ s2
          have k3 := fun w => run_float_arith (P := Try.prog) w .sub 47 .f64 _ _ _ s3
          clear s1 s2 s3
          have hj8 : j = 1 ∨ j = 2 ∨ j = 3 ∨ j = 4 ∨ j = 5 ∨ j = 6 ∨ j = 7 ∨ j = 8 := by omega
          rcases hj8 with rfl | rfl | rfl | rfl | rfl | rfl | rfl | rfl
          all_goals
            first | rw [show floatOfInt .f64 ((2 * 1 - 1 : Nat) : Int) = floatOfInt .f64 1 from rfl] at k1 | rw [show floatOfInt .f64 ((2 * 2 - 1 : Nat) : Int) = floatOfInt .f64 3 from rfl] at k1 | rw [show floatOfInt .f64 ((2 * 3 - 1 : Nat) : Int) = floatOfInt .f64 5 from rfl] at k1 | rw [show floatOfInt .f64 ((2 * 4 - 1 : Nat) : Int) = floatOfInt .f64 7 from rfl] at k1 | rw [show floatOfInt .f64 ((2 * 5 - 1 : Nat) : Int) = floatOfInt .f64 9 from rfl] at k1 | rw [show floatOfInt .f64 ((2 * 6 - 1 : Nat) : Int) = floatOfInt .f64 11 from rfl] at k1 | rw [show floatOfInt .f64 ((2 * 7 - 1 : Nat) : Int) = floatOfInt .f64 13 from rfl] at k1 | rw [show floatOfInt .f64 ((2 * 8 - 1 : Nat) : Int) = floatOfInt .f64 15 from rfl] at k1
            clear hj hj0
            go_wp2
            go_round
            all_goals first | exact ⟨_, by decide, rfl, rfl⟩ | simp [intOf]
        · obtain rfl : j = 0 := by omega
          go_wp2
          go_ret
          exact ⟨rfl, rfl⟩

/-- what becomes of the arc -/
def AngEnd (over sx sy : Bool) (arc r : Nat) : Prop := ∃ g1 g2, (if over then floatBits .sub .f64 4598175219545276416 arc = some g1 else g1 = arc) ∧ (if sx then floatBits .sub .f64 4602678819172646912 g1 = some g2 else g2 = g1) ∧ r = if sy then Op.negFloat .f64 g2 else g2

theorem abs_lit (a : Nat) (w : World) (ha : a < 18446744073709551616) (A : Nat) (hA : A = a % 2 ^ 63) :
    Calls Try.prog 120 #[.float .f64 a] w fun e w' => e = .returned (.float .f64 A) ∧ w = w' := by
  subst hA; exact abs_any a w ha

set_option maxRecDepth 100000 in
set_option maxHeartbeats 3200000 in
theorem l01AngleWide_of (Y X A B t0 arc r : Nat) (over sx sy zx zy : Bool) (w : World) (hY : fin64 Y = true) (hX : fin64 X = true) (hY64 : Y < 18446744073709551616) (hX64 : X < 18446744073709551616) (hA : A = Y % 2 ^ 63) (hB : B = X % 2 ^ 63)
    (hzx : (FloatKind.f64.format.order X 0 == some .eq) = zx) (hzy : (FloatKind.f64.format.order Y 0 == some .eq) = zy) (hz : (zx && zy) = false)
    (hov : (FloatKind.f64.format.order A B == some .gt) = over) (ht0 : floatBits .quo .f64 (if over then B else A) (if over then A else B) = some t0)
    (hsx : (FloatKind.f64.format.order X 0 == some .lt) = sx) (hsy : (FloatKind.f64.format.order Y 0 == some .lt) = sy)
    (h : ArcRel t0 arc) (he : AngEnd over sx sy arc r) :
    Calls Try.prog 109 #[.float .f64 Y, .float .f64 X] w fun e w' => e = .returned (.float .f64 r) ∧ w = w' := by
  obtain ⟨T, P, u, a, b, hT0, hT, hu, hP, hstep, ha, hb, hr⟩ := h
  obtain ⟨g1, g2, hg1, hg2, hrr⟩ := he
  have eY := fun w => run_float_arith (P := Try.prog) w .sub 47 .f64 Y Y 0 (by obtain ⟨s, m, e, hx⟩ := fin64_number hY; exact (sub_self_fin _ Y s m e hx).trans rfl)
  have eX := fun w => run_float_arith (P := Try.prog) w .sub 47 .f64 X X 0 (by obtain ⟨s, m, e, hx⟩ := fin64_number hX; exact (sub_self_fin _ X s m e hx).trans rfl)
  have ho0 : FloatKind.f64.format.order 0 0 = some .eq := by decide
  have HY := Lib.hid (fun w => abs_lit Y w hY64 A hA)
  have HX := Lib.hid (fun w => abs_lit X w hX64 B hB)
  have HT0 := Lib.hid hT0
  have HT := Lib.hid hT
  have HP := Lib.hid hP
  have HS := Lib.hid hstep
  have HG1 := Lib.hid hg1
  have HG2 := Lib.hid hg2
  have HR := Lib.hid hrr
  have HQ := Lib.hid ht0
  have hneg : ∀ (b : Nat), Op.unary .neg (.float .f64 b) = pure (.float .f64 (Op.negFloat .f64 b)) := fun _ => rfl
  have eu := fun w => run_float_arith (P := Try.prog) w .mul 47 .f64 _ _ _ hu
  have ea := fun w => run_float_arith (P := Try.prog) w .mul 47 .f64 _ _ _ ha
  have eb := fun w => run_float_arith (P := Try.prog) w .mul 47 .f64 _ _ _ hb
  have er := fun w => run_float_arith (P := Try.prog) w .quo 47 .f64 _ _ _ hr
  clear hT0 hT hu hP hstep ha hb hr hg1 hg2 hrr ht0 hY hX hY64 hX64 hA hB
  go_enter Try.func109, Try.ntmps109
  go_upto_region 3 with fail
  go_cut [30] (fun s30 wx => s30 = .bool false ∧ w = wx)
  case first =>
    cases zx
    · go_wp2_with fail
      go_meet
      exact ⟨rfl, rfl⟩
    · cases zy
      · go_wp2_with fail
        go_meet
        exact ⟨rfl, rfl⟩
      · cases hz
  case rest =>
    obtain ⟨rfl, rfl⟩ := hcut
    clear hzx hzy hz
    go_upto_if 38 with (first | (go_at_call 120; (with_reducible refine (HY.out _).mono ?_); rintro e w' ⟨rfl, rfl⟩) | (go_at_call 120; (with_reducible refine (HX.out _).mono ?_); rintro e w' ⟨rfl, rfl⟩))
    go_cut [8] (fun s8 wx => s8 = .float .f64 t0 ∧ w = wx)
    case first =>
      cases over
      · have e2 := fun w => run_float_arith (P := Try.prog) w .quo 47 .f64 _ _ _ (show floatBits .quo .f64 A B = some t0 by have := HQ.out; simpa using this)
        go_wp2
        go_meet
        exact ⟨rfl, rfl⟩
      · have e2 := fun w => run_float_arith (P := Try.prog) w .quo 47 .f64 _ _ _ (show floatBits .quo .f64 B A = some t0 by have := HQ.out; simpa using this)
        go_wp2
        go_meet
        exact ⟨rfl, rfl⟩
    case rest =>
      obtain ⟨rfl, rfl⟩ := hcut
      go_wp2
      go_loop [8, 9] (fun t i => ∃ k : Nat, k ≤ 3 ∧ i = .int .i64 k ∧ t = .float .f64 (T k)) (fun _ i => 3 - (intOf i).toNat)
      case atStart => exact ⟨0, by omega, rfl, by rw [HT0.out]⟩
      case round =>
        obtain ⟨k, hk, rfl, rfl⟩ := hrel
        by_cases hk3 : k < 3
        · obtain ⟨a1, b1, c1, d1, s1, s2, s3, s4, s5⟩ := HT.out k hk3
          have k1 := fun w => run_float_arith (P := Try.prog) w .mul 47 .f64 _ _ _ s1
          have k2 := fun w => run_float_arith (P := Try.prog) w .add 47 .f64 _ _ _ s2
          have k4 := fun w => run_float_arith (P := Try.prog) w .add 47 .f64 _ _ _ s4
          have k5 := fun w => run_float_arith (P := Try.prog) w .quo 47 .f64 _ _ _ s5
          have s3' := Lib.hid s3
          clear s1 s2 s3 s4 s5
          go_wp2_with (go_at_call 106; go_loud (refine (sqrt_some _ _ _ s3'.out).mono ?_); rintro e w' ⟨rfl, rfl⟩)
          go_round
          case rel => exact ⟨k + 1, by omega, by go_num, rfl⟩
          case measure => simp [intOf]; omega
        · obtain rfl : k = 3 := by omega
          go_wp2
          go_loop [11, 12] (fun p i => ∃ j : Nat, j ≤ 8 ∧ i = .int .i64 (2 * (j : Int) - 1) ∧ p = .float .f64 (P j)) (fun _ i => (intOf i + 2).toNat)
          case atStart => exact ⟨8, by omega, rfl, by rw [HP.out]⟩
          case round =>
            obtain ⟨j, hj, rfl, rfl⟩ := hrel
            by_cases hj0 : 1 ≤ j
            · obtain ⟨a1, b1, s1, s2, s3⟩ := HS.out j hj0 hj
              have k1 := fun w => run_float_arith (P := Try.prog) w .quo 47 .f64 _ _ _ s1
              have k2 := fun w => run_float_arith (P := Try.prog) w .mul 47 .f64 _ _ _ s2
              have k3 := fun w => run_float_arith (P := Try.prog) w .sub 47 .f64 _ _ _ s3
              clear s1 s2 s3
              have hj8 : j = 1 ∨ j = 2 ∨ j = 3 ∨ j = 4 ∨ j = 5 ∨ j = 6 ∨ j = 7 ∨ j = 8 := by omega
              rcases hj8 with rfl | rfl | rfl | rfl | rfl | rfl | rfl | rfl
              all_goals
                first | rw [show floatOfInt .f64 ((2 * 1 - 1 : Nat) : Int) = floatOfInt .f64 1 from rfl] at k1 | rw [show floatOfInt .f64 ((2 * 2 - 1 : Nat) : Int) = floatOfInt .f64 3 from rfl] at k1 | rw [show floatOfInt .f64 ((2 * 3 - 1 : Nat) : Int) = floatOfInt .f64 5 from rfl] at k1 | rw [show floatOfInt .f64 ((2 * 4 - 1 : Nat) : Int) = floatOfInt .f64 7 from rfl] at k1 | rw [show floatOfInt .f64 ((2 * 5 - 1 : Nat) : Int) = floatOfInt .f64 9 from rfl] at k1 | rw [show floatOfInt .f64 ((2 * 6 - 1 : Nat) : Int) = floatOfInt .f64 11 from rfl] at k1 | rw [show floatOfInt .f64 ((2 * 7 - 1 : Nat) : Int) = floatOfInt .f64 13 from rfl] at k1 | rw [show floatOfInt .f64 ((2 * 8 - 1 : Nat) : Int) = floatOfInt .f64 15 from rfl] at k1
                clear hj hj0
                go_wp2
                go_round
                all_goals first | exact ⟨_, by decide, rfl, rfl⟩ | simp [intOf]
            · obtain rfl : j = 0 := by omega
              cases over
              · have q1 : g1 = arc := by have := HG1.out; simpa using this
                subst q1
                cases sx
                · have q2 : g2 = g1 := by have := HG2.out; simpa using this
                  subst q2
                  cases sy
                  · have q3 : Hid (r = g2) := by have := HR.out; show r = _; simpa using this
                    go_wp2
                    go_ret
                    exact ⟨by rw [q3.out]; rfl, rfl⟩
                  · have q3 : Hid (r = Op.negFloat .f64 g2) := by have := HR.out; show r = _; simpa using this
                    go_wp2
                    go_ret
                    exact ⟨by rw [q3.out]; rfl, rfl⟩
                · have e2 := fun w => run_float_arith (P := Try.prog) w .sub 47 .f64 _ _ _ (show floatBits .sub .f64 4602678819172646912 g1 = some g2 by have := HG2.out; simpa using this)
                  cases sy
                  · have q3 : Hid (r = g2) := by have := HR.out; show r = _; simpa using this
                    go_wp2
                    go_ret
                    exact ⟨by rw [q3.out]; rfl, rfl⟩
                  · have q3 : Hid (r = Op.negFloat .f64 g2) := by have := HR.out; show r = _; simpa using this
                    go_wp2
                    go_ret
                    exact ⟨by rw [q3.out]; rfl, rfl⟩
              · have e1 := fun w => run_float_arith (P := Try.prog) w .sub 47 .f64 _ _ _ (show floatBits .sub .f64 4598175219545276416 arc = some g1 by have := HG1.out; simpa using this)
                cases sx
                · have q2 : g2 = g1 := by have := HG2.out; simpa using this
                  subst q2
                  cases sy
                  · have q3 : Hid (r = g2) := by have := HR.out; show r = _; simpa using this
                    go_wp2
                    go_ret
                    exact ⟨by rw [q3.out]; rfl, rfl⟩
                  · have q3 : Hid (r = Op.negFloat .f64 g2) := by have := HR.out; show r = _; simpa using this
                    go_wp2
                    go_ret
                    exact ⟨by rw [q3.out]; rfl, rfl⟩
                · have e2 := fun w => run_float_arith (P := Try.prog) w .sub 47 .f64 _ _ _ (show floatBits .sub .f64 4602678819172646912 g1 = some g2 by have := HG2.out; simpa using this)
                  cases sy
                  · have q3 : Hid (r = g2) := by have := HR.out; show r = _; simpa using this
                    go_wp2
                    go_ret
                    exact ⟨by rw [q3.out]; rfl, rfl⟩
                  · have q3 : Hid (r = Op.negFloat .f64 g2) := by have := HR.out; show r = _; simpa using this
                    go_wp2
                    go_ret
                    exact ⟨by rw [q3.out]; rfl, rfl⟩
end Go.Proofs.Ytbggklhnnjikjaa
