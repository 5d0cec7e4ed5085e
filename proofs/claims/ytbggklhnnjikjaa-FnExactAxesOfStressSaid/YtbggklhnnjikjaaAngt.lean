/- AngleTurns: both sides give the same number, or a not-a-number. Every pair of 32-bit numbers. -/
import Derived.Test.YtbggklhnnjikjaaAng
namespace Go.Proofs.Ytbggklhnnjikjaa
open Go.RowKit Fl
open Ieee (Datum)

theorem sgn (f : Ieee.Format) (lp : Int) (h0 : f.read 0 = .number false 0 lp) (x : Nat) (s : Bool) (m : Nat) (e : Int) (hx : f.read x = .number s m e) :
    (f.order x 0 == some .lt) = (s && decide (m ≠ 0)) ∧ (f.order x 0 == some .eq) = decide (m = 0) := by
  have ho : f.order x 0 = some (compare (Ieee.signed s m (e - min e lp).toNat) 0) := by
    unfold Ieee.Format.order
    rw [hx, h0]
    simp only [Datum.order]
    congr 2
    simp [Ieee.signed]
  rw [ho]
  have hp := Nat.two_pow_pos (e - min e lp).toNat
  have hA : m * 2 ^ (e - min e lp).toNat = 0 ↔ m = 0 := by
    constructor
    · intro h
      rcases Nat.mul_eq_zero.1 h with h | h
      · exact h
      · omega
    · intro h; rw [h, Nat.zero_mul]
  unfold Ieee.signed
  rw [shl_eq]
  generalize m * 2 ^ (e - min e lp).toNat = A at hA
  constructor
  · rw [Bool.eq_iff_iff]
    simp only [compare, compareOfLessAndEq, Bool.and_eq_true, decide_eq_true_eq, beq_iff_eq, Option.some.injEq, ne_eq, ← hA]
    cases s
    · simp only [Bool.false_eq_true, if_false, false_and, iff_false]
      split
      · omega
      · split <;> simp
    · simp only [if_true, true_and]
      split
      · simp; omega
      · split
        · simp; omega
        · simp; omega
  · rw [Bool.eq_iff_iff]
    simp only [compare, compareOfLessAndEq, decide_eq_true_eq, beq_iff_eq, Option.some.injEq, ← hA]
    cases s
    · simp only [Bool.false_eq_true, if_false]
      split
      · omega
      · split
        · simp; omega
        · simp; omega
    · simp only [if_true]
      split
      · simp; omega
      · split
        · simp; omega
        · simp; omega

theorem read0_32 : Ieee.single.read 0 = .number false 0 (-149) := by decide
theorem read0_64 : Ieee.double.read 0 = .number false 0 (-1074) := by decide

/-- the tests against nothing tell the same of a number and of the widened one -/
theorem tests_same (x : Nat) (hf : fin32 x = true) : ∃ s z : Bool, (FloatKind.f32.format.order x 0 == some .lt) = s ∧ (FloatKind.f64.format.order (wide x) 0 == some .lt) = s ∧
    (FloatKind.f32.format.order x 0 == some .eq) = z ∧ (FloatKind.f64.format.order (wide x) 0 == some .eq) = z ∧ (∃ m e, Ieee.double.read (wide x % 2 ^ 63) = .number false m e ∧ (z = false → m ≠ 0)) := by
  obtain ⟨s, m, e, hx⟩ := fin32_number hf
  obtain ⟨m', e', h1, h2, h3⟩ := read_wide_number x s m e hx
  obtain ⟨a1, a2⟩ := sgn Ieee.single _ read0_32 x s m e hx
  obtain ⟨b1, b2⟩ := sgn Ieee.double _ read0_64 (wide x) s m' e' h1
  have hmm : m' = 0 ↔ m = 0 := by
    rw [shl_eq, shl_eq] at h3
    have p1 := Nat.two_pow_pos (e' + 1074).toNat
    have p2 := Nat.two_pow_pos (e + 1074).toNat
    constructor
    · intro h; subst h; rw [Nat.zero_mul] at h3
      rcases Nat.mul_eq_zero.1 h3.symm with h | h
      · exact h
      · omega
    · intro h; subst h; rw [Nat.zero_mul] at h3
      rcases Nat.mul_eq_zero.1 h3 with h | h
      · exact h
      · omega
  have hd : decide (m' ≠ 0) = decide (m ≠ 0) := by simp only [ne_eq, hmm]
  have hd2 : decide (m' = 0) = decide (m = 0) := by simp only [hmm]
  rw [hd] at b1
  rw [hd2] at b2
  refine ⟨_, _, a1, b1, a2, b2, m', e', ?_, ?_⟩
  · rw [read_abs, h1]
  · intro h; rw [ne_eq, hmm]; simpa using h

/-- 'float64(x)' in whatever world -/
theorem conv_any (x : Nat) (w : World) : ∃ v w', (convert 35 47 (.float .f32 x)).run Try.prog w = .ok (.float .f64 v) w' ∧ Quiet w w' ∧ fin64 v = fin32 x ∧ (fin32 x = true → v = wide x ∧ w = w') ∧ v < 18446744073709551616 := by
  cases hn : nan32 x
  · exact ⟨wide x, w, run_convert_float_float (P := Try.prog) w 35 47 .f32 .f64 x (wide x) (by kernel_rfl) Try.underlying47 (wide_conv x hn), Quiet.refl _, fin_wide hn, fun _ => ⟨rfl, rfl⟩, wide_lt _⟩
  · refine ⟨_, _, run_widen_nan (P := Try.prog) 35 47 x w (by kernel_rfl) Try.underlying47 hn, Quiet.one _, ?_, ?_, nanc64_lt _ _⟩
    · simp [fin64, fin32, nanc64_nan, hn]
    · intro h; simp [fin32, hn] at h

theorem sub_none64 {y : Nat} (h : fin64 y = false) : floatBits .sub .f64 y y = none := by
  refine sub_self_none _ y ?_
  simp only [fin64, nan64, inf64, Bool.and_eq_false_iff, Bool.not_eq_false'] at h
  exact h
theorem sub_zero64 {y : Nat} (h : fin64 y = true) : floatBits .sub .f64 y y = some 0 := by
  obtain ⟨s, m, e, hx⟩ := fin64_number h; exact (sub_self_fin _ y s m e hx).trans rfl

set_option maxRecDepth 100000 in
set_option maxHeartbeats 800000 in
theorem l01AngleWide_nan (Y X : Nat) (w : World) (h : fin64 Y = false ∨ fin64 X = false) :
    Calls Try.prog 109 #[.float .f64 Y, .float .f64 X] w fun e w' => e = .returned (.float .f64 9221120237041090561) ∧ Quiet w w' := by
  have ho0 : FloatKind.f64.format.order 0 0 = some .eq := by decide
  have hoY : ∀ w, FloatKind.f64.format.order (nanb .f64 Y Y w) 0 = none := fun w => order_nan_left Ieee.double (nanb .f64 Y Y w) 0 (nanb64_nan Y Y w)
  have hoX : ∀ w, FloatKind.f64.format.order (nanb .f64 X X w) 0 = none := fun w => order_nan_left Ieee.double (nanb .f64 X X w) 0 (nanb64_nan X X w)
  cases hY : fin64 Y
  · have hs := fun w => run_arith_nan (P := Try.prog) .sub 47 .f64 Y Y w (by simp) (sub_none64 hY)
    clear h hY
    go_enter Try.func109, Try.ntmps109
    go_wp2_with (go_at_call 119; go_loud (refine (mathNaN_any _).mono ?_); rintro e w' ⟨rfl, rfl⟩)
    go_ret
    exact ⟨rfl, Quiet.one _⟩
  · have hX : fin64 X = false := by rcases h with h | h
                                    · rw [hY] at h; cases h
                                    · exact h
    have hs := fun w => run_float_arith (P := Try.prog) w .sub 47 .f64 Y Y 0 (sub_zero64 hY)
    have ht := fun w => run_arith_nan (P := Try.prog) .sub 47 .f64 X X w (by simp) (sub_none64 hX)
    clear h hY hX
    go_enter Try.func109, Try.ntmps109
    go_wp2_with (go_at_call 119; go_loud (refine (mathNaN_any _).mono ?_); rintro e w' ⟨rfl, rfl⟩)
    go_ret
    exact ⟨rfl, Quiet.one _⟩
set_option maxRecDepth 100000 in
set_option maxHeartbeats 800000 in
theorem l01AngleWide_zero (Y X : Nat) (w : World) (hY : fin64 Y = true) (hX : fin64 X = true) (hzx : (FloatKind.f64.format.order X 0 == some .eq) = true) (hzy : (FloatKind.f64.format.order Y 0 == some .eq) = true) :
    Calls Try.prog 109 #[.float .f64 Y, .float .f64 X] w fun e w' => e = .returned (.float .f64 0) ∧ w = w' := by
  have ho0 : FloatKind.f64.format.order 0 0 = some .eq := by decide
  have hs := fun w => run_float_arith (P := Try.prog) w .sub 47 .f64 Y Y 0 (sub_zero64 hY)
  have ht := fun w => run_float_arith (P := Try.prog) w .sub 47 .f64 X X 0 (sub_zero64 hX)
  clear hY hX
  go_enter Try.func109, Try.ntmps109
  go_wp2
  go_ret
  exact ⟨rfl, rfl⟩

/-- the chain exists, and can be narrowed -/
theorem end_facts (over sx sy : Bool) (arc : Nat) (h : Bd arc 1153) (hlt : arc < 2 ^ 64) : ∃ r, AngEnd over sx sy arc r ∧ Bd r 1155 := by
  obtain ⟨g1, h1, k1, l1⟩ : ∃ g1, (if over then floatBits .sub .f64 4598175219545276416 arc = some g1 else g1 = arc) ∧ Bd g1 1154 ∧ g1 < 2 ^ 64 := by
    cases over
    · exact ⟨arc, rfl, h.mono (by omega), hlt⟩
    · obtain ⟨r, hr, gr⟩ := bd_sub (K := 1153) (x := 4598175219545276416) (bd_of_read false (2 ^ 52) (-54) (by decide) (by decide) 53 (by decide) (by decide)) h (by omega) (by omega)
      exact ⟨r, hr, gr, Ieee.Format.sub_lt Ieee.double hr⟩
  obtain ⟨g2, h2, k2, l2⟩ : ∃ g2, (if sx then floatBits .sub .f64 4602678819172646912 g1 = some g2 else g2 = g1) ∧ Bd g2 1155 ∧ g2 < 2 ^ 64 := by
    cases sx
    · exact ⟨g1, rfl, k1.mono (by omega), l1⟩
    · obtain ⟨r, hr, gr⟩ := bd_sub (K := 1154) (bd_half.mono (by omega)) k1 (by omega) (by omega)
      exact ⟨r, hr, gr, Ieee.Format.sub_lt Ieee.double hr⟩
  refine ⟨_, ⟨g1, g2, h1, h2, rfl⟩, ?_⟩
  cases sy
  · exact k2
  · exact bd_neg k2 l2

theorem arc_lt {t0 r : Nat} (h : ArcRel t0 r) : r < 2 ^ 64 := by
  obtain ⟨_, _, _, _, _, _, _, _, _, _, _, _, hr⟩ := h
  exact Ieee.Format.div_lt Ieee.double hr

set_option maxRecDepth 100000 in
set_option maxHeartbeats 1600000 in
theorem angleTurns_of (y x A B t0 mn mx arc r : Nat) (over sx sy zx zy : Bool) (w : World) (hy : fin32 y = true) (hx : fin32 x = true) (hA : A = wide y % 2 ^ 63) (hB : B = wide x % 2 ^ 63)
    (hzx : (FloatKind.f32.format.order x 0 == some .eq) = zx) (hzy : (FloatKind.f32.format.order y 0 == some .eq) = zy) (hz : (zx && zy) = false)
    (hov : (FloatKind.f64.format.order A B == some .gt) = over)
    (hmn : ∀ (P : Program) (w : World) ts t, (Builtin.min_ ts t #[.float .f64 A, .float .f64 B]).run P w = .ok (.float .f64 mn) w)
    (hmx : ∀ (P : Program) (w : World) ts t, (Builtin.max_ ts t #[.float .f64 A, .float .f64 B]).run P w = .ok (.float .f64 mx) w) (ht0 : floatBits .quo .f64 mn mx = some t0)
    (hsx : (FloatKind.f32.format.order x 0 == some .lt) = sx) (hsy : (FloatKind.f32.format.order y 0 == some .lt) = sy)
    (h : ArcRel t0 arc) (he : AngEnd over sx sy arc r) (q : Nat) (hq : floatToFloatBits .f64 r .f32 = some q) :
    Calls Try.prog 110 #[.float .f32 y, .float .f32 x] w fun e w' => e = .returned (.float .f32 q) ∧ Quiet w w' := by
  have cy := fun w => run_convert_float_float (P := Try.prog) w 35 47 .f32 .f64 y (wide y) (by kernel_rfl) Try.underlying47 (wide_conv y (by have := hy; simp only [fin32, Bool.and_eq_true, Bool.not_eq_true'] at this; exact this.1))
  have cx := fun w => run_convert_float_float (P := Try.prog) w 35 47 .f32 .f64 x (wide x) (by kernel_rfl) Try.underlying47 (wide_conv x (by have := hx; simp only [fin32, Bool.and_eq_true, Bool.not_eq_true'] at this; exact this.1))
  obtain ⟨g1, g2, hg1, hg2, hrr⟩ := he
  have HY := Lib.hid (fun w => abs_lit (wide y) w (wide_lt _) A hA)
  have HX := Lib.hid (fun w => abs_lit (wide x) w (wide_lt _) B hB)
  have HARC := Lib.hid h
  have HG1 := Lib.hid hg1
  have HG2 := Lib.hid hg2
  have HR := Lib.hid hrr
  have HQ := Lib.hid hq
  have et := fun w => run_float_arith (P := Try.prog) w .quo 47 .f64 _ _ _ ht0
  have hneg : ∀ (b : Nat), Op.unary .neg (.float .f64 b) = pure (.float .f64 (Op.negFloat .f64 b)) := fun _ => rfl
  have mn' := hmn Try.prog
  have mx' := hmx Try.prog
  clear h hg1 hg2 hrr hq ht0 hmn hmx hA hB
  go_enter Try.func110, Try.ntmps110
  go_upto_region 3 with (first | (go_at_call 94; (with_reducible refine (isFinite_any x _).mono ?_); rintro e w1 ⟨rfl, hq1⟩) | (go_at_call 94; (with_reducible refine (isFinite_any y _).mono ?_); rintro e w2 ⟨rfl, hq2⟩))
  go_cut [22] (fun s22 wx => s22 = .bool false ∧ w2 = wx)
  case first =>
    cases zx
    · go_wp2_with fail
      go_meet
      exact ⟨rfl, rfl⟩
    · cases zy
      · go_wp2_with fail
        go_meet
        exact ⟨rfl, rfl⟩
      · cases hz
  case rest =>
    obtain ⟨rfl, rfl⟩ := hcut
    clear hzx hzy hz
    go_upto_if 39 with (first | (go_at_call 120; (with_reducible refine (HY.out _).mono ?_); rintro e w' ⟨rfl, rfl⟩) | (go_at_call 120; (with_reducible refine (HX.out _).mono ?_); rintro e w' ⟨rfl, rfl⟩) | (go_at_call 122; (with_reducible refine (arcOf_of _ _ _ HARC.out).mono ?_); rintro e w' ⟨rfl, rfl⟩))
    cases over
    · have q1 : g1 = arc := by have := HG1.out; simpa using this
      subst q1
      cases sx
      · have q2 : g2 = g1 := by have := HG2.out; simpa using this
        subst q2
        cases sy
        · have q3 : Hid (floatToFloatBits .f64 g2 .f32 = some q) := by have h1 := HR.out; have h2 := HQ.out; simp only [Bool.false_eq_true, if_false] at h1; show _ = _; rw [← h1]; exact h2
          go_wp2_with (go_at_call 105; go_loud (refine (narrowNumber_ok _ _ _ q3.out).mono ?_); rintro e w' ⟨rfl, rfl⟩)
          go_ret
          exact ⟨rfl, hq1.trans hq2⟩
        · have q3 : Hid (floatToFloatBits .f64 (Op.negFloat .f64 g2) .f32 = some q) := by have h1 := HR.out; have h2 := HQ.out; simp only [if_true] at h1; show _ = _; rw [← h1]; exact h2
          go_wp2_with (go_at_call 105; go_loud (refine (narrowNumber_ok _ _ _ q3.out).mono ?_); rintro e w' ⟨rfl, rfl⟩)
          go_ret
          exact ⟨rfl, hq1.trans hq2⟩
      · have e2 := fun w => run_float_arith (P := Try.prog) w .sub 47 .f64 _ _ _ (show floatBits .sub .f64 4602678819172646912 g1 = some g2 by have := HG2.out; simpa using this)
        cases sy
        · have q3 : Hid (floatToFloatBits .f64 g2 .f32 = some q) := by have h1 := HR.out; have h2 := HQ.out; simp only [Bool.false_eq_true, if_false] at h1; show _ = _; rw [← h1]; exact h2
          go_wp2_with (go_at_call 105; go_loud (refine (narrowNumber_ok _ _ _ q3.out).mono ?_); rintro e w' ⟨rfl, rfl⟩)
          go_ret
          exact ⟨rfl, hq1.trans hq2⟩
        · have q3 : Hid (floatToFloatBits .f64 (Op.negFloat .f64 g2) .f32 = some q) := by have h1 := HR.out; have h2 := HQ.out; simp only [if_true] at h1; show _ = _; rw [← h1]; exact h2
          go_wp2_with (go_at_call 105; go_loud (refine (narrowNumber_ok _ _ _ q3.out).mono ?_); rintro e w' ⟨rfl, rfl⟩)
          go_ret
          exact ⟨rfl, hq1.trans hq2⟩
    · have e1 := fun w => run_float_arith (P := Try.prog) w .sub 47 .f64 _ _ _ (show floatBits .sub .f64 4598175219545276416 arc = some g1 by have := HG1.out; simpa using this)
      cases sx
      · have q2 : g2 = g1 := by have := HG2.out; simpa using this
        subst q2
        cases sy
        · have q3 : Hid (floatToFloatBits .f64 g2 .f32 = some q) := by have h1 := HR.out; have h2 := HQ.out; simp only [Bool.false_eq_true, if_false] at h1; show _ = _; rw [← h1]; exact h2
          go_wp2_with (go_at_call 105; go_loud (refine (narrowNumber_ok _ _ _ q3.out).mono ?_); rintro e w' ⟨rfl, rfl⟩)
          go_ret
          exact ⟨rfl, hq1.trans hq2⟩
        · have q3 : Hid (floatToFloatBits .f64 (Op.negFloat .f64 g2) .f32 = some q) := by have h1 := HR.out; have h2 := HQ.out; simp only [if_true] at h1; show _ = _; rw [← h1]; exact h2
          go_wp2_with (go_at_call 105; go_loud (refine (narrowNumber_ok _ _ _ q3.out).mono ?_); rintro e w' ⟨rfl, rfl⟩)
          go_ret
          exact ⟨rfl, hq1.trans hq2⟩
      · have e2 := fun w => run_float_arith (P := Try.prog) w .sub 47 .f64 _ _ _ (show floatBits .sub .f64 4602678819172646912 g1 = some g2 by have := HG2.out; simpa using this)
        cases sy
        · have q3 : Hid (floatToFloatBits .f64 g2 .f32 = some q) := by have h1 := HR.out; have h2 := HQ.out; simp only [Bool.false_eq_true, if_false] at h1; show _ = _; rw [← h1]; exact h2
          go_wp2_with (go_at_call 105; go_loud (refine (narrowNumber_ok _ _ _ q3.out).mono ?_); rintro e w' ⟨rfl, rfl⟩)
          go_ret
          exact ⟨rfl, hq1.trans hq2⟩
        · have q3 : Hid (floatToFloatBits .f64 (Op.negFloat .f64 g2) .f32 = some q) := by have h1 := HR.out; have h2 := HQ.out; simp only [if_true] at h1; show _ = _; rw [← h1]; exact h2
          go_wp2_with (go_at_call 105; go_loud (refine (narrowNumber_ok _ _ _ q3.out).mono ?_); rintro e w' ⟨rfl, rfl⟩)
          go_ret
          exact ⟨rfl, hq1.trans hq2⟩
set_option maxHeartbeats 1600000 in
theorem angle_both (y x : Nat) : ∃ o : Option Nat, (∀ r, o = some r → nan32 r = false) ∧
    (∀ w, Calls Try.prog 74 #[.float .f32 y, .float .f32 x] w fun e w' => (∃ v, e = .returned (.float .f32 v) ∧ RepR v o) ∧ Quiet w w') ∧
    (∀ w, Calls Try.prog 110 #[.float .f32 y, .float .f32 x] w fun e w' => (∃ v, e = .returned (.float .f32 v) ∧ RepR v o) ∧ Quiet w w') := by
  by_cases hf : fin32 y = true ∧ fin32 x = true
  · obtain ⟨hy, hx⟩ := hf
    obtain ⟨sy, zy, y1, y2, y3, y4, my, ey, ry, ny⟩ := tests_same y hy
    obtain ⟨sx, zx, x1, x2, x3, x4, mx, ex, rx, nx⟩ := tests_same x hx
    have ny32 : nan32 y = false := by have := hy; simp only [fin32, Bool.and_eq_true, Bool.not_eq_true'] at this; exact this.1
    have nx32 : nan32 x = false := by have := hx; simp only [fin32, Bool.and_eq_true, Bool.not_eq_true'] at this; exact this.1
    have fy : fin64 (wide y) = true := (fin_wide ny32).trans hy
    have fx : fin64 (wide x) = true := (fin_wide nx32).trans hx
    have cy := fun w => run_convert_float_float (P := Try.prog) w 35 47 .f32 .f64 y (wide y) (by kernel_rfl) Try.underlying47 (wide_conv y ny32)
    have cx := fun w => run_convert_float_float (P := Try.prog) w 35 47 .f32 .f64 x (wide x) (by kernel_rfl) Try.underlying47 (wide_conv x nx32)
    cases hz : (zx && zy)
    · have hmn : my ≠ 0 ∨ mx ≠ 0 := by
        cases zy
        · exact .inl (ny rfl)
        · cases zx
          · exact .inr (nx rfl)
          · cases hz
      obtain ⟨A, hA⟩ : ∃ A, A = wide y % 2 ^ 63 := ⟨_, rfl⟩
      obtain ⟨B, hB⟩ : ∃ B, B = wide x % 2 ^ 63 := ⟨_, rfl⟩
      rw [← hA] at ry
      rw [← hB] at rx
      obtain ⟨t0, mn, mxx, over, hov, ht0, gt0, hmin, hmax, hq0⟩ := tangent A B my mx ey ex ry rx hmn
      obtain ⟨arc, harc, garc⟩ := arc_facts t0 gt0
      obtain ⟨r, hr, gr⟩ := end_facts over sx sy arc garc (arc_lt harc)
      obtain ⟨hna, hnn⟩ := narrow_ok gr (by omega) (by omega)
      refine ⟨some (narrow r), fun r' h => (by cases h; exact hnn), fun w => ?_, fun w => ?_⟩
      · have hw := Lib.hid (fun w => l01AngleWide_of (wide y) (wide x) A B t0 arc r over sx sy zx zy w fy fx (wide_lt _) (wide_lt _) hA hB x4 y4 hz hov ht0 x2 y2 harc hr)
        have HN := Lib.hid hna
        clear hna hr harc hq0 hmin hmax ht0 hov hA hB rx ry y1 y2 y3 y4 x1 x2 x3 x4 hz fy fx hx hy ny nx
        go_enter Try.func74, Try.ntmps74
        go_wp2_with (first | (go_at_call 109; go_loud (refine (hw.out _).mono ?_); rintro e w' ⟨rfl, rfl⟩) | (go_at_call 107; go_loud (refine (l01Narrow_ok _ _ _ HN.out).mono ?_); rintro e w' ⟨rfl, rfl⟩))
        go_ret
        exact ⟨⟨_, rfl, rfl, hnn⟩, Quiet.refl _⟩
      · exact (angleTurns_of y x A B t0 mn mxx arc r over sx sy zx zy w hy hx hA hB x3 y3 hz hov hmin hmax hq0 x1 y1 harc hr _ hna).mono fun e w' ⟨he, hq⟩ => ⟨⟨_, he, rfl, hnn⟩, hq⟩
    · have hzx : zx = true := by cases zx <;> simp_all
      have hzy : zy = true := by cases zy <;> simp_all
      have HN := Lib.hid (show floatToFloatBits .f64 0 .f32 = some 0 by decide)
      subst hzx
      subst hzy
      refine ⟨some 0, fun r' h => (by cases h; decide), fun w => ?_, fun w => ?_⟩
      · have hw := Lib.hid (fun w => l01AngleWide_zero (wide y) (wide x) w fy fx x4 y4)
        clear rx ry y1 y2 y3 y4 x1 x2 x3 x4 hz fy fx hx hy ny nx
        go_enter Try.func74, Try.ntmps74
        go_wp2_with (first | (go_at_call 109; go_loud (refine (hw.out _).mono ?_); rintro e w' ⟨rfl, rfl⟩) | (go_at_call 107; go_loud (refine (l01Narrow_ok _ _ _ HN.out).mono ?_); rintro e w' ⟨rfl, rfl⟩))
        go_ret
        exact ⟨⟨_, rfl, rfl, by decide⟩, Quiet.refl _⟩
      · clear rx ry y1 y2 y4 x1 x2 x4 hz fy fx ny nx
        go_enter Try.func110, Try.ntmps110
        go_wp2_with (first | (go_at_call 94; (with_reducible refine (isFinite_any x _).mono ?_); rintro e w1 ⟨rfl, hq1⟩) | (go_at_call 94; (with_reducible refine (isFinite_any y _).mono ?_); rintro e w2 ⟨rfl, hq2⟩))
        go_ret
        exact ⟨⟨_, rfl, rfl, by decide⟩, hq1.trans hq2⟩
  · have hor : fin32 y = false ∨ fin32 x = false := by
      cases h1 : fin32 y
      · exact .inl rfl
      · cases h2 : fin32 x
        · exact .inr rfl
        · exact absurd ⟨h1, h2⟩ hf
    refine ⟨none, fun r h => (by cases h), fun w => ?_, fun w => ?_⟩
    · obtain ⟨vy, wy, c1, q1, f1, _, l1⟩ := conv_any y w
      obtain ⟨vx, wx, c2, q2, f2, _, l2⟩ := conv_any x wy
      have hor' : fin64 vy = false ∨ fin64 vx = false := by rw [f1, f2]; exact hor
      clear hor hf f1 f2
      go_enter Try.func74, Try.ntmps74
      go_wp2_with (first | (go_at_call 109; go_loud (refine (l01AngleWide_nan _ _ _ hor').mono ?_); rintro e w' ⟨rfl, hq1⟩) | (go_at_call 107; go_loud (refine (l01Narrow_nan _ _ (by decide)).mono ?_); rintro e w' ⟨⟨v2, rfl, hv2⟩, hq2⟩))
      go_ret
      exact ⟨⟨_, rfl, hv2⟩, ((q1.trans q2).trans hq1).trans hq2⟩
    · cases hx : fin32 x
      · clear hor hf
        go_enter Try.func110, Try.ntmps110
        go_wp2_with (first | (go_at_call 94; (with_reducible refine (isFinite_any x _).mono ?_); rintro e w1 ⟨rfl, hq1⟩) | (go_at_call 121; go_loud (refine (notNumber_any _).mono ?_); rintro e w' ⟨⟨v2, rfl, hv2⟩, hq2⟩))
        go_ret
        exact ⟨⟨_, rfl, hv2⟩, hq1.trans hq2⟩
      · have hy : fin32 y = false := by rcases hor with h | h
                                        · exact h
                                        · rw [hx] at h; cases h
        clear hor hf
        go_enter Try.func110, Try.ntmps110
        go_wp2_with (first | (go_at_call 94; (with_reducible refine (isFinite_any x _).mono ?_); rintro e w1 ⟨rfl, hq1⟩) | (go_at_call 94; (with_reducible refine (isFinite_any y _).mono ?_); rintro e w2 ⟨rfl, hq2⟩) | (go_at_call 121; go_loud (refine (notNumber_any _).mono ?_); rintro e w' ⟨⟨v2, rfl, hv2⟩, hq3⟩))
        go_ret
        exact ⟨⟨_, rfl, hv2⟩, (hq1.trans hq2).trans hq3⟩

end Go.Proofs.Ytbggklhnnjikjaa
