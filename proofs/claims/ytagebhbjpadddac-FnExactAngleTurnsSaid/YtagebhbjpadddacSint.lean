/- Contracts of SineTurns, on both sides: the same number, or a not-a-number. Every 32-bit number. -/
import Derived.Test.YtagebhbjpadddacSinf
namespace Go.Proofs.Ytagebhbjpadddac
open Go.RowKit Fl

theorem mathNaN_any (w : World) : Calls Try.prog 58 #[] w fun e w' => e = .returned (.float .f64 9221120237041090561) ∧ w = w' := by
  have h2 := call_from64
  go_enter Try.func58, Try.ntmps58
  go_wp2
  go_ret
  exact ⟨rfl, rfl⟩
theorem notNumber_any (w : World) : Calls Try.prog 39 #[] w fun e w' => (∃ v, e = .returned (.float .f32 v) ∧ nan32 v = true) ∧ Quiet w w' := by
  have hc := fun w => run_narrow_nan (P := Try.prog) 25 26 9221120237041090561 w (by kernel_rfl) Try.underlying26 (by decide)
  go_enter Try.func39, Try.ntmps39
  go_wp2_with (go_at_call 58; go_loud (refine (mathNaN_any _).mono ?_); rintro e w' ⟨rfl, rfl⟩)
  go_ret
  exact ⟨⟨_, rfl, nanc32_nan _ _⟩, Quiet.one _⟩
theorem isWhole_any (y : Nat) (w : World) (c : Bool) (hy : y < 18446744073709551616) (hc : (FloatKind.f64.format.order (y % 2 ^ 63) 4841369599423283200 == some .gt || FloatKind.f64.format.order (y % 2 ^ 63) 4841369599423283200 == some .eq) = c) :
    Calls Try.prog 40 #[.float .f64 y] w fun e w' => e = .returned (.bool c) ∧ w = w' := by
  have HC := Lib.hid hc
  clear hc
  go_enter Try.func40, Try.ntmps40
  go_wp2_with (go_at_call 34; go_loud (refine (abs_any _ _ hy).mono ?_); rintro e w' ⟨rfl, rfl⟩)
  go_ret
  exact ⟨by rw [← HC.out]; rfl, rfl⟩
set_option maxHeartbeats 800000 in
theorem l01SineWide_nan (y : Nat) (w : World) (hf : fin64 y = false) :
    Calls Try.prog 55 #[.float .f64 y] w fun e w' => e = .returned (.float .f64 9221120237041090561) ∧ Quiet w w' := by
  have hnone : floatBits .sub .f64 y y = none := by
    refine sub_self_none _ y ?_
    simp only [fin64, nan64, inf64, Bool.and_eq_false_iff, Bool.not_eq_false'] at hf
    exact hf
  have hs := fun w => run_arith_nan (P := Try.prog) .sub 25 .f64 y y w (by simp) hnone
  have ho : ∀ w, FloatKind.f64.format.order (nanb .f64 y y w) 0 = none := fun w => order_nan_left Ieee.double (nanb .f64 y y w) 0 (nanb64_nan y y w)
  clear hnone hf
  go_enter Try.func55, Try.ntmps55
  go_wp2_with (go_at_call 58; go_loud (refine (mathNaN_any _).mono ?_); rintro e w' ⟨rfl, rfl⟩)
  go_ret
  exact ⟨rfl, Quiet.one _⟩
set_option maxHeartbeats 800000 in
theorem l01SineWide_zero (y : Nat) (w : World) (a b : Bool) (hfin : fin64 y = true)
    (hge : (FloatKind.f64.format.order y 4841369599423283200 == some .gt || FloatKind.f64.format.order y 4841369599423283200 == some .eq) = a)
    (hle : (FloatKind.f64.format.order y 14064741636278059008 == some .lt || FloatKind.f64.format.order y 14064741636278059008 == some .eq) = b) (hab : (a || b) = true) :
    Calls Try.prog 55 #[.float .f64 y] w fun e w' => e = .returned (.float .f64 0) ∧ w = w' := by
  have ey := fun w => run_float_arith (P := Try.prog) w .sub 25 .f64 y y 0 (by obtain ⟨s, m, e, hx⟩ := fin64_number hfin; exact (sub_self_fin _ y s m e hx).trans rfl)
  have ho0 : FloatKind.f64.format.order 0 0 = some .eq := by decide
  clear hfin
  cases a
  · cases b
    · cases hab
    · clear hab
      go_enter Try.func55, Try.ntmps55
      go_wp2
      go_ret
      exact ⟨rfl, rfl⟩
  · clear hab
    go_enter Try.func55, Try.ntmps55
    go_wp2
    go_ret
    exact ⟨rfl, rfl⟩
theorem fin_wide {x : Nat} (hn : nan32 x = false) : fin64 (wide x) = fin32 x := by
  simp [fin64, fin32, nan_wide x hn, inf_wide x hn, hn]

set_option maxHeartbeats 1600000 in
theorem sine_both (x : Nat) : ∃ o : Option Nat, (∀ r, o = some r → nan32 r = false) ∧
    (∀ w, Calls Try.prog 37 #[.float .f32 x] w fun e w' => (∃ v, e = .returned (.float .f32 v) ∧ RepR v o) ∧ Quiet w w') ∧
    (∀ w, Calls Try.prog 21 #[.float .f32 x] w fun e w' => (∃ v, e = .returned (.float .f32 v) ∧ RepR v o) ∧ Quiet w w') := by
  cases hn : nan32 x
  · have hc := fun w => run_convert_float_float (P := Try.prog) w 26 25 .f32 .f64 x (wide x) (by kernel_rfl) Try.underlying25 (wide_conv x hn)
    have hfw := fin_wide hn
    cases hf : fin32 x
    · refine ⟨none, fun r h => (by cases h), fun w => ?_, fun w => ?_⟩
      · have hfw' := Lib.hid (hfw.trans hf)
        clear hfw hf hn
        go_enter Try.func37, Try.ntmps37
        go_wp2_with (first | (go_at_call 55; go_loud (refine (l01SineWide_nan _ _ hfw'.out).mono ?_); rintro e w' ⟨rfl, hq1⟩) | (go_at_call 32; go_loud (refine (l01Narrow_nan _ _ (by decide)).mono ?_); rintro e w' ⟨⟨v2, rfl, hv2⟩, hq2⟩))
        go_ret
        exact ⟨⟨_, rfl, hv2⟩, hq1.trans hq2⟩
      · have hff : fin64 (wide x) = false := hfw.trans hf
        clear hfw hf hn
        go_enter Try.func21, Try.ntmps21
        go_wp2_with (first | (go_at_call 38; go_loud (refine (isFiniteLong_any _ _ (wide_lt _)).mono ?_); rintro e w' ⟨rfl, rfl⟩) | (go_at_call 39; go_loud (refine (notNumber_any _).mono ?_); rintro e w' ⟨⟨v2, rfl, hv2⟩, hq2⟩))
        go_ret
        exact ⟨⟨_, rfl, hv2⟩, hq2⟩
    · obtain ⟨a, b, hge, hle, habs, hbd⟩ := big_tests (wide x) (hfw.trans hf)
      have hff : fin64 (wide x) = true := hfw.trans hf
      cases hab : (a || b)
      · have ha : a = false := by cases a <;> simp_all
        have hb : b = false := by cases b <;> simp_all
        obtain ⟨r, hr, gr⟩ := sin_facts (wide x) (hbd ha hb)
        obtain ⟨hna, hnn⟩ := narrow_ok gr (by omega) (by omega)
        rw [ha] at hge
        rw [hb] at hle
        rw [hab] at habs
        have HR := Lib.hid hr
        have HN := Lib.hid hna
        have HG := Lib.hid hge
        have HL := Lib.hid hle
        have HA := Lib.hid habs
        have HF := Lib.hid hff
        refine ⟨some (narrow r), fun r' h => (by cases h; exact hnn), fun w => ?_, fun w => ?_⟩
        · clear hfw hf hn hr hna hge hle habs hff hbd hab ha hb
          go_enter Try.func37, Try.ntmps37
          go_wp2_with (first | (go_at_call 55; go_loud (refine (l01SineWide_of _ _ _ HF.out HG.out HL.out HR.out).mono ?_); rintro e w' ⟨rfl, rfl⟩) | (go_at_call 32; go_loud (refine (l01Narrow_ok _ _ _ HN.out).mono ?_); rintro e w' ⟨rfl, rfl⟩))
          go_ret
          exact ⟨⟨_, rfl, rfl, hnn⟩, Quiet.refl _⟩
        · obtain ⟨n, f0, f1', f2, f3, z, u, q, P, b1, b2, b3, s1, s2, s3, s4, srest⟩ := hr
          have hsl := fun w => sineLong_of (wide x) r f1' w (fun w => partOfTurn_of _ f0 f1' n b1 w s1 s2 s3 s4) ⟨f2, f3, z, u, q, P, b2, b3, srest⟩
          clear hfw hf hn s1 s2 s3 s4 srest hna hge hle habs hbd hab ha hb
          go_enter Try.func21, Try.ntmps21
          go_wp2_with (first | (go_at_call 38; go_loud (refine (isFiniteLong_any _ _ (wide_lt _)).mono ?_); rintro e w' ⟨rfl, rfl⟩) | (go_at_call 40; go_loud (refine (isWhole_any _ _ false (wide_lt _) HA.out).mono ?_); rintro e w' ⟨rfl, rfl⟩) | (go_at_call 41; go_loud (refine (hsl _).mono ?_); rintro e w' ⟨rfl, rfl⟩) | (go_at_call 14; go_loud (refine (narrowNumber_ok _ _ _ HN.out).mono ?_); rintro e w' ⟨rfl, rfl⟩))
          go_ret
          exact ⟨⟨_, rfl, rfl, hnn⟩, Quiet.refl _⟩
      · rw [hab] at habs
        have HG := Lib.hid hge
        have HL := Lib.hid hle
        have HA := Lib.hid habs
        have HF := Lib.hid hff
        have HB := Lib.hid hab
        have HN := Lib.hid (show floatToFloatBits .f64 0 .f32 = some 0 by decide)
        refine ⟨some 0, fun r' h => (by cases h; decide), fun w => ?_, fun w => ?_⟩
        · clear hfw hf hn hge hle habs hff hbd hab
          go_enter Try.func37, Try.ntmps37
          go_wp2_with (first | (go_at_call 55; go_loud (refine (l01SineWide_zero _ _ a b HF.out HG.out HL.out HB.out).mono ?_); rintro e w' ⟨rfl, rfl⟩) | (go_at_call 32; go_loud (refine (l01Narrow_ok _ _ _ HN.out).mono ?_); rintro e w' ⟨rfl, rfl⟩))
          go_ret
          exact ⟨⟨_, rfl, rfl, by decide⟩, Quiet.refl _⟩
        · clear hfw hf hn hge hle habs hbd hab
          go_enter Try.func21, Try.ntmps21
          go_wp2_with (first | (go_at_call 38; go_loud (refine (isFiniteLong_any _ _ (wide_lt _)).mono ?_); rintro e w' ⟨rfl, rfl⟩) | (go_at_call 40; go_loud (refine (isWhole_any _ _ true (wide_lt _) HA.out).mono ?_); rintro e w' ⟨rfl, rfl⟩))
          go_ret
          exact ⟨⟨_, rfl, rfl, by decide⟩, Quiet.refl _⟩
  · have hc := fun w => run_widen_nan (P := Try.prog) 26 25 x w (by kernel_rfl) Try.underlying25 hn
    have hnf : ∀ w, fin64 (nanc .f64 x w) = false := fun w => by simp [fin64, nanc64_nan]
    refine ⟨none, fun r h => (by cases h), fun w => ?_, fun w => ?_⟩
    · have HNF := Lib.hid hnf
      clear hnf
      go_enter Try.func37, Try.ntmps37
      go_wp2_with (first | (go_at_call 55; go_loud (refine (l01SineWide_nan _ _ (HNF.out _)).mono ?_); rintro e w' ⟨rfl, hq1⟩) | (go_at_call 32; go_loud (refine (l01Narrow_nan _ _ (by decide)).mono ?_); rintro e w' ⟨⟨v2, rfl, hv2⟩, hq2⟩))
      go_ret
      exact ⟨⟨_, rfl, hv2⟩, ((Quiet.one _).trans hq1).trans hq2⟩
    · go_enter Try.func21, Try.ntmps21
      go_wp2_with (first | (go_at_call 38; go_loud (refine (isFiniteLong_any _ _ (nanc64_lt _ _)).mono ?_); rintro e w' ⟨rfl, rfl⟩) | (go_at_call 39; go_loud (refine (notNumber_any _).mono ?_); rintro e w' ⟨⟨v2, rfl, hv2⟩, hq2⟩))
      go_ret
      exact ⟨⟨_, rfl, hv2⟩, (Quiet.one _).trans hq2⟩
theorem specSine_of (x : Nat) (o : Option Nat) (w : World) (h : ∀ w, Calls Try.prog 37 #[.float .f32 x] w fun e w' => (∃ v, e = .returned (.float .f32 v) ∧ RepR v o) ∧ Quiet w w') :
    Calls Try.prog 20 #[.float .f32 x] w fun e w' => (∃ v, e = .returned (.float .f32 v) ∧ RepR v o) ∧ Quiet w w' := by
  go_enter Try.func20, Try.ntmps20
  go_wp2_with (go_at_call 37; go_loud (refine (h _).mono ?_); rintro e w' ⟨⟨v, rfl, hv⟩, hq⟩)
  go_ret
  exact ⟨⟨_, rfl, hv⟩, hq⟩
theorem repr_some {P : Program} {f : FuncId} {args : Array Value} {w : World} {r : Nat} (h : Calls P f args w fun e w' => (∃ v, e = .returned (.float .f32 v) ∧ RepR v (some r)) ∧ Quiet w w') :
    Calls P f args w fun e w' => e = .returned (.float .f32 r) ∧ Quiet w w' :=
  h.mono fun e w' ⟨⟨v, he, hv⟩, hq⟩ => by obtain ⟨rfl, _⟩ := hv; exact ⟨he, hq⟩
theorem repr_none {P : Program} {f : FuncId} {args : Array Value} {w : World} (h : Calls P f args w fun e w' => (∃ v, e = .returned (.float .f32 v) ∧ RepR v none) ∧ Quiet w w') :
    Calls P f args w fun e w' => (∃ v, e = .returned (.float .f32 v) ∧ nan32 v = true) ∧ Quiet w w' := h

end Go.Proofs.Ytagebhbjpadddac
