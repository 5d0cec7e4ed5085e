/- Contracts of the tenths of decibels. -/
import Derived.Test.YtagebhbjpadddabTens
import Derived.Test.YtagebhbjpadddabBits
import Derived.Lib.Hide
namespace Go.Proofs.Ytagebhbjpadddab
open Go.RowKit Fl
open Ieee (Datum Toward)

theorem cmp_le1 (a b : Int) : (some (compare a b) == some Ordering.lt || some (compare a b) == some Ordering.eq) = decide (a ≤ b) := by
  rw [Bool.eq_iff_iff]
  simp only [beq_iff_eq, Bool.or_eq_true, Option.some.injEq, decide_eq_true_eq, compare, compareOfLessAndEq]
  split
  · simp; omega
  · split <;> simp <;> omega

/-- a finite number that is not at most 0 -/
theorem pos32 (x : Nat) (hf : fin32 x = true) (hle : (FloatKind.f32.format.order x 0 == some .lt || FloatKind.f32.format.order x 0 == some .eq) = false) :
    ∃ m e, Ieee.single.read x = .number false m e ∧ m ≠ 0 ∧ m.log2 ≤ 52 ∧ -149 ≤ e ∧ e ≤ 200 := by
  obtain ⟨s, m, e, hx⟩ := fin32_number hf
  have hr := read_number _ (by decide) x s m e hx
  have h0 : Ieee.single.read 0 = .number false 0 (-149) := by decide
  have ho : FloatKind.f32.format.order x 0 = some (compare (Ieee.signed s m (e - min e (-149)).toNat) (Ieee.signed false 0 (-149 - min e (-149)).toNat)) := by
    show Ieee.single.order _ _ = _
    unfold Ieee.Format.order; rw [hx, h0]; rfl
  rw [ho, cmp_le1] at hle
  have hn := of_decide_eq_false hle
  rw [show Ieee.single.fractionBits = 23 from rfl, lp32, show Ieee.single.exponentBits = 8 from rfl] at hr
  have hb : (2 : Nat) ^ 8 = 256 := by decide
  rw [hb] at hr
  cases s with
  | true =>
    refine absurd ?_ hn
    simp only [Ieee.signed, if_true, Bool.false_eq_true, if_false, shl_eq, Nat.zero_mul]
    omega
  | false =>
    refine ⟨m, e, hx, ?_, by omega, by omega, by omega⟩
    rintro rfl
    refine hn ?_
    simp [Ieee.signed, shl_eq]

theorem tenths_all (x m : Nat) (e : Int) (hx : Ieee.single.read x = .number false m e) (hm : m ≠ 0) (hL : m.log2 ≤ 52) (he : -149 ≤ e) (he2 : e ≤ 200) :
    ∃ l v r F n, (∀ w, Calls Try.prog 27 #[.float .f64 (wide x)] w fun e w' => e = .returned (.float .f64 l) ∧ w = w') ∧
      (∀ w, Calls Try.prog 39 #[.float .f64 (wide x)] w fun e w' => e = .returned (.float .f64 l) ∧ w = w') ∧
      floatBits .mul .f64 l 4631308968768463603 = some v ∧ floatBits .add .f64 v 4602678819172646912 = some r ∧
      (∀ w, Calls Try.prog 28 #[.float .f64 r] w fun e w' => e = .returned (.float .f64 F) ∧ w = w') ∧ floatToIntVal .f64 F .i64 = some n := by
  have hw : wide x = XX m e := by unfold wide; rw [hx]; rfl
  obtain ⟨ef, f1, f2, f3, f4⟩ := end_e m hm hL
  obtain ⟨r, hr, hb⟩ := tenths_facts (XX m ef) _ _ (e - ef) (read_XX m ef hm hL (by omega) (by omega)) (by omega) (by rw [VV_XX m ef hL (by omega)]; exact f3) (by rw [VV_XX m ef hL (by omega)]; exact f4) (by omega)
  obtain ⟨l, v, h1, h2, h3⟩ := hr.log
  obtain ⟨n, hn⟩ := floor_int r hb
  refine ⟨l, v, r, floorOf r, n, fun w => ?_, fun w => ?_, h2, h3, fun w => floor_of r hb w, hn⟩
  · rw [hw]; exact logOf_of m e ef l w hm hL (by omega) (by omega) (by omega) f2 f3 f4 h1
  · rw [hw]; exact l01LogWide_of m e ef l w hm hL (by omega) (by omega) (by omega) f2 f3 f4 h1

set_option maxHeartbeats 800000 in
theorem tenths_two (x : Nat) : ∃ n b, (∀ w, Calls Try.prog 10 #[.float .f32 x] w fun e w' => e = .returned (.tuple #[.int .i64 n, .bool b]) ∧ Quiet w w') ∧
    (∀ w, Calls Try.prog 11 #[.float .f32 x] w fun e w' => e = .returned (.tuple #[.int .i64 n, .bool b]) ∧ Quiet w w') := by
  cases hf : fin32 x
  · refine ⟨0, false, fun w => ?_, fun w => ?_⟩
    · go_enter Try.func10, Try.ntmps10
      go_wp2_with (go_at_call 24; go_loud (refine (l01Finite_any _ _).mono ?_); rintro e w' ⟨rfl, hq⟩)
      go_ret2
      exact ⟨rfl, hq⟩
    · go_enter Try.func11, Try.ntmps11
      go_wp2_with (go_at_call 26; go_loud (refine (isFinite_any _ _).mono ?_); rintro e w' ⟨rfl, hq⟩)
      go_ret2
      exact ⟨rfl, hq⟩
  · cases hle : (FloatKind.f32.format.order x 0 == some .lt || FloatKind.f32.format.order x 0 == some .eq)
    · obtain ⟨m, e, h1, h2, h3, h4, h5⟩ := pos32 x hf hle
      obtain ⟨l, v, r, F, n, k1, k2, k3, k4, k5, k6⟩ := tenths_all x m e h1 h2 h3 h4 h5
      have hnn : nan32 x = false := by unfold nan32; rw [h1]; rfl
      have hc := fun w => run_convert_float_float (P := Try.prog) w 28 22 .f32 .f64 x (wide x) (by kernel_rfl) Try.underlying22 (wide_conv x hnn)
      have ev := fun w => run_float_arith (P := Try.prog) w .mul 22 .f64 _ _ _ k3
      have er := fun w => run_float_arith (P := Try.prog) w .add 22 .f64 _ _ _ k4
      have en := fun w => run_convert_float_int (P := Try.prog) w 22 2 .f64 .i64 F n (by kernel_rfl) Try.underlying2 k6
      have K1 := Lib.hid k1
      have K2 := Lib.hid k2
      have K5 := Lib.hid k5
      clear h1 h2 h3 h4 h5 k1 k2 k3 k4 k5 k6 hnn
      have hT : ∀ w, Calls Try.prog 25 #[.float .f32 x] w fun e w' => e = .returned (.int .i64 n) ∧ w = w' := by
        intro w
        go_enter Try.func25, Try.ntmps25
        go_wp2_with (first | (go_at_call 39; (with_reducible refine (K2.out _).mono ?_); rintro e w' ⟨rfl, rfl⟩) | (go_at_call 28; (with_reducible refine (K5.out _).mono ?_); rintro e w' ⟨rfl, rfl⟩))
        go_ret
        exact ⟨rfl, rfl⟩
      have HT := Lib.hid hT
      clear hT
      refine ⟨n, true, fun w => ?_, fun w => ?_⟩
      · go_enter Try.func10, Try.ntmps10
        go_wp2_with (first | (go_at_call 24; go_loud (refine (l01Finite_any _ _).mono ?_); rintro e w' ⟨rfl, hq⟩) | (go_at_call 25; (with_reducible refine (HT.out _).mono ?_); rintro e w' ⟨rfl, rfl⟩))
        go_ret2
        exact ⟨rfl, hq⟩
      · go_enter Try.func11, Try.ntmps11
        go_wp2_with (first | (go_at_call 26; go_loud (refine (isFinite_any _ _).mono ?_); rintro e w' ⟨rfl, hq⟩) | (go_at_call 27; (with_reducible refine (K1.out _).mono ?_); rintro e w' ⟨rfl, rfl⟩) | (go_at_call 28; (with_reducible refine (K5.out _).mono ?_); rintro e w' ⟨rfl, rfl⟩))
        go_ret2
        exact ⟨rfl, hq⟩
    · refine ⟨0, false, fun w => ?_, fun w => ?_⟩
      · go_enter Try.func10, Try.ntmps10
        go_wp2_with (go_at_call 24; go_loud (refine (l01Finite_any _ _).mono ?_); rintro e w' ⟨rfl, hq⟩)
        go_ret2
        exact ⟨rfl, hq⟩
      · go_enter Try.func11, Try.ntmps11
        go_wp2_with (go_at_call 26; go_loud (refine (isFinite_any _ _).mono ?_); rintro e w' ⟨rfl, hq⟩)
        go_ret2
        exact ⟨rfl, hq⟩

end Go.Proofs.Ytagebhbjpadddab
