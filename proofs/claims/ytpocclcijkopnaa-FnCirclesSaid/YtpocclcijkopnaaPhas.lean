/- Contracts of PhasorOf, on both sides. -/
import Derived.Test.YtpocclcijkopnaaPha
import Derived.Test.YtpocclcijkopnaaSint
namespace Go.Proofs.Ytpocclcijkopnaa
open Go.RowKit Fl
open Ieee (Datum Toward)

/-- a number that is far from 2 to the power of 52 -/
theorem small_tests (y : Nat) (h : Bd y 1125) : fin64 y = true ∧
    (FloatKind.f64.format.order y 4841369599423283200 == some .gt || FloatKind.f64.format.order y 4841369599423283200 == some .eq) = false ∧
    (FloatKind.f64.format.order y 14064741636278059008 == some .lt || FloatKind.f64.format.order y 14064741636278059008 == some .eq) = false := by
  obtain ⟨s, m, e, hx, he, h3⟩ := h
  have hlt : m * 2 ^ (e - min e 0).toNat < 2 ^ 52 * 2 ^ (0 - min e 0).toNat := by
    have e1 : (e + 1074).toNat = (e - min e 0).toNat + (min e 0 + 1074).toNat := by omega
    have e2 : (1125 : Nat) = 51 + (0 - min e 0).toNat + (min e 0 + 1074).toNat := by omega
    rw [e1, e2, Nat.pow_add, Nat.pow_add 2 (51 + _), Nat.pow_add 2 51, ← Nat.mul_assoc] at h3
    have h4 := Nat.le_of_mul_le_mul_right h3 (Nat.two_pow_pos _)
    have h5 : 2 ^ 51 * 2 ^ (0 - min e 0).toNat < 2 ^ 52 * 2 ^ (0 - min e 0).toNat := Nat.mul_lt_mul_of_pos_right (by decide) (Nat.two_pow_pos _)
    omega
  refine ⟨by simp [fin64, nan64, inf64, hx, Datum.isNaN, Datum.isInfinity], ?_, ?_⟩
  · have : FloatKind.f64.format.order y 4841369599423283200 = some (compare (Ieee.signed s m (e - min e 0).toNat) (Ieee.signed false (2 ^ 52) (0 - min e 0).toNat)) := by
      show Ieee.double.order _ _ = _
      unfold Ieee.Format.order; rw [hx, read_big]; rfl
    rw [this, cmp_ge, decide_eq_false_iff_not]
    unfold Ieee.signed
    rw [shl_eq, shl_eq]
    generalize m * 2 ^ (e - min e 0).toNat = A at *
    generalize 2 ^ 52 * 2 ^ (0 - min e 0).toNat = B at *
    cases s
    · simp; omega
    · simp; omega
  · have : FloatKind.f64.format.order y 14064741636278059008 = some (compare (Ieee.signed s m (e - min e 0).toNat) (Ieee.signed true (2 ^ 52) (0 - min e 0).toNat)) := by
      show Ieee.double.order _ _ = _
      unfold Ieee.Format.order; rw [hx, read_big']; rfl
    rw [this, cmp_le, decide_eq_false_iff_not]
    unfold Ieee.signed
    rw [shl_eq, shl_eq]
    generalize m * 2 ^ (e - min e 0).toNat = A at *
    generalize 2 ^ 52 * 2 ^ (0 - min e 0).toNat = B at *
    cases s
    · simp; omega
    · simp; omega

/-- which parts are taken -/
def PEnd (q c s re im : Nat) : Prop := (q = 1 ∧ floatBits .sub .f64 0 s = some re ∧ im = c) ∨ (q = 2 ∧ floatBits .sub .f64 0 c = some re ∧ floatBits .sub .f64 0 s = some im) ∨
  (q = 3 ∧ re = s ∧ floatBits .sub .f64 0 c = some im) ∨ ((q = 0 ∨ q = 4) ∧ re = c ∧ im = s)
theorem bd_z : Bd 0 1075 := bd_zero.mono (by omega)
theorem pend_facts (q c s : Nat) (hq : q ≤ 4) (hc : Bd c 1194) (hs : Bd s 1194) : ∃ re im, PEnd q c s re im ∧ Bd re 1195 ∧ Bd im 1195 := by
  obtain ⟨c', h1, g1⟩ := bd_sub (K := 1194) (bd_z.mono (by omega)) hc (by omega) (by omega)
  obtain ⟨s', h2, g2⟩ := bd_sub (K := 1194) (bd_z.mono (by omega)) hs (by omega) (by omega)
  have : q = 0 ∨ q = 1 ∨ q = 2 ∨ q = 3 ∨ q = 4 := by omega
  rcases this with rfl | rfl | rfl | rfl | rfl
  · exact ⟨c, s, .inr (.inr (.inr ⟨.inl rfl, rfl, rfl⟩)), hc.mono (by omega), hs.mono (by omega)⟩
  · exact ⟨s', c, .inl ⟨rfl, h2, rfl⟩, g2, hc.mono (by omega)⟩
  · exact ⟨c', s', .inr (.inl ⟨rfl, h1, h2⟩), g1, g2⟩
  · exact ⟨s, c', .inr (.inr (.inl ⟨rfl, rfl, h1⟩)), hs.mono (by omega), g1⟩
  · exact ⟨c, s, .inr (.inr (.inr ⟨.inr rfl, rfl, rfl⟩)), hc.mono (by omega), hs.mono (by omega)⟩

/-- the loop's facts -/
def Quarters (f1 q : Nat) (G : Nat → Nat) : Prop := q ≤ 4 ∧ G 0 = f1 ∧
    (∀ j, j < q → (FloatKind.f64.format.order (G j) 4598175219545276416 == some .gt || FloatKind.f64.format.order (G j) 4598175219545276416 == some .eq) = true ∧ floatBits .sub .f64 (G j) 4598175219545276416 = some (G (j + 1))) ∧
    (FloatKind.f64.format.order (G q) 4598175219545276416 == some .gt || FloatKind.f64.format.order (G q) 4598175219545276416 == some .eq) = false

theorem narrowComplex_ok (a b A B : Nat) (w : World) (ha : floatToFloatBits .f64 a .f32 = some A) (hb : floatToFloatBits .f64 b .f32 = some B) :
    Calls Try.prog 117 #[.complex .f64 a b] w fun e w' => e = .returned (.complex .f32 A B) ∧ w = w' := by
  have HA := Lib.hid ha
  have HB := Lib.hid hb
  clear ha hb
  go_enter Try.func117, Try.ntmps117
  go_wp2_with (first | (go_at_call 102; (with_reducible refine (narrowNumber_ok a _ _ HA.out).mono ?_); rintro e w' ⟨rfl, rfl⟩) | (go_at_call 102; (with_reducible refine (narrowNumber_ok b _ _ HB.out).mono ?_); rintro e w' ⟨rfl, rfl⟩))
  go_ret
  exact ⟨rfl, rfl⟩

set_option maxRecDepth 100000 in
set_option maxHeartbeats 3200000 in
theorem phasorOf_of (y f1 q d c s re im R I : Nat) (G : Nat → Nat) (w : World) (hy : y < 18446744073709551616) (hfin : fin64 y = true)
    (HW : Hid (∀ w, Calls Try.prog 114 #[.float .f64 y] w fun e w' => e = .returned (.bool false) ∧ w = w'))
    (HPt : Hid (∀ w, Calls Try.prog 115 #[.float .f64 y] w fun e w' => e = .returned (.float .f64 f1) ∧ w = w'))
    (hQ : Quarters f1 q G) (hd : floatBits .sub .f64 4598175219545276416 (G q) = some d)
    (HC : Hid (∀ w, Calls Try.prog 116 #[.float .f64 d] w fun e w' => e = .returned (.float .f64 c) ∧ w = w'))
    (HSs : Hid (∀ w, Calls Try.prog 116 #[.float .f64 (G q)] w fun e w' => e = .returned (.float .f64 s) ∧ w = w'))
    (HE : Hid (PEnd q c s re im))
    (HNc : Hid (∀ w, Calls Try.prog 117 #[.complex .f64 re im] w fun e w' => e = .returned (.complex .f32 R I) ∧ w = w')) :
    Calls Try.prog 41 #[.float .f64 y] w fun e w' => e = .returned (.complex .f32 R I) ∧ w = w' := by
  obtain ⟨hq4, hG0, hstep, hlast⟩ := hQ
  have ed := fun w => run_float_arith (P := Try.prog) w .sub 47 .f64 _ _ _ hd
  have HG0 := Lib.hid hG0
  have HS := Lib.hid hstep
  have HL := Lib.hid hlast
  clear hd hG0 hstep hlast
  go_enter Try.func41, Try.ntmps41
  go_wp2_with (first | (go_at_call 112; go_loud (refine (isFiniteLong_any _ _ hy).mono ?_); rintro e w' ⟨rfl, rfl⟩) | (go_at_call 114; go_loud (refine (HW.out _).mono ?_); rintro e w' ⟨rfl, rfl⟩) | (go_at_call 115; go_loud (refine (HPt.out _).mono ?_); rintro e w' ⟨rfl, rfl⟩))
  go_loop [3, 4] (fun f i => ∃ j : Nat, j ≤ q ∧ i = .int .i64 j ∧ f = .float .f64 (G j)) (fun _ i => q - (intOf i).toNat)
  case atStart => exact ⟨0, Nat.zero_le _, rfl, by rw [HG0.out]⟩
  case round =>
    obtain ⟨j, hj, rfl, rfl⟩ := hrel
    by_cases hjq : j < q
    · obtain ⟨ht, hs⟩ := HS.out j hjq
      have es := fun w => run_float_arith (P := Try.prog) w .sub 47 .f64 _ _ _ hs
      clear hs
      go_wp2
      go_round
      case rel => exact ⟨j + 1, by omega, by go_num, rfl⟩
      case measure => simp [intOf]; omega
    · obtain rfl : j = q := by omega
      have ht := HL.out
      clear hj hjq hq4
      rcases HE.out with ⟨rfl, h1, rfl⟩ | ⟨rfl, h1, h2⟩ | ⟨rfl, rfl, h2⟩ | ⟨h0, rfl, rfl⟩
      · have w1 := fun w => run_float_arith (P := Try.prog) w .sub 47 .f64 _ _ _ h1
        clear h1
        clear HE
        go_wp2_with (first | (go_at_call 116; (with_reducible refine (HC.out _).mono ?_); rintro e w' ⟨rfl, rfl⟩) | (go_at_call 116; (with_reducible refine (HSs.out _).mono ?_); rintro e w' ⟨rfl, rfl⟩) | (go_at_call 117; (with_reducible refine (HNc.out _).mono ?_); rintro e w' ⟨rfl, rfl⟩))
        go_ret
        exact ⟨rfl, rfl⟩
      · have w1 := fun w => run_float_arith (P := Try.prog) w .sub 47 .f64 _ _ _ h1
        have w2 := fun w => run_float_arith (P := Try.prog) w .sub 47 .f64 _ _ _ h2
        clear h1 h2
        clear HE
        go_wp2_with (first | (go_at_call 116; (with_reducible refine (HC.out _).mono ?_); rintro e w' ⟨rfl, rfl⟩) | (go_at_call 116; (with_reducible refine (HSs.out _).mono ?_); rintro e w' ⟨rfl, rfl⟩) | (go_at_call 117; (with_reducible refine (HNc.out _).mono ?_); rintro e w' ⟨rfl, rfl⟩))
        go_ret
        exact ⟨rfl, rfl⟩
      · have w2 := fun w => run_float_arith (P := Try.prog) w .sub 47 .f64 _ _ _ h2
        clear h2
        clear HE
        go_wp2_with (first | (go_at_call 116; (with_reducible refine (HC.out _).mono ?_); rintro e w' ⟨rfl, rfl⟩) | (go_at_call 116; (with_reducible refine (HSs.out _).mono ?_); rintro e w' ⟨rfl, rfl⟩) | (go_at_call 117; (with_reducible refine (HNc.out _).mono ?_); rintro e w' ⟨rfl, rfl⟩))
        go_ret
        exact ⟨rfl, rfl⟩
      · rcases h0 with rfl | rfl
        · clear HE
          go_wp2_with (first | (go_at_call 116; (with_reducible refine (HC.out _).mono ?_); rintro e w' ⟨rfl, rfl⟩) | (go_at_call 116; (with_reducible refine (HSs.out _).mono ?_); rintro e w' ⟨rfl, rfl⟩) | (go_at_call 117; (with_reducible refine (HNc.out _).mono ?_); rintro e w' ⟨rfl, rfl⟩))
          go_ret
          exact ⟨rfl, rfl⟩
        · clear HE
          go_wp2_with (first | (go_at_call 116; (with_reducible refine (HC.out _).mono ?_); rintro e w' ⟨rfl, rfl⟩) | (go_at_call 116; (with_reducible refine (HSs.out _).mono ?_); rintro e w' ⟨rfl, rfl⟩) | (go_at_call 117; (with_reducible refine (HNc.out _).mono ?_); rintro e w' ⟨rfl, rfl⟩))
          go_ret
          exact ⟨rfl, rfl⟩

end Go.Proofs.Ytpocclcijkopnaa
