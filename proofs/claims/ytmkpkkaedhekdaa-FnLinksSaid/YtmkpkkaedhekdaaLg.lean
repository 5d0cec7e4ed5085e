/- The length of a complex number whose parts are halves of 32-bit numbers: both sides give the same number. -/
import Derived.Test.YtmkpkkaedhekdaaLgf
import Derived.Test.YtmkpkkaedhekdaaRoot
import Derived.Test.YtmkpkkaedhekdaaSums
import Derived.Laws.ComplexArith
namespace Go.Proofs.Ytmkpkkaedhekdaa
open Go.RowKit Fl
open Ieee (Datum)

theorem not_nan_cases {x : Nat} (h : nan32 x = false) : (∃ s m e, Ieee.single.read x = .number s m e) ∨ ∃ s, Ieee.single.read x = .infinity s := by
  unfold nan32 at h
  cases hx : Ieee.single.read x with
  | number s m e => exact .inl ⟨s, m, e, rfl⟩
  | infinity s => exact .inr ⟨s, rfl⟩
  | nan s t => simp [hx, Datum.isNaN] at h
theorem fin32_of {x : Nat} {s : Bool} {m : Nat} {e : Int} (h : Ieee.single.read x = .number s m e) : fin32 x = true := by
  simp [fin32, nan32, inf32, h, Datum.isNaN, Datum.isInfinity]
theorem fin_not_nan {x : Nat} (h : fin32 x = true) : nan32 x = false := by
  simp only [fin32, Bool.and_eq_true, Bool.not_eq_true'] at h; exact h.1
/-- sums and differences of two finite numbers -/
theorem fin_sum {a b : Nat} (ha : fin32 a = true) (hb : fin32 b = true) : ∃ r, floatBits .add .f32 a b = some r ∧ nan32 r = false := by
  obtain ⟨s, m, e, h1⟩ := fin32_number ha
  obtain ⟨t, n, f, h2⟩ := fin32_number hb
  have h : ∃ r, floatBits .add .f32 a b = some r := by
    show ∃ r, ((Ieee.single.read a).sum (Ieee.single.read b)).map Ieee.single.write = some r
    rw [h1, h2]; exact ⟨_, rfl⟩
  obtain ⟨r, h⟩ := h
  exact ⟨r, h, add32_not_nan h⟩
theorem sub32_not_nan {x y r : Nat} (h : floatBits .sub .f32 x y = some r) : nan32 r = false :=
  map_write_not_nan Ieee.single (by decide) (d := (Ieee.single.read x).sum (Ieee.single.read y).opposite) h (fun _ hd => sum_not_nan _ _ _ hd)
theorem fin_sub {a b : Nat} (ha : fin32 a = true) (hb : fin32 b = true) : ∃ r, floatBits .sub .f32 a b = some r ∧ nan32 r = false := by
  obtain ⟨s, m, e, h1⟩ := fin32_number ha
  obtain ⟨t, n, f, h2⟩ := fin32_number hb
  have h : ∃ r, floatBits .sub .f32 a b = some r := by
    show ∃ r, ((Ieee.single.read a).sum (Ieee.single.read b).opposite).map Ieee.single.write = some r
    rw [h1, h2]; exact ⟨_, rfl⟩
  obtain ⟨r, h⟩ := h
  exact ⟨r, h, sub32_not_nan h⟩
/-- at most 2 ^ 127, or infinite -/
def Part (x : Nat) : Prop := nan32 x = false ∧ (Bd (wide x) 1201 ∨ ∃ s, Ieee.single.read x = .infinity s)
theorem read_half : Ieee.single.read 1056964608 = .number false 8388608 (-24) := by decide
/-- half of a number -/
theorem half_part {x : Nat} (h : nan32 x = false) : ∃ r, floatBits .mul .f32 1056964608 x = some r ∧ Part r := by
  have h0 : floatBits .mul .f32 1056964608 x = ((Datum.number false 8388608 (-24)).product (Ieee.single.read x)).map Ieee.single.write := by
    show ((Ieee.single.read 1056964608).product (Ieee.single.read x)).map Ieee.single.write = _
    rw [read_half]
  rcases not_nan_cases h with ⟨s, m, e, hx⟩ | ⟨s, hx⟩
  · obtain ⟨_, h2, h3, h4⟩ := read_number _ (by decide) x s m e hx
    rw [lp32] at h2 h3
    have h3' : (e - -149).toNat + 3 ≤ 256 := h3
    have h4' : m < 2 ^ 24 := h4
    rw [hx] at h0
    refine ⟨_, h0, ?_⟩
    have hfb : Ieee.single.fractionBits = 23 := rfl
    have hb : Ieee.single.binade = 2 ^ 23 := rfl
    have hi : Ieee.single.infRung = 255 * 2 ^ 23 := by decide
    obtain ⟨K, hK⟩ : ∃ K, K = 276 := ⟨_, rfl⟩
    obtain ⟨J, hJ⟩ : ∃ J, J = 24 := ⟨_, rfl⟩
    obtain ⟨rung, g1, _, g3⟩ := nearest_le Ieee.single (false ^^ s) (8388608 * m) (-24 + e) K J (by rw [hfb]; omega) (by rw [lp32]; omega) (by
      have e1 : (-24 + e - Ieee.single.leastPlace + (J : Nat)).toNat = (e + 149).toNat := by rw [lp32]; omega
      rw [e1]
      calc 8388608 * m * 2 ^ (e + 149).toNat ≤ 2 ^ 23 * 2 ^ 24 * 2 ^ (e + 149).toNat := Nat.mul_le_mul_right _ (Nat.mul_le_mul (Nat.le_refl _) (Nat.le_of_lt h4'))
        _ = 2 ^ (23 + 24 + (e + 149).toNat) := by rw [← Nat.pow_add, ← Nat.pow_add]
        _ ≤ 2 ^ (K + J) := Nat.pow_le_pow_right (by decide) (by omega))
    rw [hfb, hb] at g1
    have hr : rung < Ieee.single.infRung := by
      rw [hi]
      have : (K - 23 + 1) * 2 ^ 23 ≤ 254 * 2 ^ 23 := Nat.mul_le_mul_right _ (by omega)
      omega
    obtain ⟨m', e', k1, k2, k3⟩ := rung_value Ieee.single (false ^^ s) K rung (by rw [hfb]; omega) (by rw [hfb, hb]; exact g1) hr
    rw [lp32] at k2 k3
    have hrd : Ieee.single.read (Ieee.single.nearest (false ^^ s) (8388608 * m) (-24 + e)) = .number (false ^^ s) m' e' := by rw [g3]; exact k1
    show Part (Ieee.single.nearest (false ^^ s) (8388608 * m) (-24 + e))
    refine ⟨by unfold nan32; rw [hrd]; rfl, .inl ?_⟩
    obtain ⟨m2, e2, q1, q2, q3⟩ := read_wide_number _ _ m' e' hrd
    refine ⟨_, m2, e2, q1, q2, ?_⟩
    rw [← shl_eq, q3, shl_eq]
    have e3 : (e' + 1074).toNat = (e' - -149).toNat + 925 := by omega
    obtain ⟨Z, hZ⟩ : ∃ Z, Z = 925 := ⟨_, rfl⟩
    obtain ⟨Y, hY⟩ : ∃ Y, Y = 1201 := ⟨_, rfl⟩
    rw [e3, ← hZ, ← hY, Nat.pow_add, ← Nat.mul_assoc]
    refine Nat.le_trans (Nat.mul_le_mul_right _ k3) ?_
    rw [← Nat.pow_add]
    exact Nat.pow_le_pow_right (by decide) (by omega)
  · rw [hx] at h0
    cases s
    · exact ⟨_, h0, by decide, .inr ⟨false, by decide⟩⟩
    · exact ⟨_, h0, by decide, .inr ⟨true, by decide⟩⟩

theorem inf_sq {x : Nat} {s : Bool} (h : Ieee.single.read x = .infinity s) : floatBits .mul .f64 (wide x) (wide x) = some 9218868437227405312 := by
  have hw := read_wide_inf x s h
  show ((Ieee.double.read (wide x)).product (Ieee.double.read (wide x))).map Ieee.double.write = _
  rw [hw]
  cases s <;> decide
theorem read_inf64 : Ieee.double.read 9218868437227405312 = .infinity false := by decide
theorem write_inf64 : Ieee.double.write (.infinity false) = 9218868437227405312 := by decide
theorem inf_add_bd {y K : Nat} (h : Bd y K) : floatBits .add .f64 9218868437227405312 y = some 9218868437227405312 := by
  obtain ⟨t, n, f, h2, _⟩ := h
  show ((Ieee.double.read 9218868437227405312).sum (Ieee.double.read y)).map Ieee.double.write = _
  rw [read_inf64, h2]
  simp [Datum.sum, write_inf64]
theorem bd_add_inf {y K : Nat} (h : Bd y K) : floatBits .add .f64 y 9218868437227405312 = some 9218868437227405312 := by
  obtain ⟨t, n, f, h2, _⟩ := h
  show ((Ieee.double.read y).sum (Ieee.double.read 9218868437227405312)).map Ieee.double.write = _
  rw [read_inf64, h2]
  simp [Datum.sum, write_inf64]
theorem inf_add_inf : floatBits .add .f64 9218868437227405312 9218868437227405312 = some 9218868437227405312 := by decide
theorem sqrt_inf : Ieee.double.sqrt 9218868437227405312 = some 9218868437227405312 := by decide
theorem narrow_inf : floatToFloatBits .f64 9218868437227405312 .f32 = some 2139095040 := by decide

/-- the words of a power, and what its root is narrowed to -/
structure LongW (x y p q s : Nat) (o : Option Nat) : Prop where
  hp : floatBits .mul .f64 (wide x) (wide x) = some p
  hq : floatBits .mul .f64 (wide y) (wide y) = some q
  hs : floatBits .add .f64 p q = some s
  ho : (Ieee.double.sqrt s = none ∧ o = none) ∨ ∃ r v, Ieee.double.sqrt s = some r ∧ floatToFloatBits .f64 r .f32 = some v ∧ o = some v ∧ nan32 v = false
theorem long_words {x y : Nat} (hx : Part x) (hy : Part y) : ∃ p q s o, LongW x y p q s o := by
  obtain ⟨_, hx⟩ := hx
  obtain ⟨_, hy⟩ := hy
  have big : (Ieee.double.sqrt 9218868437227405312 = none ∧ some 2139095040 = none) ∨ ∃ r v, Ieee.double.sqrt 9218868437227405312 = some r ∧ floatToFloatBits .f64 r .f32 = some v ∧ some 2139095040 = some v ∧ nan32 v = false :=
    .inr ⟨_, _, sqrt_inf, narrow_inf, rfl, by decide⟩
  rcases hx with hx | ⟨s, hx⟩
  · obtain ⟨p, hp, bp⟩ := bd_mul 1328 hx hx (by omega) (by omega) (by omega)
    rcases hy with hy | ⟨t, hy⟩
    · obtain ⟨q, hq, bq⟩ := bd_mul 1328 hy hy (by omega) (by omega) (by omega)
      obtain ⟨s, hs, bs⟩ := bd_add bp bq (by omega) (by omega)
      rcases bd3_sqrt 1329 rfl bs with h | ⟨r, h, b3⟩
      · exact ⟨p, q, s, none, hp, hq, hs, .inl ⟨h, rfl⟩⟩
      · exact ⟨p, q, s, some (narrow r), hp, hq, hs, .inr ⟨r, _, h, (narrow3_ok b3).1, rfl, (narrow3_ok b3).2⟩⟩
    · exact ⟨p, _, _, _, hp, inf_sq hy, bd_add_inf bp, big⟩
  · rcases hy with hy | ⟨t, hy⟩
    · obtain ⟨q, hq, bq⟩ := bd_mul 1328 hy hy (by omega) (by omega) (by omega)
      exact ⟨_, q, _, _, inf_sq hx, hq, inf_add_bd bq, big⟩
    · exact ⟨_, _, _, _, inf_sq hx, inf_sq hy, inf_add_inf, big⟩

set_option maxHeartbeats 1600000 in
theorem longOf_w (a b p q s : Nat) (o : Option Nat) (w : World) (ha : nan32 a = false) (hb : nan32 b = false) (h : LongW a b p q s o) :
    Calls Try.prog 15 #[.complex .f32 a b] w fun e w' => (∃ v, e = .returned (.float .f32 v) ∧ Rep v o) ∧ Quiet w w' := by
  have HL : Hid (∀ w, Calls Try.prog 37 #[.complex .f32 a b] w fun e w' => e = .returned (.float .f64 s) ∧ w = w') := by
    intro w
    have c1 := fun w => run_convert_float_float (P := Try.prog) w 46 78 .f32 .f64 a (wide a) (by kernel_rfl) Try.underlying78 (wide_conv a ha)
    have c2 := fun w => run_convert_float_float (P := Try.prog) w 46 78 .f32 .f64 b (wide b) (by kernel_rfl) Try.underlying78 (wide_conv b hb)
    have e1 := fun w => run_float_arith (P := Try.prog) w .mul 78 .f64 _ _ _ h.hp
    have e2 := fun w => run_float_arith (P := Try.prog) w .mul 78 .f64 _ _ _ h.hq
    have e5 := fun w => run_float_arith (P := Try.prog) w .add 78 .f64 _ _ _ h.hs
    clear h ha hb
    go_enter Try.func37, Try.ntmps37
    go_wp2
    go_ret
    exact ⟨rfl, rfl⟩
  rcases h.ho with ⟨h1, rfl⟩ | ⟨r, v, h1, h2, rfl, h3⟩
  · have HQ := Lib.hid fun w => sqrt_none s w h1
    have HN := Lib.hid fun y w hy => narrowNumber_nan y w hy
    clear h ha hb h1
    go_enter Try.func15, Try.ntmps15
    go_wp2_with (first | (go_at_call 37; (with_reducible refine (HL.out _).mono ?_); rintro e w' ⟨rfl, rfl⟩) | (go_at_call 36; (with_reducible refine (HQ.out _).mono ?_); rintro e w1 ⟨⟨y, rfl, hy⟩, m1, rfl⟩; have HY := Lib.hid hy; clear hy) | (go_at_call 35; (with_reducible refine (HN.out _ _ HY.out).mono ?_); rintro e w2 ⟨⟨z, rfl, hz⟩, m2, rfl⟩; have HZ := Lib.hid hz; clear hz))
    go_ret
    exact ⟨⟨_, rfl, HZ.out⟩, _, rfl⟩
  · have HQ := Lib.hid fun w => sqrt_some s r w h1
    have HN := Lib.hid fun w => narrowNumber_ok r v w h2
    clear h ha hb h1 h2
    go_enter Try.func15, Try.ntmps15
    go_wp2_with (first | (go_at_call 37; (with_reducible refine (HL.out _).mono ?_); rintro e w' ⟨rfl, rfl⟩) | (go_at_call 36; (with_reducible refine (HQ.out _).mono ?_); rintro e w' ⟨rfl, rfl⟩) | (go_at_call 35; (with_reducible refine (HN.out _).mono ?_); rintro e w' ⟨rfl, rfl⟩))
    go_ret
    exact ⟨⟨_, rfl, rfl, h3⟩, Quiet.refl _⟩
end Go.Proofs.Ytmkpkkaedhekdaa
