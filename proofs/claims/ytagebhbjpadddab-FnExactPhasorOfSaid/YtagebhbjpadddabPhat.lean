/- PhasorOf: both sides give the same complex number, or not-a-numbers in both parts. Every 64-bit number. -/
import Derived.Test.YtagebhbjpadddabPhas
import Derived.Laws.ComplexArith
namespace Go.Proofs.Ytagebhbjpadddab
open Go.RowKit Fl
open Ieee (Datum Toward)

def RepC (a b : Nat) : Option (Nat × Nat) → Prop
  | none => nan32 a = true ∧ nan32 b = true
  | some r => a = r.1 ∧ b = r.2

theorem run_cwiden {P : Program} (src dst : TypeId) (a b : Nat) (w : World) (hs : (P.underlying src).isSome = true) (hd : P.underlying dst = some (.complex .f64)) (ha : nan32 a = false) (hb : nan32 b = false) :
    (convert src dst (.complex .f32 a b)).run P w = .ok (.complex .f64 (wide a) (wide b)) w :=
  run_convert_complex w src dst .f32 .f64 a b _ _ hs hd (by simp [cConvBits, wide_conv a ha, wide_conv b hb])

theorem nan_datum {f : Ieee.Format} {x : Nat} (h : (f.read x).isNaN = true) : ∃ s t, f.read x = .nan s t := by
  cases hx : f.read x with
  | nan s t => exact ⟨s, t, rfl⟩
  | number s m e => simp [hx, Datum.isNaN] at h
  | infinity s => simp [hx, Datum.isNaN] at h

theorem run_cwiden_nan {P : Program} (src dst : TypeId) (a b : Nat) (w : World) (hs : (P.underlying src).isSome = true) (hd : P.underlying dst = some (.complex .f64)) (ha : nan32 a = true) (hb : nan32 b = true) :
    (convert src dst (.complex .f32 a b)).run P w = .ok (.complex .f64 (nanc .f64 a w) (nanc .f64 b w.drew)) w.drew.drew := by
  obtain ⟨u, hs'⟩ := Option.isSome_iff_exists.1 hs
  obtain ⟨s1, t1, h1⟩ := nan_datum (f := Ieee.single) ha
  obtain ⟨s2, t2, h2⟩ := nan_datum (f := Ieee.single) hb
  have g1 : FloatKind.f32.decode a = .nan s1 t1 := h1
  have g2 : FloatKind.f32.decode b = .nan s2 t2 := h2
  cases u <;> simp [convert, run_underlying hs', run_underlying hd, Conv.complexToComplex, Conv.floatToFloat, g1, g2, Question.forced, nanc]

theorem sameComplex_self (a b : Nat) (w : World) (ha : nan64 a = false) (hb : nan64 b = false) :
    Calls Try.prog 9 #[.complex .f64 a b, .complex .f64 a b] w fun e w' => e = .returned (.bool true) ∧ w = w' := by
  go_enter Try.func9, Try.ntmps9
  go_wp2_with (first | (go_at_call 14; (with_reducible refine (sameFloat_self a _ ha).mono ?_); rintro e w' ⟨rfl, rfl⟩) | (go_at_call 14; (with_reducible refine (sameFloat_self b _ hb).mono ?_); rintro e w' ⟨rfl, rfl⟩))
  all_goals (go_ret; exact ⟨rfl, rfl⟩)
theorem sameComplex_nan (a b c d : Nat) (w : World) (ha : nan64 a = true) (hb : nan64 b = true) (hc : nan64 c = true) (hd : nan64 d = true) :
    Calls Try.prog 9 #[.complex .f64 a b, .complex .f64 c d] w fun e w' => e = .returned (.bool true) ∧ w = w' := by
  go_enter Try.func9, Try.ntmps9
  go_wp2_with (first | (go_at_call 14; (with_reducible refine (sameFloat_nan a c _ ha hc).mono ?_); rintro e w' ⟨rfl, rfl⟩) | (go_at_call 14; (with_reducible refine (sameFloat_nan b d _ hb hd).mono ?_); rintro e w' ⟨rfl, rfl⟩))
  all_goals (go_ret; exact ⟨rfl, rfl⟩)

theorem sub_none64 {y : Nat} (h : fin64 y = false) : floatBits .sub .f64 y y = none := by
  refine sub_self_none _ y ?_
  simp only [fin64, nan64, inf64, Bool.and_eq_false_iff, Bool.not_eq_false'] at h
  exact h

set_option maxRecDepth 100000 in
set_option maxHeartbeats 1600000 in
theorem phasor_both (y : Nat) (hy : y < 18446744073709551616) : ∃ o : Option (Nat × Nat), (∀ r, o = some r → nan32 r.1 = false ∧ nan32 r.2 = false) ∧
    (∀ w, Calls Try.prog 17 #[.float .f64 y] w fun e w' => (∃ a b, e = .returned (.complex .f32 a b) ∧ RepC a b o) ∧ Quiet w w') ∧
    (∀ w, Calls Try.prog 8 #[.float .f64 y] w fun e w' => (∃ a b, e = .returned (.complex .f32 a b) ∧ RepC a b o) ∧ Quiet w w') := by
  cases hf : fin64 y
  · refine ⟨none, fun r h => (by cases h), fun w => ?_, fun w => ?_⟩
    · have hs := fun w => run_arith_nan (P := Try.prog) .sub 22 .f64 y y w (by simp) (sub_none64 hf)
      have ho : ∀ w, FloatKind.f64.format.order (nanb .f64 y y w) 0 = none := fun w => order_nan_left Ieee.double (nanb .f64 y y w) 0 (nanb64_nan y y w)
      clear hf
      go_enter Try.func17, Try.ntmps17
      go_wp2_with (go_at_call 32; go_loud (refine (l01From_any 2143289344 _ (by decide)).mono ?_); rintro e w' ⟨rfl, rfl⟩)
      go_ret
      exact ⟨⟨_, _, rfl, by decide, by decide⟩, Quiet.one _⟩
    · go_enter Try.func8, Try.ntmps8
      go_wp2_with (first | (go_at_call 18; go_loud (refine (isFiniteLong_any _ _ hy).mono ?_); rintro e w' ⟨rfl, rfl⟩) | (go_at_call 19; go_loud (refine (notNumber_any _).mono ?_); rintro e w' ⟨⟨v, rfl, hv⟩, hq⟩))
      go_ret
      exact ⟨⟨_, _, rfl, by assumption, by assumption⟩, Quiet.trans (by assumption) (by assumption)⟩
  · obtain ⟨a, b, hge, hle, habs, hbd⟩ := big_tests y hf
    have HWh := Lib.hid (fun w => isWhole_any y w (a || b) hy habs)
    cases hab : (a || b)
    · have ha : a = false := by cases a <;> simp_all
      have hb : b = false := by cases b <;> simp_all
      rw [ha] at hge
      rw [hb] at hle
      rw [hab] at HWh
      obtain ⟨n, f0, hn, h0, g0⟩ := part_facts y (hbd ha hb)
      obtain ⟨f1, V, h1, hp, hV⟩ := part_nn f0 (by rw [U_eq]; exact g0)
      obtain ⟨q, G, W, q1, q2, q3, q4, q5, q6⟩ := quarters 4 f1 V hp hV (by
        have : U = 54 + QE := by rw [U_eq, QE_eq]
        rw [this, Nat.pow_add] at hV
        rw [QU_eq, Nat.pow_add]
        have := Nat.two_pow_pos QE
        have h54 : (2 : Nat) ^ 54 = 4 * 2 ^ 52 := by decide
        rw [h54] at hV
        have : (4 + 1) * (2 ^ 52 * 2 ^ QE) = 4 * 2 ^ 52 * 2 ^ QE + 2 ^ 52 * 2 ^ QE := by rw [Nat.add_mul, Nat.one_mul, Nat.mul_assoc]
        rw [this]
        have : 0 < 2 ^ 52 * 2 ^ QE := Nat.mul_pos (by decide) (Nat.two_pow_pos _)
        omega)
      have hQ : Quarters f1 q G := ⟨q1, q2, q3, q4⟩
      have hQU : QU ≤ 2 ^ (U + 1) := by rw [QU_eq]; exact Nat.pow_le_pow_right (by decide) (by rw [QE_eq, U_eq]; omega)
      have bG : Bd (G q) 1075 := (q5.bd (K := U + 1) (Nat.le_trans (Nat.le_of_lt q6) hQU)).mono (by rw [U_eq]; omega)
      have bq : Bd 4598175219545276416 1075 := bd_of_read false (2 ^ 52) (-54) (by decide) (by decide) 53 (by decide) (by decide)
      obtain ⟨d, hd, bd⟩ := bd_sub (K := 1075) bq bG (by omega) (by omega)
      obtain ⟨c, hc, bc⟩ := sin_facts d (bd.mono (by omega))
      obtain ⟨s, hs, bs⟩ := sin_facts (G q) (bG.mono (by omega))
      obtain ⟨re, im, hE, bre, bim⟩ := pend_facts q c s q1 bc bs
      obtain ⟨hR, nR⟩ := narrow_ok bre (by omega) (by omega)
      obtain ⟨hI, nI⟩ := narrow_ok bim (by omega) (by omega)
      obtain ⟨fd, d1, d2⟩ := small_tests d (bd.mono (by omega))
      obtain ⟨fG, G1, G2⟩ := small_tests (G q) (bG.mono (by omega))
      refine ⟨some (narrow re, narrow im), fun r h => (by cases h; exact ⟨nR, nI⟩), fun w => ?_, fun w => ?_⟩
      · exact (l01Phasor_of y f0 f1 q d c s re im _ _ n _ G w hf hge hle hn h0 rfl h1 hQ hd (fun w => l01SineWide_of d c w fd d1 d2 hc) (fun w => l01SineWide_of (G q) s w fG G1 G2 hs) hE
          (fun w => l01Narrow_ok re _ w hR) (fun w => l01Narrow_ok im _ w hI)).mono fun e w' ⟨he, hw⟩ => ⟨⟨_, _, he, rfl, rfl⟩, by subst hw; exact Quiet.refl _⟩
      · have sl : ∀ y r, SinRel y r → ∀ w, Calls Try.prog 22 #[.float .f64 y] w fun e w' => e = .returned (.float .f64 r) ∧ w = w' := by
          intro y r hr w
          obtain ⟨n, f0, f1', f2, f3, z, u, q, P, b1, b2, b3, s1, s2, s3, s4, srest⟩ := hr
          exact sineLong_of y r f1' w (fun w => partOfTurn_of _ f0 f1' n b1 w s1 s2 s3 s4) ⟨f2, f3, z, u, q, P, b2, b3, srest⟩
        exact (phasorOf_of y f1 q d c s re im _ _ G w hy hf HWh (fun w => partOfTurn_of y f0 f1 n _ w hn h0 rfl h1) hQ hd (sl d c hc) (sl (G q) s hs) hE
          (fun w => narrowComplex_ok re im _ _ w hR hI)).mono fun e w' ⟨he, hw⟩ => ⟨⟨_, _, he, rfl, rfl⟩, by subst hw; exact Quiet.refl _⟩
    · rw [hab] at HWh
      refine ⟨some (1065353216, 0), fun r h => (by cases h; exact ⟨by decide, by decide⟩), fun w => ?_, fun w => ?_⟩
      · have ey := fun w => run_float_arith (P := Try.prog) w .sub 22 .f64 y y 0 (by obtain ⟨s, m, e, hx⟩ := fin64_number hf; exact (sub_self_fin _ y s m e hx).trans rfl)
        have ho0 : FloatKind.f64.format.order 0 0 = some .eq := by decide
        clear hf habs hbd HWh
        cases a
        · cases b
          · cases hab
          · clear hab
            go_enter Try.func17, Try.ntmps17
            go_wp2
            go_ret
            exact ⟨⟨_, _, rfl, rfl, rfl⟩, Quiet.refl _⟩
        · clear hab
          go_enter Try.func17, Try.ntmps17
          go_wp2
          go_ret
          exact ⟨⟨_, _, rfl, rfl, rfl⟩, Quiet.refl _⟩
      · clear hge hle habs hbd hab
        go_enter Try.func8, Try.ntmps8
        go_wp2_with (first | (go_at_call 18; go_loud (refine (isFiniteLong_any _ _ hy).mono ?_); rintro e w' ⟨rfl, rfl⟩) | (go_at_call 20; go_loud (refine (HWh.out _).mono ?_); rintro e w' ⟨rfl, rfl⟩))
        go_ret
        exact ⟨⟨_, _, rfl, rfl, rfl⟩, Quiet.refl _⟩

theorem specPhasor_of (y : Nat) (o : Option (Nat × Nat)) (w : World) (h : ∀ w, Calls Try.prog 17 #[.float .f64 y] w fun e w' => (∃ a b, e = .returned (.complex .f32 a b) ∧ RepC a b o) ∧ Quiet w w') :
    Calls Try.prog 7 #[.float .f64 y] w fun e w' => (∃ a b, e = .returned (.complex .f32 a b) ∧ RepC a b o) ∧ Quiet w w' := by
  go_enter Try.func7, Try.ntmps7
  go_wp2_with (go_at_call 17; go_loud (refine (h _).mono ?_); rintro e w' ⟨⟨a, b, rfl, hv⟩, hq⟩)
  go_ret
  exact ⟨⟨_, _, rfl, hv⟩, hq⟩
theorem repc_some {P : Program} {f : FuncId} {args : Array Value} {w : World} {r : Nat × Nat} (h : Calls P f args w fun e w' => (∃ a b, e = .returned (.complex .f32 a b) ∧ RepC a b (some r)) ∧ Quiet w w') :
    Calls P f args w fun e w' => e = .returned (.complex .f32 r.1 r.2) ∧ Quiet w w' :=
  h.mono fun e w' ⟨⟨a, b, he, hv⟩, hq⟩ => by obtain ⟨rfl, rfl⟩ := hv; exact ⟨he, hq⟩
theorem repc_none {P : Program} {f : FuncId} {args : Array Value} {w : World} (h : Calls P f args w fun e w' => (∃ a b, e = .returned (.complex .f32 a b) ∧ RepC a b none) ∧ Quiet w w') :
    Calls P f args w fun e w' => (∃ a b, e = .returned (.complex .f32 a b) ∧ nan32 a = true ∧ nan32 b = true) ∧ Quiet w w' := h
end Go.Proofs.Ytagebhbjpadddab
