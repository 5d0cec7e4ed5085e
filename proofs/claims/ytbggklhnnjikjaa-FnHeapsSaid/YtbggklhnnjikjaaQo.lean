/- QuotientOf and CentreOfHeap on the program's side. -/
import Derived.Test.YtbggklhnnjikjaaMs
namespace Go.Proofs.Ytbggklhnnjikjaa
open Go.RowKit Fl

/-- a quotient of complex numbers, word by word -/
structure QuoW (a b c d R I : Nat) : Prop where
  na : nan32 a = false
  nb : nan32 b = false
  nc : nan32 c = false
  nd : nan32 d = false
  nn : nan32 (Op.negFloat .f32 d) = false
  ex : ∃ ac bd ad bc re im cc dd pw p q, floatBits .mul .f64 (wide a) (wide c) = some ac ∧ floatBits .mul .f64 (wide b) (wide (Op.negFloat .f32 d)) = some bd ∧ floatBits .mul .f64 (wide a) (wide (Op.negFloat .f32 d)) = some ad ∧ floatBits .mul .f64 (wide b) (wide c) = some bc ∧
    floatBits .sub .f64 ac bd = some re ∧ floatBits .add .f64 ad bc = some im ∧ floatBits .mul .f64 (wide c) (wide c) = some cc ∧ floatBits .mul .f64 (wide d) (wide d) = some dd ∧ floatBits .add .f64 cc dd = some pw ∧ floatBits .quo .f64 re pw = some p ∧ floatBits .quo .f64 im pw = some q ∧
    floatToFloatBits .f64 p .f32 = some R ∧ floatToFloatBits .f64 q .f32 = some I
theorem narrowBoth_ok (p q R I : Nat) (w : World) (hR : floatToFloatBits .f64 p .f32 = some R) (hI : floatToFloatBits .f64 q .f32 = some I) :
    Calls Try.prog 102 #[.complex .f64 p q] w fun e w' => e = .returned (.complex .f32 R I) ∧ w = w' := by
  have H1 := Lib.hid fun w => narrowNumber_ok p R w hR
  have H2 := Lib.hid fun w => narrowNumber_ok q I w hI
  clear hR hI
  go_enter Try.func102, Try.ntmps102
  go_wp2_with (first | (go_at_call 105; (with_reducible refine (H1.out _).mono ?_); rintro e w' ⟨rfl, rfl⟩) | (go_at_call 105; (with_reducible refine (H2.out _).mono ?_); rintro e w' ⟨rfl, rfl⟩))
  go_ret
  exact ⟨rfl, rfl⟩
set_option maxHeartbeats 3200000 in
theorem quotient_of (a b c d R I : Nat) (w : World) (h : QuoW a b c d R I) :
    Calls Try.prog 67 #[.complex .f32 a b, .complex .f32 c d] w fun e w' => e = .returned (.complex .f32 R I) ∧ w = w' := by
  obtain ⟨h1, h2, h3, h4, h5, ac, bd, ad, bc, re, im, cc, dd, pw, p, q, m1, m2, m3, m4, m5, m6, m7, m8, m9, m10, m11, m12, m13⟩ := h
  generalize hn : Op.negFloat .f32 d = nd at h5 m2 m3
  have HNd := Lib.hid hn
  have HC : Hid (∀ w, Calls Try.prog 100 #[.complex .f32 c d] w fun e w' => e = .returned (.complex .f32 c nd) ∧ w = w') := by
    intro w
    have hneg : Op.unary .neg (.float .f32 d) = pure (.float .f32 nd) := by rw [← hn]; rfl
    clear m1 m2 m3 m4 m5 m6 m7 m8 m9 m10 m11 m12 m13 h1 h2 h3 h4 h5
    go_enter Try.func100, Try.ntmps100
    go_wp2
    go_ret
    exact ⟨by first | rfl | rw [← hn], rfl⟩
  have HM : Hid (∀ w, Calls Try.prog 99 #[.complex .f32 a b, .complex .f32 c nd] w fun e w' => e = .returned (.complex .f64 re im) ∧ w = w') := by
    intro w
    have c1 := fun w => run_convert_float_float (P := Try.prog) w 35 47 .f32 .f64 a (wide a) (by kernel_rfl) Try.underlying47 (wide_conv a h1)
    have c2 := fun w => run_convert_float_float (P := Try.prog) w 35 47 .f32 .f64 b (wide b) (by kernel_rfl) Try.underlying47 (wide_conv b h2)
    have c3 := fun w => run_convert_float_float (P := Try.prog) w 35 47 .f32 .f64 c (wide c) (by kernel_rfl) Try.underlying47 (wide_conv c h3)
    have c4 := fun w => run_convert_float_float (P := Try.prog) w 35 47 .f32 .f64 nd (wide nd) (by kernel_rfl) Try.underlying47 (wide_conv nd h5)
    have e1 := fun w => run_float_arith (P := Try.prog) w .mul 47 .f64 _ _ _ m1
    have e2 := fun w => run_float_arith (P := Try.prog) w .mul 47 .f64 _ _ _ m2
    have e3 := fun w => run_float_arith (P := Try.prog) w .mul 47 .f64 _ _ _ m3
    have e4 := fun w => run_float_arith (P := Try.prog) w .mul 47 .f64 _ _ _ m4
    have e5 := fun w => run_float_arith (P := Try.prog) w .sub 47 .f64 _ _ _ m5
    have e6 := fun w => run_float_arith (P := Try.prog) w .add 47 .f64 _ _ _ m6
    clear m1 m2 m3 m4 m5 m6 m7 m8 m9 m10 m11 m12 m13 h1 h2 h3 h4 h5 hn HC HNd
    go_enter Try.func99, Try.ntmps99
    go_wp2
    go_ret
    exact ⟨rfl, rfl⟩
  have HP : Hid (∀ w, Calls Try.prog 101 #[.complex .f32 c d] w fun e w' => e = .returned (.float .f64 pw) ∧ w = w') := by
    intro w
    have c1 := fun w => run_convert_float_float (P := Try.prog) w 35 47 .f32 .f64 c (wide c) (by kernel_rfl) Try.underlying47 (wide_conv c h3)
    have c2 := fun w => run_convert_float_float (P := Try.prog) w 35 47 .f32 .f64 d (wide d) (by kernel_rfl) Try.underlying47 (wide_conv d h4)
    have e1 := fun w => run_float_arith (P := Try.prog) w .mul 47 .f64 _ _ _ m7
    have e2 := fun w => run_float_arith (P := Try.prog) w .mul 47 .f64 _ _ _ m8
    have e5 := fun w => run_float_arith (P := Try.prog) w .add 47 .f64 _ _ _ m9
    clear m1 m2 m3 m4 m5 m6 m7 m8 m9 m10 m11 m12 m13 h1 h2 h3 h4 h5 hn HC HM HNd
    go_enter Try.func101, Try.ntmps101
    go_wp2
    go_ret
    exact ⟨rfl, rfl⟩
  have HN := Lib.hid fun w => narrowBoth_ok p q R I w m12 m13
  have q1 := fun w => run_float_arith (P := Try.prog) w .quo 47 .f64 _ _ _ m10
  have q2 := fun w => run_float_arith (P := Try.prog) w .quo 47 .f64 _ _ _ m11
  clear m1 m2 m3 m4 m5 m6 m7 m8 m9 m10 m11 m12 m13 h1 h2 h3 h4 h5 hn HNd
  go_enter Try.func67, Try.ntmps67
  go_wp2_with (first | (go_at_call 100; (with_reducible refine (HC.out _).mono ?_); rintro e w' ⟨rfl, rfl⟩) | (go_at_call 99; (with_reducible refine (HM.out _).mono ?_); rintro e w' ⟨rfl, rfl⟩) | (go_at_call 101; (with_reducible refine (HP.out _).mono ?_); rintro e w' ⟨rfl, rfl⟩) | (go_at_call 102; (with_reducible refine (HN.out _).mono ?_); rintro e w' ⟨rfl, rfl⟩))
  go_ret
  exact ⟨rfl, rfl⟩
end Go.Proofs.Ytbggklhnnjikjaa
