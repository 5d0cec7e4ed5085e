/- The law FnProducts: what its first part asks of two small complex numbers. -/
import Derived.Test.YtjcjijfemedojaaGreatDoorExa
import Derived.Test.YtjcjijfemedojaaGreatDoorJa
import Derived.Test.YtjcjijfemedojaaGreatDoorJb
import Derived.Test.YtjcjijfemedojaaGreatDoorNw
namespace Go.Proofs.YtjcjijfemedojaaGreatDoor
open Go.RowKit Fl

/-- a quotient of complex numbers, word by word -/
structure QuoW (a b c d R I : Nat) : Prop where
  na : nan32 a = false
  nb : nan32 b = false
  nc : nan32 c = false
  nd : nan32 d = false
  nn : nan32 (Op.negFloat .f32 d) = false
  ex : ∃ ac bd ad bc re im cc dd pw p q, floatBits .mul .f64 (wide a) (wide c) = some ac ∧ floatBits .mul .f64 (wide b) (wide (Op.negFloat .f32 d)) = some bd ∧ floatBits .mul .f64 (wide a) (wide (Op.negFloat .f32 d)) = some ad ∧ floatBits .mul .f64 (wide b) (wide c) = some bc ∧
    floatBits .sub .f64 ac bd = some re ∧ floatBits .add .f64 ad bc = some im ∧ floatBits .mul .f64 (wide c) (wide c) = some cc ∧ floatBits .mul .f64 (wide d) (wide d) = some dd ∧ floatBits .add .f64 cc dd = some pw ∧ floatBits .quo .f64 re pw = some p ∧ floatBits .quo .f64 im pw = some q ∧
    floatToFloatBits .f64 p .f32 = some R ∧ floatToFloatBits .f64 q .f32 = some I
theorem narrowBoth_ok (p q R I : Nat) (w : World) (hR : floatToFloatBits .f64 p .f32 = some R) (hI : floatToFloatBits .f64 q .f32 = some I) :
    Calls Tryz.prog 24 #[.complex .f64 p q] w fun e w' => e = .returned (.complex .f32 R I) ∧ w = w' := by
  have H1 := Lib.hid fun w => narrowNumber_ok p R w hR
  have H2 := Lib.hid fun w => narrowNumber_ok q I w hI
  clear hR hI
  go_enter Tryz.func24, Tryz.ntmps24
  go_wp2_with (first | (go_at_call 30; (with_reducible refine (H1.out _).mono ?_); rintro e w' ⟨rfl, rfl⟩) | (go_at_call 30; (with_reducible refine (H2.out _).mono ?_); rintro e w' ⟨rfl, rfl⟩))
  go_ret
  exact ⟨rfl, rfl⟩
set_option maxHeartbeats 3200000 in
theorem quotient_of (a b c d R I : Nat) (w : World) (h : QuoW a b c d R I) :
    Calls Tryz.prog 12 #[.complex .f32 a b, .complex .f32 c d] w fun e w' => e = .returned (.complex .f32 R I) ∧ w = w' := by
  obtain ⟨h1, h2, h3, h4, h5, ac, bd, ad, bc, re, im, cc, dd, pw, p, q, m1, m2, m3, m4, m5, m6, m7, m8, m9, m10, m11, m12, m13⟩ := h
  generalize hn : Op.negFloat .f32 d = nd at h5 m2 m3
  have HNd := Lib.hid hn
  have HC : Hid (∀ w, Calls Tryz.prog 8 #[.complex .f32 c d] w fun e w' => e = .returned (.complex .f32 c nd) ∧ w = w') := by
    intro w
    have hneg : Op.unary .neg (.float .f32 d) = pure (.float .f32 nd) := by rw [← hn]; rfl
    clear m1 m2 m3 m4 m5 m6 m7 m8 m9 m10 m11 m12 m13 h1 h2 h3 h4 h5
    go_enter Tryz.func8, Tryz.ntmps8
    go_wp2
    go_ret
    exact ⟨by first | rfl | rw [← hn], rfl⟩
  have HM : Hid (∀ w, Calls Tryz.prog 29 #[.complex .f32 a b, .complex .f32 c nd] w fun e w' => e = .returned (.complex .f64 re im) ∧ w = w') := by
    intro w
    have c1 := fun w => run_convert_float_float (P := Tryz.prog) w 28 46 .f32 .f64 a (wide a) (by kernel_rfl) Tryz.underlying46 (wide_conv a h1)
    have c2 := fun w => run_convert_float_float (P := Tryz.prog) w 28 46 .f32 .f64 b (wide b) (by kernel_rfl) Tryz.underlying46 (wide_conv b h2)
    have c3 := fun w => run_convert_float_float (P := Tryz.prog) w 28 46 .f32 .f64 c (wide c) (by kernel_rfl) Tryz.underlying46 (wide_conv c h3)
    have c4 := fun w => run_convert_float_float (P := Tryz.prog) w 28 46 .f32 .f64 nd (wide nd) (by kernel_rfl) Tryz.underlying46 (wide_conv nd h5)
    have e1 := fun w => run_float_arith (P := Tryz.prog) w .mul 46 .f64 _ _ _ m1
    have e2 := fun w => run_float_arith (P := Tryz.prog) w .mul 46 .f64 _ _ _ m2
    have e3 := fun w => run_float_arith (P := Tryz.prog) w .mul 46 .f64 _ _ _ m3
    have e4 := fun w => run_float_arith (P := Tryz.prog) w .mul 46 .f64 _ _ _ m4
    have e5 := fun w => run_float_arith (P := Tryz.prog) w .sub 46 .f64 _ _ _ m5
    have e6 := fun w => run_float_arith (P := Tryz.prog) w .add 46 .f64 _ _ _ m6
    clear m1 m2 m3 m4 m5 m6 m7 m8 m9 m10 m11 m12 m13 h1 h2 h3 h4 h5 hn HC HNd
    go_enter Tryz.func29, Tryz.ntmps29
    go_wp2
    go_ret
    exact ⟨rfl, rfl⟩
  have HP : Hid (∀ w, Calls Tryz.prog 31 #[.complex .f32 c d] w fun e w' => e = .returned (.float .f64 pw) ∧ w = w') := by
    intro w
    have c1 := fun w => run_convert_float_float (P := Tryz.prog) w 28 46 .f32 .f64 c (wide c) (by kernel_rfl) Tryz.underlying46 (wide_conv c h3)
    have c2 := fun w => run_convert_float_float (P := Tryz.prog) w 28 46 .f32 .f64 d (wide d) (by kernel_rfl) Tryz.underlying46 (wide_conv d h4)
    have e1 := fun w => run_float_arith (P := Tryz.prog) w .mul 46 .f64 _ _ _ m7
    have e2 := fun w => run_float_arith (P := Tryz.prog) w .mul 46 .f64 _ _ _ m8
    have e5 := fun w => run_float_arith (P := Tryz.prog) w .add 46 .f64 _ _ _ m9
    clear m1 m2 m3 m4 m5 m6 m7 m8 m9 m10 m11 m12 m13 h1 h2 h3 h4 h5 hn HC HM HNd
    go_enter Tryz.func31, Tryz.ntmps31
    go_wp2
    go_ret
    exact ⟨rfl, rfl⟩
  have HN := Lib.hid fun w => narrowBoth_ok p q R I w m12 m13
  have q1 := fun w => run_float_arith (P := Tryz.prog) w .quo 46 .f64 _ _ _ m10
  have q2 := fun w => run_float_arith (P := Tryz.prog) w .quo 46 .f64 _ _ _ m11
  clear m1 m2 m3 m4 m5 m6 m7 m8 m9 m10 m11 m12 m13 h1 h2 h3 h4 h5 hn HNd
  go_enter Tryz.func12, Tryz.ntmps12
  go_wp2_with (first | (go_at_call 8; (with_reducible refine (HC.out _).mono ?_); rintro e w' ⟨rfl, rfl⟩) | (go_at_call 29; (with_reducible refine (HM.out _).mono ?_); rintro e w' ⟨rfl, rfl⟩) | (go_at_call 31; (with_reducible refine (HP.out _).mono ?_); rintro e w' ⟨rfl, rfl⟩) | (go_at_call 24; (with_reducible refine (HN.out _).mono ?_); rintro e w' ⟨rfl, rfl⟩))
  go_ret
  exact ⟨rfl, rfl⟩
def mulF (p q : Nat × Nat) : Option (Nat × Nat) :=
  (floatBits .mul .f64 (wide p.1) (wide q.1)).bind fun ac => (floatBits .mul .f64 (wide p.2) (wide q.2)).bind fun bd => (floatBits .mul .f64 (wide p.1) (wide q.2)).bind fun ad => (floatBits .mul .f64 (wide p.2) (wide q.1)).bind fun bc =>
    (floatBits .sub .f64 ac bd).bind fun re => (floatBits .add .f64 ad bc).bind fun im => (floatToFloatBits .f64 re .f32).bind fun R => (floatToFloatBits .f64 im .f32).bind fun I => some (R, I)
theorem mulF_of (p q r : Nat × Nat) (h1 : nan32 p.1 = false) (h2 : nan32 p.2 = false) (h3 : nan32 q.1 = false) (h4 : nan32 q.2 = false) (h : mulF p q = some r) (w : World) :
    Calls Tryz.prog 6 #[.complex .f32 p.1 p.2, .complex .f32 q.1 q.2] w fun e w' => e = .returned (.complex .f32 r.1 r.2) ∧ w = w' := by
  obtain ⟨a, b⟩ := p
  obtain ⟨c, d⟩ := q
  dsimp only at h1 h2 h3 h4 ⊢
  obtain ⟨ac, ha, h⟩ := Option.bind_eq_some_iff.1 h
  obtain ⟨bd, hb, h⟩ := Option.bind_eq_some_iff.1 h
  obtain ⟨ad, hc, h⟩ := Option.bind_eq_some_iff.1 h
  obtain ⟨bc, hd, h⟩ := Option.bind_eq_some_iff.1 h
  obtain ⟨re, he, h⟩ := Option.bind_eq_some_iff.1 h
  obtain ⟨im, hi, h⟩ := Option.bind_eq_some_iff.1 h
  obtain ⟨R, hR, h⟩ := Option.bind_eq_some_iff.1 h
  obtain ⟨I, hI, h⟩ := Option.bind_eq_some_iff.1 h
  obtain rfl := Option.some.inj h
  dsimp only at ha hb hc hd ⊢
  have HN := Lib.hid fun w => narrowBoth_ok re im R I w hR hI
  have HL : Hid (∀ w, Calls Tryz.prog 29 #[.complex .f32 a b, .complex .f32 c d] w fun e w' => e = .returned (.complex .f64 re im) ∧ w = w') := by
    intro w
    have c1 := fun w => run_convert_float_float (P := Tryz.prog) w 28 46 .f32 .f64 a (wide a) (by kernel_rfl) Tryz.underlying46 (wide_conv a h1)
    have c2 := fun w => run_convert_float_float (P := Tryz.prog) w 28 46 .f32 .f64 b (wide b) (by kernel_rfl) Tryz.underlying46 (wide_conv b h2)
    have c3 := fun w => run_convert_float_float (P := Tryz.prog) w 28 46 .f32 .f64 c (wide c) (by kernel_rfl) Tryz.underlying46 (wide_conv c h3)
    have c4 := fun w => run_convert_float_float (P := Tryz.prog) w 28 46 .f32 .f64 d (wide d) (by kernel_rfl) Tryz.underlying46 (wide_conv d h4)
    have e1 := fun w => run_float_arith (P := Tryz.prog) w .mul 46 .f64 _ _ _ ha
    have e2 := fun w => run_float_arith (P := Tryz.prog) w .mul 46 .f64 _ _ _ hb
    have e3 := fun w => run_float_arith (P := Tryz.prog) w .mul 46 .f64 _ _ _ hc
    have e4 := fun w => run_float_arith (P := Tryz.prog) w .mul 46 .f64 _ _ _ hd
    have e5 := fun w => run_float_arith (P := Tryz.prog) w .sub 46 .f64 _ _ _ he
    have e6 := fun w => run_float_arith (P := Tryz.prog) w .add 46 .f64 _ _ _ hi
    clear HN hR hI ha hb hc hd he hi h1 h2 h3 h4
    go_enter Tryz.func29, Tryz.ntmps29
    go_wp2
    go_ret
    exact ⟨rfl, rfl⟩
  clear hR hI ha hb hc hd he hi h1 h2 h3 h4
  go_enter Tryz.func6, Tryz.ntmps6
  go_wp2_with (first | (go_at_call 29; (with_reducible refine (HL.out _).mono ?_); rintro e w' ⟨rfl, rfl⟩) | (go_at_call 24; (with_reducible refine (HN.out _).mono ?_); rintro e w' ⟨rfl, rfl⟩))
  go_ret
  exact ⟨rfl, rfl⟩

theorem abs_mul_le {a b : Int} {A B : Nat} (ha : a.natAbs ≤ A) (hb : b.natAbs ≤ B) : (a * b).natAbs ≤ A * B := by
  rw [Int.natAbs_mul]; exact Nat.mul_le_mul ha hb
theorem f32z {n : Int} (h : n.natAbs ≤ 16000000) : Fits Ieee.single 0 n := fits32 (by omega) (by omega) (by omega)
theorem f64z {n : Int} (h : n.natAbs ≤ 1000000000000) : Fits Ieee.double 0 n := fits64 (by omega) (by omega) (by omega)
/-- a product of 64-bit words of integers -/
theorem dmul {x y : Nat} {a b : Int} (hx : Exa Ieee.double 0 x a) (hy : Exa Ieee.double 0 y b) (ha : a.natAbs ≤ 1000000) (hb : b.natAbs ≤ 1000000) : ∃ r, floatBits .mul .f64 x y = some r ∧ Exa Ieee.double 0 r (a * b) := by
  have h := abs_mul_le ha hb
  have e0 : (0 : Int) + 0 = 0 := rfl
  obtain ⟨r, hr, h2⟩ := exa_mul he64 hx hy (f64z (by omega)) (f64z (by omega)) (by rw [e0]; exact f64z (by omega))
  rw [e0] at h2
  exact ⟨r, hr, h2⟩
theorem dadd {x y : Nat} {a b : Int} (hx : Exa Ieee.double 0 x a) (hy : Exa Ieee.double 0 y b) (ha : a.natAbs ≤ 400000000000) (hb : b.natAbs ≤ 400000000000) : ∃ r, floatBits .add .f64 x y = some r ∧ Exa Ieee.double 0 r (a + b) := by
  obtain ⟨r, hr, h2⟩ := exa_add he64 hx hy (f64z (by omega)) (f64z (by omega)) (f64z (by omega))
  exact ⟨r, hr, h2⟩
theorem dsub {x y : Nat} {a b : Int} (hx : Exa Ieee.double 0 x a) (hy : Exa Ieee.double 0 y b) (ha : a.natAbs ≤ 400000000000) (hb : b.natAbs ≤ 400000000000) : ∃ r, floatBits .sub .f64 x y = some r ∧ Exa Ieee.double 0 r (a - b) := by
  obtain ⟨r, hr, h2⟩ := exa_sub he64 hx hy (f64z (by omega)) (f64z (by omega)) (f64z (by omega))
  exact ⟨r, hr, h2⟩
theorem dwide {x : Nat} {a : Int} (hx : Exa Ieee.single 0 x a) (ha : a.natAbs ≤ 16000000) : Exa Ieee.double 0 (wide x) a := hx.wide (f32z ha) (f64z (by omega))
theorem dnar {x : Nat} {a : Int} (hx : Exa Ieee.double 0 x a) (ha : a.natAbs ≤ 16000000) : ∃ r, floatToFloatBits .f64 x .f32 = some r ∧ Exa Ieee.single 0 r a := hx.narrow (f64z (by omega)) (f32z ha)

set_option maxHeartbeats 1600000 in
theorem mulF_exa {x y u v : Nat} {a b c d : Int} (hx : Exa Ieee.single 0 x a) (hy : Exa Ieee.single 0 y b) (hu : Exa Ieee.single 0 u c) (hv : Exa Ieee.single 0 v d) (ha : a.natAbs ≤ 1000) (hb : b.natAbs ≤ 1000) (hc : c.natAbs ≤ 1000) (hd : d.natAbs ≤ 1000) :
    ∃ R I, mulF (x, y) (u, v) = some (R, I) ∧ Exa Ieee.single 0 R (a * c - b * d) ∧ Exa Ieee.single 0 I (a * d + b * c) := by
  have wx := dwide hx (by omega)
  have wy := dwide hy (by omega)
  have wu := dwide hu (by omega)
  have wv := dwide hv (by omega)
  obtain ⟨ac, e1, x1⟩ := dmul wx wu (by omega) (by omega)
  obtain ⟨bd, e2, x2⟩ := dmul wy wv (by omega) (by omega)
  obtain ⟨ad, e3, x3⟩ := dmul wx wv (by omega) (by omega)
  obtain ⟨bc, e4, x4⟩ := dmul wy wu (by omega) (by omega)
  have n1 := abs_mul_le ha hc
  have n2 := abs_mul_le hb hd
  have n3 := abs_mul_le ha hd
  have n4 := abs_mul_le hb hc
  obtain ⟨re, e5, x5⟩ := dsub x1 x2 (by omega) (by omega)
  obtain ⟨im, e6, x6⟩ := dadd x3 x4 (by omega) (by omega)
  obtain ⟨R, e7, x7⟩ := dnar x5 (by omega)
  obtain ⟨I, e8, x8⟩ := dnar x6 (by omega)
  refine ⟨R, I, ?_, x7, x8⟩
  unfold mulF
  dsimp only
  rw [e1, e2, e3, e4]
  dsimp only [Option.bind_some]
  rw [e5, e6]
  dsimp only [Option.bind_some]
  rw [e7, e8]
  rfl
theorem powF_exa {x y : Nat} {a b : Int} (hx : Exa Ieee.single 0 x a) (hy : Exa Ieee.single 0 y b) (ha : a.natAbs ≤ 1000) (hb : b.natAbs ≤ 1000) :
    ∃ r, powF (x, y) = some r ∧ Exa Ieee.single 0 r (a * a + b * b) := by
  have wx := dwide hx (by omega)
  have wy := dwide hy (by omega)
  obtain ⟨aa, e1, x1⟩ := dmul wx wx (by omega) (by omega)
  obtain ⟨bb, e2, x2⟩ := dmul wy wy (by omega) (by omega)
  have n1 := abs_mul_le ha ha
  have n2 := abs_mul_le hb hb
  obtain ⟨s, e3, x3⟩ := dadd x1 x2 (by omega) (by omega)
  obtain ⟨r, e4, x4⟩ := dnar x3 (by omega)
  refine ⟨r, ?_, x4⟩
  unfold powF
  dsimp only
  rw [e1, e2]
  dsimp only [Option.bind_some]
  rw [e3]
  dsimp only [Option.bind_some]
  exact e4
theorem fits_sub0 {c : Int} (h : Fits Ieee.double 0 c) : Fits Ieee.double (0 - 0) c := h
theorem dquo {x y : Nat} {k c b : Int} (hx : Exa Ieee.double 0 x k) (hy : Exa Ieee.double 0 y b) (hk : k = c * b) (hb0 : b ≠ 0) (hc : c.natAbs ≤ 1000000) (hb : b.natAbs ≤ 1000000) : ∃ r, floatBits .quo .f64 x y = some r ∧ Exa Ieee.double 0 r c := by
  have fa : Fits Ieee.double 0 k := by
    have h := abs_mul_le hc hb
    rw [← hk] at h
    exact f64z (Nat.le_trans h (by decide))
  have fb : Fits Ieee.double 0 b := f64z (Nat.le_trans hb (by decide))
  have fc : Fits Ieee.double 0 c := f64z (Nat.le_trans hc (by decide))
  obtain ⟨r, hr, h2⟩ := exa_quo he64 hx hy fa fb hb0 hk (fits_sub0 fc)
  exact ⟨r, hr, h2⟩
set_option maxHeartbeats 6400000 in
theorem quoW_exa {p q u v : Nat} {a b c d : Int} (hp : Exa Ieee.single 0 p (a * c - b * d)) (hq : Exa Ieee.single 0 q (a * d + b * c)) (hu : Exa Ieee.single 0 u c) (hv : Exa Ieee.single 0 v d) (ha : a.natAbs ≤ 200) (hb : b.natAbs ≤ 200) (hc : c.natAbs ≤ 200) (hd : d.natAbs ≤ 200) (h0 : c * c + d * d ≠ 0) :
    ∃ R I, QuoW p q u v R I ∧ Exa Ieee.single 0 R a ∧ Exa Ieee.single 0 I b := by
  have hn := exa_neg32 hv
  have n1 := abs_mul_le ha hc
  have n2 := abs_mul_le hb hd
  have n3 := abs_mul_le ha hd
  have n4 := abs_mul_le hb hc
  have n5 := abs_mul_le hc hc
  have n6 := abs_mul_le hd hd
  have hP : (a * c - b * d).natAbs ≤ 80000 := by omega
  have hQ : (a * d + b * c).natAbs ≤ 80000 := by omega
  have wp := dwide hp (by omega)
  have wq := dwide hq (by omega)
  have wu := dwide hu (by omega)
  have wv := dwide hv (by omega)
  have wn := dwide hn (by omega)
  obtain ⟨ac, e1, x1⟩ := dmul wp wu (by omega) (by omega)
  obtain ⟨bd, e2, x2⟩ := dmul wq wn (by omega) (by omega)
  obtain ⟨ad, e3, x3⟩ := dmul wp wn (by omega) (by omega)
  obtain ⟨bc, e4, x4⟩ := dmul wq wu (by omega) (by omega)
  have hd' : (-d).natAbs ≤ 200 := by omega
  have m1 := abs_mul_le hP hc
  have m2 := abs_mul_le hQ hd'
  have m3 := abs_mul_le hP hd'
  have m4 := abs_mul_le hQ hc
  obtain ⟨re, e5, x5⟩ := dsub x1 x2 (by omega) (by omega)
  obtain ⟨im, e6, x6⟩ := dadd x3 x4 (by omega) (by omega)
  obtain ⟨cc, e7, x7⟩ := dmul wu wu (by omega) (by omega)
  obtain ⟨dd, e8, x8⟩ := dmul wv wv (by omega) (by omega)
  obtain ⟨pw, e9, x9⟩ := dadd x7 x8 (by omega) (by omega)
  have t1 : (a * c - b * d) * c - (a * d + b * c) * -d = a * (c * c + d * d) := by
    simp only [Int.sub_mul, Int.add_mul, Int.mul_add, Int.mul_neg, Int.mul_assoc]
    rw [Int.mul_comm d c]
    omega
  have t2 : (a * c - b * d) * -d + (a * d + b * c) * c = b * (c * c + d * d) := by
    simp only [Int.sub_mul, Int.add_mul, Int.mul_add, Int.mul_neg, Int.mul_assoc]
    rw [Int.mul_comm d c]
    omega
  rw [t1] at x5
  rw [t2] at x6
  obtain ⟨P, e10, x10⟩ := dquo x5 x9 rfl h0 (by omega) (by omega)
  obtain ⟨Q, e11, x11⟩ := dquo x6 x9 rfl h0 (by omega) (by omega)
  obtain ⟨R, e12, x12⟩ := dnar x10 (by omega)
  obtain ⟨I, e13, x13⟩ := dnar x11 (by omega)
  exact ⟨R, I, ⟨hp.num (f32z (by omega)), hq.num (f32z (by omega)), hu.num (f32z (by omega)), hv.num (f32z (by omega)), hn.num (f32z (by omega)), ac, bd, ad, bc, re, im, cc, dd, pw, P, Q, e1, e2, e3, e4, e5, e6, e7, e8, e9, e10, e11, e12, e13⟩, x12, x13⟩
theorem bd_int {x : Nat} {n : Int} (h : Exa Ieee.single 0 x n) (hn : n.natAbs ≤ 256) : Bd (wide x) 1082 := by
  have hw := dwide h (by omega)
  obtain ⟨s, m, k, hr, _, _, hm, _⟩ := hw.read he64 (f64z (by omega))
  have hp := (read_number _ he64 _ _ _ _ hr).2.1
  have hlp : Ieee.double.leastPlace = -1074 := by decide
  rw [hlp] at hp
  refine ⟨s, m, _, hr, hp, ?_⟩
  obtain ⟨Z, hZ⟩ : ∃ Z : Nat, Z = 1074 := ⟨_, rfl⟩
  have e1 : (0 - (k : Int) + 1074).toNat + k = Z := by omega
  generalize (0 - (k : Int) + 1074).toNat = j at e1
  rw [hm, Nat.mul_assoc, Nat.mul_comm (2 ^ k), ← Nat.pow_add, e1]
  have e2 : (1082 : Nat) = 8 + Z := by omega
  rw [e2, Nat.pow_add]
  exact Nat.mul_le_mul_right _ hn
theorem bd_up {x K L : Nat} (h : Bd x K) (hK : K ≤ L) : Bd x L := by
  obtain ⟨s, m, e, h1, h2, h3⟩ := h
  exact ⟨s, m, e, h1, h2, Nat.le_trans h3 (Nat.pow_le_pow_right (by decide) hK)⟩
theorem sq_zero {a b : Int} (h : a * a + b * b = 0) : a = 0 ∧ b = 0 := by
  have h1 : a * a = ((a.natAbs * a.natAbs : Nat) : Int) := by rw [Int.natAbs_mul_self]
  have h2 : b * b = ((b.natAbs * b.natAbs : Nat) : Int) := by rw [Int.natAbs_mul_self]
  rw [h1, h2] at h
  have h3 : a.natAbs * a.natAbs = 0 := by omega
  have h4 : b.natAbs * b.natAbs = 0 := by omega
  have h5 := Nat.mul_eq_zero.1 h3
  have h6 := Nat.mul_eq_zero.1 h4
  omega
/-- the length of a is the root of its power -/
theorem long_root {a b : Int} (ha : a.natAbs ≤ 200) (hb : b.natAbs ≤ 200) :
    ∃ p q s o, LongW (floatOfInt .f32 a) (floatOfInt .f32 b) p q s o ∧ o = rootO (floatOfInt .f32 (a * a + b * b)) := by
  have hx : Exa Ieee.single 0 (floatOfInt .f32 a) a := exa_ofInt .f32 a
  have hy : Exa Ieee.single 0 (floatOfInt .f32 b) b := exa_ofInt .f32 b
  by_cases h0 : a * a + b * b = 0
  · have ha0 : a = 0 := by
      exact (sq_zero h0).1
    have hb0 : b = 0 := by
      exact (sq_zero h0).2
    subst ha0 hb0
    exact ⟨0, 0, 0, some 0, ⟨by decide +kernel, by decide +kernel, by decide +kernel, .inr ⟨0, 0, by decide +kernel, by decide +kernel, rfl, by decide⟩⟩, by decide +kernel⟩
  · obtain ⟨p, q, s, o, h⟩ := long_words (x := floatOfInt .f32 a) (y := floatOfInt .f32 b) ⟨hx.num (f32z (by omega)), .inl (bd_up (bd_int hx (by omega)) (by omega))⟩ ⟨hy.num (f32z (by omega)), .inl (bd_up (bd_int hy (by omega)) (by omega))⟩
    refine ⟨p, q, s, o, h, ?_⟩
    have wx := dwide hx (by omega)
    have wy := dwide hy (by omega)
    obtain ⟨p', e1, x1⟩ := dmul wx wx (by omega) (by omega)
    obtain ⟨q', e2, x2⟩ := dmul wy wy (by omega) (by omega)
    have n1 := abs_mul_le ha ha
    have n2 := abs_mul_le hb hb
    obtain ⟨s', e3, x3⟩ := dadd x1 x2 (by omega) (by omega)
    have hp := h.hp
    have hq := h.hq
    have hs := h.hs
    rw [e1] at hp
    rw [e2] at hq
    obtain rfl := Option.some.inj hp
    obtain rfl := Option.some.inj hq
    rw [e3] at hs
    obtain rfl := Option.some.inj hs
    have hz : Exa Ieee.single 0 (floatOfInt .f32 (a * a + b * b)) (a * a + b * b) := exa_ofInt .f32 _
    have wz := dwide hz (by omega)
    have hw : s' = wide (floatOfInt .f32 (a * a + b * b)) := by rw [x3.word h0, wz.word h0]
    have hn := hz.num (f32z (by omega))
    unfold rootO
    rw [hn, ← hw]
    simp only [Bool.false_eq_true, if_false]
    rcases h.ho with ⟨h1, h2⟩ | ⟨r, v, h1, h2, h3, _⟩
    · rw [h1, h2]; rfl
    · rw [h1, h3]; exact h2.symm
theorem same_order {x y : Nat} {n : Int} (hx : Exa Ieee.single 0 x n) (hy : Exa Ieee.single 0 y n) (hn : n.natAbs ≤ 16000000) : FloatKind.f32.format.order x y = some .eq := by
  have := exa_order he32 hx hy (f32z hn) (f32z hn)
  rw [show compare n n = .eq from by simp] at this
  exact this
end Go.Proofs.YtjcjijfemedojaaGreatDoor

namespace Go.Proofs.YtjcjijfemedojaaGreatDoor
open Go.RowKit Fl

/-- fits in 32 bits, or is a not-a-number -/
def Fit (a : Nat) : Prop := nan32 a = true ∨ a < 4294967296
theorem l01Bits_ok (a : Nat) (w : World) (h : Fit a) : Calls Tryz.prog 54 #[.float .f32 a] w fun e w' => e = .returned (.int .i64 (bitsOf a)) ∧ w = w' := by
  rcases h with h | h
  · have ho := ord32 a
    rw [h, if_pos rfl] at ho
    have hb : Hid (bitsOf a = 2143289344) := by show bitsOf a = _; simp [bitsOf, h]
    clear h
    go_enter Tryz.func54, Tryz.ntmps54
    go_wp2
    go_ret
    exact ⟨by rw [hb.out]; rfl, rfl⟩
  · exact l01Bits_any a w h
theorem l01Same_ok (a b : Nat) (w : World) (ha : Fit a) (hb : Fit b) : Calls Tryz.prog 32 #[.float .f32 a, .float .f32 b] w fun e w' => e = .returned (.bool (bitsOf a == bitsOf b)) ∧ w = w' := by
  have HA := Lib.hid fun w => l01Bits_ok a w ha
  have HB := Lib.hid fun w => l01Bits_ok b w hb
  clear ha hb
  go_enter Tryz.func32, Tryz.ntmps32
  go_wp2_with (first | (go_at_call 54; (with_reducible refine (HA.out _).mono ?_); rintro e w' ⟨rfl, rfl⟩) | (go_at_call 54; (with_reducible refine (HB.out _).mono ?_); rintro e w' ⟨rfl, rfl⟩))
  go_ret
  exact ⟨rfl, rfl⟩
theorem same_ok (a b : Nat) (w : World) (ha : Fit a) (hb : Fit b) : Calls Tryz.prog 9 #[.float .f32 a, .float .f32 b] w fun e w' => e = .returned (.bool (bitsOf a == bitsOf b)) ∧ w = w' := by
  have H := Lib.hid fun w => l01Same_ok a b w ha hb
  clear ha hb
  go_enter Tryz.func9, Tryz.ntmps9
  go_wp2_with (go_at_call 32; (with_reducible refine (H.out _).mono ?_); rintro e w' ⟨rfl, rfl⟩)
  go_ret
  exact ⟨rfl, rfl⟩
theorem repR_same {a b : Nat} {o : Option Nat} (ha : RepR a o) (hb : RepR b o) : bitsOf a = bitsOf b := by
  cases o with
  | none => simp only [RepR] at ha hb; simp [bitsOf, ha, hb]
  | some r => obtain ⟨rfl, _⟩ := ha; obtain ⟨rfl, _⟩ := hb; rfl

theorem rep_repR {a : Nat} {o : Option Nat} (h : Rep a o) : RepR a o := by
  cases o with
  | none => exact h
  | some r => exact h
theorem bits_fit (a : Nat) (w : World) (h : Fit a) : Calls Tryz.prog 20 #[.float .f32 a] w fun e w' => e = .returned (.int .i64 (bitsOf a)) ∧ Quiet w w' := by
  rcases h with hn | h
  · have hc := fun w => run_widen_nan (P := Tryz.prog) 28 46 a w (by kernel_rfl) Tryz.underlying46 hn
    have hw := nanc64_nan a
    have hb : Hid (bitsOf a = 2143289344) := by show bitsOf a = _; simp [bitsOf, hn]
    clear hn
    go_enter Tryz.func20, Tryz.ntmps20
    go_wp2_with (go_at_call 45; go_loud (refine (isNaN_any _ _).mono ?_); rintro e w' ⟨rfl, rfl⟩)
    go_ret
    exact ⟨by rw [hb.out]; rfl, Quiet.one _⟩
  · exact bitsOf_any a w h
theorem isame_fit (a b : Nat) (w : World) (ha : Fit a) (hb : Fit b) : Calls Tryz.prog 50 #[.float .f32 a, .float .f32 b] w fun e w' => e = .returned (.bool (bitsOf a == bitsOf b)) ∧ Quiet w w' := by
  have HA := Lib.hid fun w => bits_fit a w ha
  have HB := Lib.hid fun w => bits_fit b w hb
  clear ha hb
  go_enter Tryz.func50, Tryz.ntmps50
  go_wp2_with (first | (go_at_call 20; (with_reducible refine (HA.out _).mono ?_); rintro e w1 ⟨rfl, m1, rfl⟩) | (go_at_call 20; (with_reducible refine (HB.out _).mono ?_); rintro e w2 ⟨rfl, m2, rfl⟩))
  go_ret
  exact ⟨rfl, ⟨_, rfl⟩⟩
theorem isameC_yes (x y u v : Nat) (w : World) (hx : Fit x) (hy : Fit y) (hu : Fit u) (hv : Fit v) (h1 : bitsOf x = bitsOf u) (h2 : bitsOf y = bitsOf v) : Calls Tryz.prog 23 #[.complex .f32 x y, .complex .f32 u v] w fun e w' => e = .returned (.bool true) ∧ Quiet w w' := by
  have H1 := Lib.hid fun w => (show Calls Tryz.prog 50 #[.float .f32 x, .float .f32 u] w fun e w' => e = .returned (.bool true) ∧ Quiet w w' by have := isame_fit x u w hx hu; rwa [show (bitsOf x == bitsOf u) = true by rw [h1]; simp] at this)
  have H2 := Lib.hid fun w => (show Calls Tryz.prog 50 #[.float .f32 y, .float .f32 v] w fun e w' => e = .returned (.bool true) ∧ Quiet w w' by have := isame_fit y v w hy hv; rwa [show (bitsOf y == bitsOf v) = true by rw [h2]; simp] at this)
  clear hx hy hu hv h1 h2
  go_enter Tryz.func23, Tryz.ntmps23
  go_wp2_with (first | (go_at_call 50; (with_reducible refine (H1.out _).mono ?_); rintro e w1 ⟨rfl, m1, rfl⟩) | (go_at_call 50; (with_reducible refine (H2.out _).mono ?_); rintro e w2 ⟨rfl, m2, rfl⟩))
  go_ret
  exact ⟨rfl, ⟨_, rfl⟩⟩
theorem ssameC_yes (x y u v : Nat) (w : World) (hx : Fit x) (hy : Fit y) (hu : Fit u) (hv : Fit v) (h1 : bitsOf x = bitsOf u) (h2 : bitsOf y = bitsOf v) : Calls Tryz.prog 49 #[.complex .f32 x y, .complex .f32 u v] w fun e w' => e = .returned (.bool true) ∧ w = w' := by
  have H1 := Lib.hid fun w => (show Calls Tryz.prog 32 #[.float .f32 x, .float .f32 u] w fun e w' => e = .returned (.bool true) ∧ w = w' by have := l01Same_ok x u w hx hu; rwa [show (bitsOf x == bitsOf u) = true by rw [h1]; simp] at this)
  have H2 := Lib.hid fun w => (show Calls Tryz.prog 32 #[.float .f32 y, .float .f32 v] w fun e w' => e = .returned (.bool true) ∧ w = w' by have := l01Same_ok y v w hy hv; rwa [show (bitsOf y == bitsOf v) = true by rw [h2]; simp] at this)
  clear hx hy hu hv h1 h2
  have HC : Hid (∀ w, Calls Tryz.prog 64 #[.complex .f32 x y, .complex .f32 u v] w fun e w' => e = .returned (.bool true) ∧ w = w') := by
    intro w
    go_enter Tryz.func64, Tryz.ntmps64
    go_wp2_with (first | (go_at_call 32; (with_reducible refine (H1.out _).mono ?_); rintro e w1 ⟨rfl, rfl⟩) | (go_at_call 32; (with_reducible refine (H2.out _).mono ?_); rintro e w2 ⟨rfl, rfl⟩))
    go_ret
    exact ⟨rfl, rfl⟩
  go_enter Tryz.func49, Tryz.ntmps49
  go_wp2_with (go_at_call 64; (with_reducible refine (HC.out _).mono ?_); rintro e w' ⟨rfl, rfl⟩)
  go_ret
  exact ⟨rfl, rfl⟩
/-- p is what X was widened to -/
def WdOf (p X : Nat) : Prop := floatToFloatBits .f64 p .f32 = some X ∨ (nan64 p = true ∧ nan32 X = true)
theorem bits_nan {a b : Nat} (ha : nan32 a = true) (hb : nan32 b = true) : bitsOf a = bitsOf b := by simp [bitsOf, ha, hb]
theorem narrow_wd (p X : Nat) (w : World) (hX : Fit X) (h : WdOf p X) : Calls Tryz.prog 30 #[.float .f64 p] w fun e w' => (∃ r, e = .returned (.float .f32 r) ∧ Fit r ∧ bitsOf r = bitsOf X) ∧ Quiet w w' := by
  rcases h with h | ⟨h1, h2⟩
  · refine (narrowNumber_ok p X w h).mono ?_
    rintro e w' ⟨rfl, rfl⟩
    exact ⟨⟨X, rfl, hX, rfl⟩, Quiet.refl _⟩
  · refine (narrowNumber_nan p w h1).mono ?_
    rintro e w' ⟨⟨v, rfl, hv⟩, hq⟩
    exact ⟨⟨v, rfl, .inl hv, bits_nan hv h2⟩, hq⟩
theorem narrowC_wd (p q X Y : Nat) (w : World) (hX : Fit X) (hY : Fit Y) (h1 : WdOf p X) (h2 : WdOf q Y) : Calls Tryz.prog 24 #[.complex .f64 p q] w fun e w' => (∃ r s, e = .returned (.complex .f32 r s) ∧ Fit r ∧ Fit s ∧ bitsOf r = bitsOf X ∧ bitsOf s = bitsOf Y) ∧ Quiet w w' := by
  have H1 := Lib.hid fun w => narrow_wd p X w hX h1
  have H2 := Lib.hid fun w => narrow_wd q Y w hY h2
  clear h1 h2
  go_enter Tryz.func24, Tryz.ntmps24
  go_wp2_with fail
  refine (H1.out _).mono ?_
  rintro e w1 ⟨⟨r, rfl, hr, hrb⟩, m1, rfl⟩
  have HR := Lib.hid (And.intro hr hrb)
  clear hr hrb
  go_wp2_with fail
  refine (H2.out _).mono ?_
  rintro e w2 ⟨⟨s, rfl, hs, hsb⟩, m2, rfl⟩
  have HS := Lib.hid (And.intro hs hsb)
  clear hs hsb
  go_wp2_with fail
  go_ret
  exact ⟨⟨r, s, rfl, HR.out.1, HS.out.1, HR.out.2, HS.out.2⟩, ⟨_, rfl⟩⟩
theorem conj_of (x y z : Nat) (w : World) (hz : z = Op.negFloat .f32 y) : Calls Tryz.prog 8 #[.complex .f32 x y] w fun e w' => e = .returned (.complex .f32 x z) ∧ w = w' := by
  have hneg : Op.unary .neg (.float .f32 y) = pure (.float .f32 z) := by rw [hz]; rfl
  clear hz
  go_enter Tryz.func8, Tryz.ntmps8
  go_wp2
  go_ret
  exact ⟨by first | rfl | rw [← hz], rfl⟩
theorem neg_neg (y : Nat) : Op.negFloat .f32 (Op.negFloat .f32 y) = y := by
  show (y ^^^ FloatKind.f32.format.signWeight) ^^^ FloatKind.f32.format.signWeight = y
  rw [Nat.xor_assoc, Nat.xor_self, Nat.xor_zero]
theorem finC_of (x y : Nat) (w : World) : Calls Tryz.prog 25 #[.complex .f32 x y] w fun e w' => e = .returned (.bool (fin32 x && fin32 y)) ∧ Quiet w w' := by
  have H1 := fun w => isFinite_any x w
  have H2 := fun w => isFinite_any y w
  generalize fin32 x = a at H1 ⊢
  generalize fin32 y = b at H2 ⊢
  have H1' := Lib.hid H1
  have H2' := Lib.hid H2
  clear H1 H2
  cases a
  all_goals
    go_enter Tryz.func25, Tryz.ntmps25
    go_wp2_with (first | (go_at_call 51; (with_reducible refine (H1'.out _).mono ?_); rintro e w1 ⟨rfl, m1, rfl⟩) | (go_at_call 51; (with_reducible refine (H2'.out _).mono ?_); rintro e w2 ⟨rfl, m2, rfl⟩))
    go_ret
    exact ⟨rfl, ⟨_, rfl⟩⟩
theorem scale_of (x y c R I : Nat) (w : World) (h1 : floatBits .mul .f32 x c = some R) (h2 : floatBits .mul .f32 y c = some I) : Calls Tryz.prog 13 #[.complex .f32 x y, .float .f32 c] w fun e w' => e = .returned (.complex .f32 R I) ∧ w = w' := by
  have HM : Hid (∀ a r w, floatBits .mul .f32 a c = some r → Calls Tryz.prog 35 #[.float .f32 a, .float .f32 c] w fun e w' => e = .returned (.float .f32 r) ∧ w = w') := by
    intro a r w h
    have e1 := fun w => run_float_arith (P := Tryz.prog) w .mul 28 .f32 _ _ _ h
    clear h h1 h2
    go_enter Tryz.func35, Tryz.ntmps35
    go_wp2
    go_ret
    exact ⟨rfl, rfl⟩
  have H1 := Lib.hid fun w => HM.out x R w h1
  have H2 := Lib.hid fun w => HM.out y I w h2
  clear h1 h2 HM
  go_enter Tryz.func13, Tryz.ntmps13
  go_wp2_with (first | (go_at_call 35; (with_reducible refine (H1.out _).mono ?_); rintro e w1 ⟨rfl, rfl⟩) | (go_at_call 35; (with_reducible refine (H2.out _).mono ?_); rintro e w2 ⟨rfl, rfl⟩))
  go_ret
  exact ⟨rfl, rfl⟩
end Go.Proofs.YtjcjijfemedojaaGreatDoor

namespace Go.Proofs.YtjcjijfemedojaaGreatDoor
open Go.RowKit Fl

theorem exa_zz (f : Ieee.Format) (p : Int) : Exa f p 0 0 := ⟨fun h => absurd rfl h, fun _ => .inl rfl⟩
theorem rep_fit2 {a : Nat} {o : Option Nat} (ha : Rep a o) (ho : ∀ r, o = some r → r < 4294967296) : Fit a := by
  cases o with
  | none => exact .inl ha
  | some r => obtain ⟨rfl, _⟩ := ha; exact .inr (ho _ rfl)
theorem repR_fit2 {a : Nat} {o : Option Nat} (ha : RepR a o) (ho : ∀ r, o = some r → r < 4294967296) : Fit a := by
  cases o with
  | none => exact .inl ha
  | some r => obtain ⟨rfl, _⟩ := ha; exact .inr (ho _ rfl)
theorem root_same {a b : Nat} {o : Option Nat} (ha : Rep a o) (hb : RepR b o) (ho : ∀ r, o = some r → r < 4294967296) (w : World) :
    Calls Tryz.prog 9 #[.float .f32 a, .float .f32 b] w fun e w' => e = .returned (.bool true) ∧ w = w' := by
  have := same_ok a b w (rep_fit2 ha ho) (repR_fit2 hb ho)
  rwa [show (bitsOf a == bitsOf b) = true by rw [repR_same (rep_repR ha) hb]; simp] at this
theorem smul {x y : Nat} {a b : Int} (hx : Exa Ieee.single 0 x a) (hy : Exa Ieee.single 0 y b) (ha : a.natAbs ≤ 1000) (hb : b.natAbs ≤ 1000) : ∃ r, floatBits .mul .f32 x y = some r ∧ Exa Ieee.single 0 r (a * b) := by
  have h := abs_mul_le ha hb
  have e0 : (0 : Int) + 0 = 0 := rfl
  obtain ⟨r, hr, h2⟩ := exa_mul he32 hx hy (f32z (by omega)) (f32z (by omega)) (by rw [e0]; exact f32z (by omega))
  rw [e0] at h2
  exact ⟨r, hr, h2⟩
theorem sadd {x y : Nat} {a b : Int} (hx : Exa Ieee.single 0 x a) (hy : Exa Ieee.single 0 y b) (ha : a.natAbs ≤ 100000) (hb : b.natAbs ≤ 100000) : ∃ r, floatBits .add .f32 x y = some r ∧ Exa Ieee.single 0 r (a + b) := by
  obtain ⟨r, hr, h2⟩ := exa_add he32 hx hy (f32z (by omega)) (f32z (by omega)) (f32z (by omega))
  exact ⟨r, hr, h2⟩
/-- all that the walk asks of two small complex numbers -/
structure Heads (x1 x2 y1 y2 : Int) (A1 A2 B1 B2 : Nat) : Prop where
  mul : ∃ R I, (∀ w, Calls Tryz.prog 6 #[.complex .f32 A1 A2, .complex .f32 B1 B2] w fun e w' => e = .returned (.complex .f32 R I) ∧ w = w') ∧ FloatKind.f32.format.order R (floatOfInt .f32 (x1 * y1 - x2 * y2)) = some .eq ∧ FloatKind.f32.format.order I (floatOfInt .f32 (x1 * y2 + x2 * y1)) = some .eq ∧
    (∃ R2 I2, (∀ w, Calls Tryz.prog 6 #[.complex .f32 B1 B2, .complex .f32 A1 A2] w fun e w' => e = .returned (.complex .f32 R2 I2) ∧ w = w') ∧ FloatKind.f32.format.order R2 R = some .eq ∧ FloatKind.f32.format.order I2 I = some .eq) ∧
    (y1 * y1 + y2 * y2 ≠ 0 → ∃ R3 I3, (∀ w, Calls Tryz.prog 12 #[.complex .f32 R I, .complex .f32 B1 B2] w fun e w' => e = .returned (.complex .f32 R3 I3) ∧ w = w') ∧ FloatKind.f32.format.order R3 A1 = some .eq ∧ FloatKind.f32.format.order I3 A2 = some .eq)
  pow : ∃ P, (∀ w, Calls Tryz.prog 7 #[.complex .f32 A1 A2] w fun e w' => e = .returned (.float .f32 P) ∧ w = w') ∧ FloatKind.f32.format.order P (floatOfInt .f32 (x1 * x1 + x2 * x2)) = some .eq
  con : ∃ N R4 I4, (∀ w, Calls Tryz.prog 8 #[.complex .f32 A1 A2] w fun e w' => e = .returned (.complex .f32 A1 N) ∧ w = w') ∧ (∀ w, Calls Tryz.prog 6 #[.complex .f32 A1 A2, .complex .f32 A1 N] w fun e w' => e = .returned (.complex .f32 R4 I4) ∧ w = w') ∧
    FloatKind.f32.format.order R4 (floatOfInt .f32 (x1 * x1 + x2 * x2)) = some .eq ∧ FloatKind.f32.format.order I4 0 = some .eq
  lon : ∃ o, (∀ w, Calls Tryz.prog 10 #[.complex .f32 A1 A2] w fun e w' => (∃ v, e = .returned (.float .f32 v) ∧ Rep v o) ∧ Quiet w w') ∧ (∀ w, Calls Tryz.prog 11 #[.float .f32 (floatOfInt .f32 (x1 * x1 + x2 * x2))] w fun e w' => (∃ v, e = .returned (.float .f32 v) ∧ RepR v o) ∧ Quiet w w') ∧ ∀ r, o = some r → r < 4294967296
  sca : ∃ R5 I5 R6 I6, (∀ w, Calls Tryz.prog 13 #[.complex .f32 A1 A2, .float .f32 1073741824] w fun e w' => e = .returned (.complex .f32 R5 I5) ∧ w = w') ∧ (∀ t w, (binOp .add t (.complex .f32 A1 A2) (.complex .f32 A1 A2)).run Tryz.prog w = .ok (.complex .f32 R6 I6) w) ∧
    FloatKind.f32.format.order R5 R6 = some .eq ∧ FloatKind.f32.format.order I5 I6 = some .eq
  cv1 : floatToIntVal .f32 A1 .i64 = some x1
  cv2 : floatToIntVal .f32 A2 .i64 = some x2
  cv3 : floatToIntVal .f32 B1 .i64 = some y1
  cv4 : floatToIntVal .f32 B2 .i64 = some y2
  or1 : FloatKind.f32.format.order B1 0 = some (compare y1 0)
  or2 : FloatKind.f32.format.order B2 0 = some (compare y2 0)
theorem toInt_small {x : Nat} {n : Int} (h : Exa Ieee.single 0 x n) (hn : n.natAbs ≤ 200) : floatToIntVal .f32 x .i64 = some n :=
  exa_toInt (k := .f32) he32 h (f32z (by omega)) (by omega)
theorem zero_order {x : Nat} {n : Int} (h : Exa Ieee.single 0 x n) (hn : n.natAbs ≤ 200) : FloatKind.f32.format.order x 0 = some (compare n 0) :=
  exa_order he32 h (exa_zz Ieee.single 0) (f32z (by omega)) (f32z (by decide))
theorem rootO_lt {x r : Nat} (h : rootO x = some r) : r < 4294967296 := by
  unfold rootO at h
  split at h
  · cases h
  · obtain ⟨q, h1, h2⟩ := Option.bind_eq_some_iff.1 h
    have hq : q < 18446744073709551616 := Ieee.Format.sqrt_lt Ieee.double h1
    have hw := floatToFloatBits_wf (src := .f64) (dst := .f32) (by simpa [Lit.wf] using hq) h2
    simpa [Lit.wf] using hw
set_option maxHeartbeats 6400000 in
theorem heads_of {x1 x2 y1 y2 : Int} (ha : x1.natAbs ≤ 200) (hb : x2.natAbs ≤ 200) (hc : y1.natAbs ≤ 200) (hd : y2.natAbs ≤ 200) :
    Heads x1 x2 y1 y2 (floatOfInt .f32 x1) (floatOfInt .f32 x2) (floatOfInt .f32 y1) (floatOfInt .f32 y2) := by
  have e1 : Exa Ieee.single 0 (floatOfInt .f32 x1) x1 := exa_ofInt .f32 x1
  have e2 : Exa Ieee.single 0 (floatOfInt .f32 x2) x2 := exa_ofInt .f32 x2
  have e3 : Exa Ieee.single 0 (floatOfInt .f32 y1) y1 := exa_ofInt .f32 y1
  have e4 : Exa Ieee.single 0 (floatOfInt .f32 y2) y2 := exa_ofInt .f32 y2
  obtain ⟨p, q, s, o, hL, ho⟩ := long_root ha hb
  generalize floatOfInt .f32 x1 = A1 at e1 hL ⊢
  generalize floatOfInt .f32 x2 = A2 at e2 hL ⊢
  generalize floatOfInt .f32 y1 = B1 at e3 ⊢
  generalize floatOfInt .f32 y2 = B2 at e4 ⊢
  have k1 := e1.num (f32z (by omega))
  have k2 := e2.num (f32z (by omega))
  have k3 := e3.num (f32z (by omega))
  have k4 := e4.num (f32z (by omega))
  have n1 := abs_mul_le ha hc
  have n2 := abs_mul_le hb hd
  have n3 := abs_mul_le ha hd
  have n4 := abs_mul_le hb hc
  have n5 := abs_mul_le ha ha
  have n6 := abs_mul_le hb hb
  have hpw : Exa Ieee.single 0 (floatOfInt .f32 (x1 * x1 + x2 * x2)) (x1 * x1 + x2 * x2) := exa_ofInt .f32 _
  refine ⟨?_, ?_, ?_, ⟨o, fun w => longOf_w _ _ _ _ _ _ w k1 k2 hL, fun w => ho ▸ specRootNumber_any _ w, fun r hr => rootO_lt (by rw [← ho]; exact hr)⟩, ?_, toInt_small e1 ha, toInt_small e2 hb, toInt_small e3 hc, toInt_small e4 hd, zero_order e3 hc, zero_order e4 hd⟩
  · obtain ⟨R, I, m1, m2, m3⟩ := mulF_exa e1 e2 e3 e4 (by omega) (by omega) (by omega) (by omega)
    obtain ⟨R2, I2, m4, m5, m6⟩ := mulF_exa e3 e4 e1 e2 (by omega) (by omega) (by omega) (by omega)
    rw [Int.mul_comm y1 x1, Int.mul_comm y2 x2] at m5
    rw [Int.mul_comm y1 x2, Int.mul_comm y2 x1, Int.add_comm] at m6
    refine ⟨R, I, fun w => mulF_of (A1, A2) (B1, B2) (R, I) k1 k2 k3 k4 m1 w, same_order m2 (exa_ofInt .f32 _) (by omega), same_order m3 (exa_ofInt .f32 _) (by omega), ⟨R2, I2, fun w => mulF_of (B1, B2) (A1, A2) (R2, I2) k3 k4 k1 k2 m4 w, same_order m5 m2 (by omega), same_order m6 m3 (by omega)⟩, fun h0 => ?_⟩
    obtain ⟨R3, I3, m7, m8, m9⟩ := quoW_exa m2 m3 e3 e4 ha hb hc hd h0
    exact ⟨R3, I3, fun w => quotient_of _ _ _ _ _ _ w m7, same_order m8 e1 (by omega), same_order m9 e2 (by omega)⟩
  · obtain ⟨P, m1, m2⟩ := powF_exa e1 e2 (by omega) (by omega)
    exact ⟨P, fun w => powF_of (A1, A2) P k1 k2 m1 w, same_order m2 hpw (by omega)⟩
  · have e5 := exa_neg32 e2
    have k5 := e5.num (f32z (by omega))
    obtain ⟨R, I, m1, m2, m3⟩ := mulF_exa e1 e2 e1 e5 (by omega) (by omega) (by omega) (by omega)
    have t1 : x1 * x1 - x2 * -x2 = x1 * x1 + x2 * x2 := by rw [Int.mul_neg]; omega
    have t2 : x1 * -x2 + x2 * x1 = 0 := by rw [Int.mul_neg, Int.mul_comm x2 x1]; omega
    rw [t1] at m2
    rw [t2] at m3
    exact ⟨_, R, I, fun w => conj_of A1 A2 _ w rfl, fun w => mulF_of (A1, A2) (A1, Op.negFloat .f32 A2) (R, I) k1 k2 k1 k5 m1 w, same_order m2 hpw (by omega), same_order m3 (exa_zz Ieee.single 0) (by omega)⟩
  · have e6 : Exa Ieee.single 0 1073741824 2 := exa_ofInt .f32 2
    obtain ⟨R5, m1, m2⟩ := smul e1 e6 (by omega) (by omega)
    obtain ⟨I5, m3, m4⟩ := smul e2 e6 (by omega) (by omega)
    obtain ⟨R6, m5, m6⟩ := sadd e1 e1 (by omega) (by omega)
    obtain ⟨I6, m7, m8⟩ := sadd e2 e2 (by omega) (by omega)
    have t1 : x1 * 2 = x1 + x1 := by omega
    have t2 : x2 * 2 = x2 + x2 := by omega
    rw [t1] at m2
    rw [t2] at m4
    exact ⟨R5, I5, R6, I6, fun w => scale_of A1 A2 _ _ _ w m1 m3, fun t w => run_csum .add (.inl rfl) t _ _ _ _ _ _ m5 m7 w, same_order m2 m6 (by omega), same_order m4 m8 (by omega)⟩

end Go.Proofs.YtjcjijfemedojaaGreatDoor
