/- The chain of the angle of a point: each operation is valid, and the result is not too great. -/
import Derived.Test.YtbggklhnnjikjaaLo
import Derived.Test.YtbggklhnnjikjaaSinf
namespace Go.Proofs.Ytbggklhnnjikjaa
open Go.RowKit Fl
open Ieee (Datum Toward)

theorem nn_mul_self {x K : Nat} (R : Nat) (hx : Bd x K) (hR : K + K ≤ R + 1074) (hR1 : 52 ≤ R) (hR2 : R ≤ 2096) : ∃ r, floatBits .mul .f64 x x = some r ∧ Nn r R := by
  obtain ⟨s, m, i, h1, h2, h3⟩ := hx
  have h0 : floatBits .mul .f64 x x = some (Ieee.double.nearest (s ^^ s) (m * m) (i + i)) := by
    show ((Ieee.double.read x).product (Ieee.double.read x)).map Ieee.double.write = _
    rw [h1]; rfl
  rw [show (s ^^ s) = false by cases s <;> rfl] at h0
  refine ⟨_, h0, nn_nearest _ _ R 1074 hR1 hR2 (by omega) ?_⟩
  have e : (i + i + 1074 + (1074 : Nat)).toNat = (i + 1074).toNat + (i + 1074).toNat := by omega
  rw [e, Nat.pow_add]
  calc m * m * (2 ^ (i + 1074).toNat * 2 ^ (i + 1074).toNat) = (m * 2 ^ (i + 1074).toNat) * (m * 2 ^ (i + 1074).toNat) := by
        exact Nat.mul_mul_mul_comm _ _ _ _
    _ ≤ 2 ^ K * 2 ^ K := Nat.mul_le_mul h3 h3
    _ = 2 ^ (K + K) := (Nat.pow_add ..).symm
    _ ≤ 2 ^ (R + 1074) := Nat.pow_le_pow_right (by decide) hR

/-- the square root of a number that is at least 1 -/
theorem nn_sqrt {x K : Nat} (h : Nat) (hx : Rg x 1074 K) (hK : K ≤ 2 * h + 1074) (hh : h ≤ 1000) : ∃ r, Ieee.double.sqrt x = some r ∧ Nn r (h + 1 + 1074) := by
  rcases bd_sqrt h hx.bd hK hh with h1 | ⟨r, h1, h2⟩
  · obtain ⟨m, i, g1, g2, g3, _⟩ := hx
    exfalso
    have h0 : Ieee.double.sqrt x = ((Datum.number false m i).root 54).map Ieee.double.write := by
      show ((Ieee.double.read x).root (52 + 2)).map Ieee.double.write = _
      rw [g1]
    rw [h0] at h1
    simp only [Datum.root] at h1
    split at h1
    · cases h1
    · rw [if_neg (by simp)] at h1; cases h1
  · refine ⟨r, h1, ?_⟩
    obtain ⟨m, i, g1, g2, g3, _⟩ := hx
    obtain ⟨s, m', e', k1, k2, k3⟩ := h2
    have hs : s = false := by
      have h0 : Ieee.double.sqrt x = ((Datum.number false m i).root 54).map Ieee.double.write := by
        show ((Ieee.double.read x).root (52 + 2)).map Ieee.double.write = _
        rw [g1]
      rw [h0] at h1
      simp only [Datum.root] at h1
      have key : ∀ mag place, Ieee.double.write (.number false mag place) = r → s = false := by
        intro mag place hr
        have hw : ∃ rung, rung ≤ Ieee.double.infRung ∧ Ieee.double.nearest false mag place = Ieee.double.word false rung := by
          unfold Ieee.Format.nearest
          split
          · exact ⟨0, Nat.zero_le _, rfl⟩
          · exact ⟨_, Nat.min_le_right _ _, rfl⟩
        obtain ⟨rung, hr', hw⟩ := hw
        have : r = Ieee.double.word false rung := by rw [← hr]; exact hw
        rw [this] at k1
        exact read_word_sign _ _ _ _ _ _ k1 (Nat.lt_of_le_of_lt hr' Ieee.double.infRung_lt)
      split at h1
      · exact key _ _ (Option.some.inj h1)
      · rw [if_neg (by simp)] at h1; exact key _ _ (Option.some.inj h1)
    subst hs
    exact ⟨m', e', k1, k2, k3⟩

/-- one halving: t becomes t / (1 + sqrt (1 + t t)) -/
def HalfStep (t t' : Nat) : Prop := ∃ a b c d, floatBits .mul .f64 t t = some a ∧ floatBits .add .f64 4607182418800017408 a = some b ∧ Ieee.double.sqrt b = some c ∧ floatBits .add .f64 4607182418800017408 c = some d ∧ floatBits .quo .f64 t d = some t'
theorem half_step (t K : Nat) (ht : Bd t K) (h1 : 1074 ≤ K) (h2 : K ≤ 1100) : ∃ t', HalfStep t t' ∧ Bd t' (K + 1) := by
  obtain ⟨a, ha, ga⟩ := nn_mul_self 1126 ht (by omega) (by omega) (by omega)
  obtain ⟨b, hb, gb⟩ := rg_add_one ga (by omega) (by omega)
  obtain ⟨c, hc, gc⟩ := nn_sqrt 30 gb (by omega) (by omega)
  obtain ⟨d, hd, gd⟩ := rg_add_one gc (by omega) (by omega)
  obtain ⟨e, he, ge⟩ := bd_quo (K + 1) ht gd.lo (by omega) (by omega) (by omega)
  exact ⟨e, ⟨a, b, c, d, ha, hb, hc, hd, he⟩, ge⟩

/-- one round of the sum: p becomes 1 / k - u p -/
def ArcStep (u p k p' : Nat) : Prop := ∃ a b, floatBits .quo .f64 4607182418800017408 (floatOfInt .f64 k) = some a ∧ floatBits .mul .f64 u p = some b ∧ floatBits .sub .f64 a b = some p'
theorem arc_step (u p k Kp : Nat) (hu : Bd u 1082) (hp : Bd p Kp) (h1 : 1074 ≤ Kp) (h2 : Kp ≤ 1190) (hd : Lo (floatOfInt .f64 k) 1074) : ∃ p', ArcStep u p k p' ∧ Bd p' (Kp + 9) := by
  obtain ⟨a, ha, ga⟩ := bd_quo 1076 bd_one hd (by omega) (by omega) (by omega)
  obtain ⟨b, hb, gb⟩ := bd_mul (Kp + 8) hu hp (by omega) (by omega) (by omega)
  obtain ⟨c, hc, gc⟩ := bd_sub (K := Kp + 8) (ga.mono (by omega)) gb (by omega) (by omega)
  exact ⟨c, ⟨a, b, ha, hb, hc⟩, gc⟩
theorem lo_odd15 : Lo (floatOfInt .f64 (15 : Nat)) 1074 := lo_of_read false 8444249301319680 (-49) (by decide) (by decide) 52 (by decide) (by decide)
theorem lo_odd13 : Lo (floatOfInt .f64 (13 : Nat)) 1074 := lo_of_read false 7318349394477056 (-49) (by decide) (by decide) 52 (by decide) (by decide)
theorem lo_odd11 : Lo (floatOfInt .f64 (11 : Nat)) 1074 := lo_of_read false 6192449487634432 (-49) (by decide) (by decide) 52 (by decide) (by decide)
theorem lo_odd9 : Lo (floatOfInt .f64 (9 : Nat)) 1074 := lo_of_read false 5066549580791808 (-49) (by decide) (by decide) 52 (by decide) (by decide)
theorem lo_odd7 : Lo (floatOfInt .f64 (7 : Nat)) 1074 := lo_of_read false 7881299347898368 (-50) (by decide) (by decide) 52 (by decide) (by decide)
theorem lo_odd5 : Lo (floatOfInt .f64 (5 : Nat)) 1074 := lo_of_read false 5629499534213120 (-50) (by decide) (by decide) 52 (by decide) (by decide)
theorem lo_odd3 : Lo (floatOfInt .f64 (3 : Nat)) 1074 := lo_of_read false 6755399441055744 (-51) (by decide) (by decide) 52 (by decide) (by decide)
theorem lo_odd1 : Lo (floatOfInt .f64 (1 : Nat)) 1074 := lo_of_read false 4503599627370496 (-52) (by decide) (by decide) 52 (by decide) (by decide)
theorem bd_zero : Bd 0 1074 := bd_of_read false 0 (-1074) (by decide) (by decide) 0 (by decide) (by decide)
/-- the sum: P k is p ahead of the round with k (P 17, no round, is not used; P 0 is the end) -/
theorem arc_loop (u : Nat) (hu : Bd u 1082) : ∃ P : Nat → Nat, P 8 = 0 ∧ (∀ j, 1 ≤ j → j ≤ 8 → ArcStep u (P j) (2 * j - 1) (P (j - 1))) ∧ Bd (P 0) 1146 := by
  obtain ⟨p7, s8, g7⟩ := arc_step u 0 15 1074 hu bd_zero (by omega) (by omega) lo_odd15
  obtain ⟨p6, s7, g6⟩ := arc_step u p7 13 1083 hu g7 (by omega) (by omega) lo_odd13
  obtain ⟨p5, s6, g5⟩ := arc_step u p6 11 1092 hu g6 (by omega) (by omega) lo_odd11
  obtain ⟨p4, s5, g4⟩ := arc_step u p5 9 1101 hu g5 (by omega) (by omega) lo_odd9
  obtain ⟨p3, s4, g3⟩ := arc_step u p4 7 1110 hu g4 (by omega) (by omega) lo_odd7
  obtain ⟨p2, s3, g2⟩ := arc_step u p3 5 1119 hu g3 (by omega) (by omega) lo_odd5
  obtain ⟨p1, s2, g1⟩ := arc_step u p2 3 1128 hu g2 (by omega) (by omega) lo_odd3
  obtain ⟨p0, s1, g0⟩ := arc_step u p1 1 1137 hu g1 (by omega) (by omega) lo_odd1
  refine ⟨fun k => match k with | 0 => p0 | 1 => p1 | 2 => p2 | 3 => p3 | 4 => p4 | 5 => p5 | 6 => p6 | 7 => p7 | 8 => 0 | _ => 0, rfl, ?_, g0⟩
  intro j h1 h8
  have hj : j = 1 ∨ j = 2 ∨ j = 3 ∨ j = 4 ∨ j = 5 ∨ j = 6 ∨ j = 7 ∨ j = 8 := by omega
  rcases hj with rfl | rfl | rfl | rfl | rfl | rfl | rfl | rfl
  · exact s1
  · exact s2
  · exact s3
  · exact s4
  · exact s5
  · exact s6
  · exact s7
  · exact s8

/-- the arc of a tangent t0 -/
def ArcRel (t0 r : Nat) : Prop := ∃ (T P : Nat → Nat) (u a b : Nat), T 0 = t0 ∧ (∀ j, j < 3 → HalfStep (T j) (T (j + 1))) ∧ floatBits .mul .f64 (T 3) (T 3) = some u ∧
  P 8 = 0 ∧ (∀ j, 1 ≤ j → j ≤ 8 → ArcStep u (P j) (2 * j - 1) (P (j - 1))) ∧
  floatBits .mul .f64 (T 3) (P 0) = some a ∧ floatBits .mul .f64 4620693217682128896 a = some b ∧ floatBits .quo .f64 b 4618760256179416344 = some r
theorem bd_eight : Bd 4620693217682128896 1078 := bd_of_read false (2 ^ 52) (-49) (by decide) (by decide) 53 (by decide) (by decide)
theorem lo_turn : Lo 4618760256179416344 1076 := lo_of_read false 7074237752028440 (-50) (by decide) (by decide) 52 (by decide) (by decide)
theorem arc_facts (t0 : Nat) (h : Bd t0 1075) : ∃ r, ArcRel t0 r ∧ Bd r 1153 := by
  obtain ⟨t1, s1, g1⟩ := half_step t0 1075 h (by omega) (by omega)
  obtain ⟨t2, s2, g2⟩ := half_step t1 1076 g1 (by omega) (by omega)
  obtain ⟨t3, s3, g3⟩ := half_step t2 1077 g2 (by omega) (by omega)
  obtain ⟨u, hu, gu⟩ := bd_mul 1082 g3 g3 (by omega) (by omega) (by omega)
  obtain ⟨P, hP, hS, gP⟩ := arc_loop u gu
  obtain ⟨a, ha, ga⟩ := bd_mul 1150 g3 gP (by omega) (by omega) (by omega)
  obtain ⟨b, hb, gb⟩ := bd_mul 1154 bd_eight ga (by omega) (by omega) (by omega)
  obtain ⟨r, hr, gr⟩ := bd_quo 1153 gb lo_turn (by omega) (by omega) (by omega)
  refine ⟨r, ⟨fun k => match k with | 0 => t0 | 1 => t1 | 2 => t2 | 3 => t3 | _ => 0, P, u, a, b, rfl, ?_, hu, hP, hS, ha, hb, hr⟩, gr.mono (by omega)⟩
  intro j hj
  have hj' : j = 0 ∨ j = 1 ∨ j = 2 := by omega
  rcases hj' with rfl | rfl | rfl
  · exact s1
  · exact s2
  · exact s3

/-! ### the tangent, and the tests -/
theorem read_norm (f : Ieee.Format) (x : Nat) (s : Bool) (m : Nat) (e : Int) (h : f.read x = .number s m e) : e = f.leastPlace ∨ f.binade ≤ m := by
  unfold Ieee.Format.read at h
  dsimp only at h
  split at h
  · injection h with _ _ h; exact .inl h.symm
  · split at h
    · injection h with _ h _; right; omega
    · split at h <;> cases h

/-- equal values are equal in both parts -/
theorem norm_unique (x y : Nat) (s t : Bool) (m n : Nat) (e f : Int) (hx : Ieee.double.read x = .number s m e) (hy : Ieee.double.read y = .number t n f)
    (h : m * 2 ^ (e + 1074).toNat = n * 2 ^ (f + 1074).toNat) (_hm : m ≠ 0) : m = n ∧ e = f := by
  obtain ⟨_, he, _, hm2⟩ := read_number _ (by decide) x s m e hx
  obtain ⟨_, hf, _, hn2⟩ := read_number _ (by decide) y t n f hy
  have k1 := read_norm _ x s m e hx
  have k2 := read_norm _ y t n f hy
  rw [lp64] at he hf k1 k2
  have hb : Ieee.double.binade = 2 ^ 52 := rfl
  rw [hb] at hm2 hn2 k1 k2
  have key : ∀ (m n : Nat) (e f : Int), -1074 ≤ e → e < f → m < 2 * 2 ^ 52 → (f = -1074 ∨ 2 ^ 52 ≤ n) → m * 2 ^ (e + 1074).toNat ≠ n * 2 ^ (f + 1074).toNat := by
    intro m n e f h1 h2 h3 h4 h5
    have h6 : 2 ^ 52 ≤ n := by rcases h4 with h | h <;> omega
    have e1 : (f + 1074).toNat = (f - e).toNat + (e + 1074).toNat := by omega
    rw [e1, Nat.pow_add, ← Nat.mul_assoc] at h5
    have h7 := Nat.eq_of_mul_eq_mul_right (Nat.two_pow_pos _) h5
    have h8 : 2 ^ 1 ≤ 2 ^ (f - e).toNat := Nat.pow_le_pow_right (by decide) (by omega)
    have h9 := Nat.mul_le_mul h6 h8
    omega
  rcases Int.lt_trichotomy e f with h1 | h1 | h1
  · exact absurd h (key m n e f he h1 hm2 k2)
  · subst h1; exact ⟨Nat.eq_of_mul_eq_mul_right (Nat.two_pow_pos _) h, rfl⟩
  · exact absurd h.symm (key n m f e hf h1 hn2 k1)

theorem bd_quo_le {x y : Nat} (s t : Bool) (m n : Nat) (i j : Int) (h1 : Ieee.double.read x = .number s m i) (h4 : Ieee.double.read y = .number t n j) (h2 : (-1074 : Int) ≤ i) (h5 : (-1074 : Int) ≤ j)
    (hle : m * 2 ^ (i + 1074).toNat ≤ n * 2 ^ (j + 1074).toNat) (hn : n ≠ 0) : ∃ r, floatBits .quo .f64 x y = some r ∧ Bd r 1075 := by
  have h0 : floatBits .quo .f64 x y = ((Datum.number s m i).quotient 54 (.number t n j)).map Ieee.double.write := by
    show ((Ieee.double.read x).quotient (52 + 2) (Ieee.double.read y)).map Ieee.double.write = _
    rw [h1, h4]
  rw [h0]
  simp only [Datum.quotient, if_neg hn]
  refine ⟨_, rfl, ?_⟩
  generalize hmore : 54 + n.log2 - m.log2 = more
  generalize hq : m <<< more / n = q
  have hst : (m <<< more % n != 0).toNat ≤ 1 := by cases (m <<< more % n != 0) <;> decide
  have hq4 : 2 * q + (m <<< more % n != 0).toNat ≤ 4 * q := by
    rcases Nat.eq_zero_or_pos q with h | h
    · have hm0 : m = 0 := by
        rcases Nat.eq_zero_or_pos m with hm | hm
        · exact hm
        · exfalso
          have g1 := two_log_le m (by omega)
          have g2 := lt_two_log n
          have g3 : n ≤ m <<< more := by
            rw [shl_eq]
            calc n ≤ 2 ^ (n.log2 + 1) := Nat.le_of_lt g2
              _ ≤ 2 ^ (m.log2 + more) := Nat.pow_le_pow_right (by decide) (by omega)
              _ = 2 ^ m.log2 * 2 ^ more := Nat.pow_add ..
              _ ≤ m * 2 ^ more := Nat.mul_le_mul_right _ g1
          have := Nat.div_pos g3 (by omega : 0 < n)
          omega
      subst hm0
      simp [h]
    · omega
  have hqn : q * n ≤ m * 2 ^ more := by
    rw [← hq, shl_eq]; exact Nat.div_mul_le_self _ _
  show Bd (Ieee.double.nearest _ (2 * q + (m <<< more % n != 0).toNat) (i - j - more - 1)) 1075
  refine bd_nearest _ _ _ 1075 ((j + 1074).toNat + more + 1) (by omega) (by omega) (by omega) ?_
  have e : (i - j - (more : Int) - 1 + 1074 + (((j + 1074).toNat + more + 1 : Nat) : Int)).toNat = (i + 1074).toNat + U := by rw [U_eq]; omega
  have e' : 1075 + ((j + 1074).toNat + more + 1) = more + 2 + U + (j + 1074).toNat := by rw [U_eq]; omega
  rw [e, e']
  refine Nat.le_trans (Nat.mul_le_mul_right _ hq4) ?_
  have hpos : 0 < n * 2 ^ (j + 1074).toNat := Nat.mul_pos (by omega) (Nat.two_pow_pos _)
  refine Nat.le_of_mul_le_mul_right ?_ hpos
  calc 4 * q * 2 ^ ((i + 1074).toNat + U) * (n * 2 ^ (j + 1074).toNat) = (q * n) * (4 * 2 ^ ((i + 1074).toNat + U) * 2 ^ (j + 1074).toNat) := by
        simp only [Nat.mul_assoc, Nat.mul_comm, Nat.mul_left_comm]
    _ ≤ (m * 2 ^ more) * (4 * 2 ^ ((i + 1074).toNat + U) * 2 ^ (j + 1074).toNat) := Nat.mul_le_mul_right _ hqn
    _ = (m * 2 ^ (i + 1074).toNat) * (2 ^ more * 2 ^ 2 * 2 ^ U * 2 ^ (j + 1074).toNat) := by
        rw [Nat.pow_add 2 (i + 1074).toNat]
        simp only [Nat.mul_assoc, Nat.mul_comm, Nat.mul_left_comm]
    _ ≤ (n * 2 ^ (j + 1074).toNat) * (2 ^ more * 2 ^ 2 * 2 ^ U * 2 ^ (j + 1074).toNat) := Nat.mul_le_mul_right _ hle
    _ = 2 ^ (more + 2 + U + (j + 1074).toNat) * (n * 2 ^ (j + 1074).toNat) := by
        rw [Nat.pow_add, Nat.pow_add, Nat.pow_add, Nat.mul_comm]

theorem run_min_float {P : Program} (w : World) (ts : Array TypeId) (t : TypeId) (k : FloatKind) (x y r : Nat)
    (h : (k.format.order x y = some .lt ∧ r = x) ∨ (k.format.order x y = some .gt ∧ r = y) ∨ (k.format.order x y = some .eq ∧ r = (if (k.decode x).neg then x else y))) :
    (Builtin.min_ ts t #[.float k x, .float k y]).run P w = .ok (.float k r) w := by
  rcases h with ⟨h, rfl⟩ | ⟨h, rfl⟩ | ⟨h, rfl⟩ <;> simp [Builtin.min_, Builtin.min2, h]
theorem run_max_float {P : Program} (w : World) (ts : Array TypeId) (t : TypeId) (k : FloatKind) (x y r : Nat)
    (h : (k.format.order x y = some .lt ∧ r = y) ∨ (k.format.order x y = some .gt ∧ r = x) ∨ (k.format.order x y = some .eq ∧ r = (if (k.decode x).neg then y else x))) :
    (Builtin.max_ ts t #[.float k x, .float k y]).run P w = .ok (.float k r) w := by
  rcases h with ⟨h, rfl⟩ | ⟨h, rfl⟩ | ⟨h, rfl⟩ <;> simp [Builtin.max_, Builtin.max2, h]

/-- the tangent of two numbers without a sign, not both nothing -/
theorem tangent (A B : Nat) (m n : Nat) (e f : Int) (hA : Ieee.double.read A = .number false m e) (hB : Ieee.double.read B = .number false n f) (hmn : m ≠ 0 ∨ n ≠ 0) :
    ∃ (t0 mn mx : Nat) (over : Bool), (FloatKind.f64.format.order A B == some .gt) = over ∧ floatBits .quo .f64 (if over then B else A) (if over then A else B) = some t0 ∧ Bd t0 1075 ∧
      (∀ (P : Program) (w : World) ts t, (Builtin.min_ ts t #[.float .f64 A, .float .f64 B]).run P w = .ok (.float .f64 mn) w) ∧
      (∀ (P : Program) (w : World) ts t, (Builtin.max_ ts t #[.float .f64 A, .float .f64 B]).run P w = .ok (.float .f64 mx) w) ∧ floatBits .quo .f64 mn mx = some t0 := by
  obtain ⟨_, he, _, _⟩ := read_number _ (by decide) A false m e hA
  obtain ⟨_, hf, _, _⟩ := read_number _ (by decide) B false n f hB
  rw [lp64] at he hf
  have ho : FloatKind.f64.format.order A B = some (compare (m * 2 ^ (e - min e f).toNat : Nat) (n * 2 ^ (f - min e f).toNat : Nat)) := by
    show Ieee.double.order A B = _
    unfold Ieee.Format.order
    rw [hA, hB]
    simp only [Datum.order, Ieee.signed, Bool.false_eq_true, if_false, shl_eq]
    congr 1
    simp only [compare, compareOfLessAndEq, Int.ofNat_lt, Int.ofNat_inj]
  have e1 : (e + 1074).toNat = (e - min e f).toNat + (min e f + 1074).toNat := by omega
  have e2 : (f + 1074).toNat = (f - min e f).toNat + (min e f + 1074).toNat := by omega
  have hp := Nat.two_pow_pos (min e f + 1074).toNat
  have dA : (FloatKind.f64.decode A).neg = false := by
    show (Ieee.double.read A).neg = false; rw [hA]; rfl
  rcases Nat.lt_trichotomy (m * 2 ^ (e - min e f).toNat) (n * 2 ^ (f - min e f).toNat) with h | h | h
  · have hc : FloatKind.f64.format.order A B = some .lt := by rw [ho]; simp only [compare, compareOfLessAndEq, if_pos h]
    have hn0 : n ≠ 0 := by intro h0; subst h0; simp at h
    obtain ⟨t0, ht, gt⟩ := bd_quo_le _ _ _ _ _ _ hA hB he hf (by rw [e1, e2, Nat.pow_add, Nat.pow_add, ← Nat.mul_assoc, ← Nat.mul_assoc]; exact Nat.mul_le_mul_right _ (Nat.le_of_lt h)) hn0
    exact ⟨t0, A, B, false, by rw [hc]; rfl, ht, gt, fun P w ts t => run_min_float w ts t .f64 A B A (.inl ⟨hc, rfl⟩), fun P w ts t => run_max_float w ts t .f64 A B B (.inl ⟨hc, rfl⟩), ht⟩
  · have hc : FloatKind.f64.format.order A B = some .eq := by
      rw [ho]; simp only [compare, compareOfLessAndEq, h, Nat.lt_irrefl, if_true, if_false]
    have hv : m * 2 ^ (e + 1074).toNat = n * 2 ^ (f + 1074).toNat := by
      rw [e1, e2, Nat.pow_add, Nat.pow_add, ← Nat.mul_assoc, ← Nat.mul_assoc, h]
    have hm0 : m ≠ 0 := by
      intro h0
      rcases hmn with h1 | h1
      · exact h1 h0
      · subst h0
        rw [Nat.zero_mul] at h
        have := Nat.mul_pos (Nat.pos_of_ne_zero h1) (Nat.two_pow_pos (f - min e f).toNat)
        omega
    obtain ⟨rfl, rfl⟩ := norm_unique A B false false m n e f hA hB hv hm0
    obtain ⟨t0, ht, gt⟩ := bd_quo_le _ _ _ _ _ _ hA hB he hf (Nat.le_refl _) hm0
    have ht' : floatBits .quo .f64 B A = some t0 := by
      rw [← ht]
      show ((Ieee.double.read B).quotient _ (Ieee.double.read A)).map _ = ((Ieee.double.read A).quotient _ (Ieee.double.read B)).map _
      rw [hA, hB]
    exact ⟨t0, B, A, false, by rw [hc]; rfl, ht, gt, fun P w ts t => run_min_float w ts t .f64 A B B (.inr (.inr ⟨hc, by rw [dA]; rfl⟩)), fun P w ts t => run_max_float w ts t .f64 A B A (.inr (.inr ⟨hc, by rw [dA]; rfl⟩)), ht'⟩
  · have hc : FloatKind.f64.format.order A B = some .gt := by
      rw [ho]; simp only [compare, compareOfLessAndEq]
      rw [if_neg (by omega), if_neg (by omega)]
    have hm0 : m ≠ 0 := by intro h0; subst h0; simp at h
    obtain ⟨t0, ht, gt⟩ := bd_quo_le _ _ _ _ _ _ hB hA hf he (by rw [e1, e2, Nat.pow_add, Nat.pow_add, ← Nat.mul_assoc, ← Nat.mul_assoc]; exact Nat.mul_le_mul_right _ (Nat.le_of_lt h)) hm0
    exact ⟨t0, B, A, true, by rw [hc]; rfl, ht, gt, fun P w ts t => run_min_float w ts t .f64 A B B (.inr (.inl ⟨hc, rfl⟩)), fun P w ts t => run_max_float w ts t .f64 A B A (.inr (.inl ⟨hc, rfl⟩)), ht⟩

end Go.Proofs.Ytbggklhnnjikjaa
