/- Positive normal words of 64 bits: their sums, differences, products and quotients by natural numbers alone, so that the kernel works them out fast. -/
import Derived.Test.YtpocclcijkopnaaFl
namespace Go.Proofs.Ytpocclcijkopnaa
open Go.RowKit Fl
open Ieee (Datum Toward)

/-- the word of a positive normal number of a middle size -/
def mid (x : Nat) : Bool := Nat.ble (900 * 4503599627370496) x && Nat.ble (x + 1) (1150 * 4503599627370496)
def sg (x : Nat) : Nat := Nat.add 4503599627370496 (Nat.mod x 4503599627370496)
def xp (x : Nat) : Nat := Nat.div x 4503599627370496
theorem mid_bounds {x : Nat} (h : mid x = true) : 900 ≤ xp x ∧ xp x < 1150 ∧ x = xp x * 4503599627370496 + (sg x - 4503599627370496) ∧ 4503599627370496 ≤ sg x ∧ sg x < 9007199254740992 := by
  unfold mid at h
  simp only [Bool.and_eq_true, Nat.ble_eq] at h
  unfold sg xp
  show 900 ≤ x / 4503599627370496 ∧ x / 4503599627370496 < 1150 ∧ x = x / 4503599627370496 * 4503599627370496 + (4503599627370496 + x % 4503599627370496 - 4503599627370496) ∧ 4503599627370496 ≤ 4503599627370496 + x % 4503599627370496 ∧ 4503599627370496 + x % 4503599627370496 < 9007199254740992
  omega
theorem read_mid {x : Nat} (h : mid x = true) : Ieee.double.read x = .number false (sg x) ((xp x : Int) - 1075) := by
  unfold mid at h
  simp only [Bool.and_eq_true, Nat.ble_eq] at h
  have e1 : Ieee.double.signWeight = 9223372036854775808 := by decide
  have e2 : Ieee.double.binade = 4503599627370496 := by decide
  have e3 : Ieee.double.infRung = 9218868437227405312 := by decide
  unfold Ieee.Format.read
  rw [e1, e2, e3, lp64]
  have k1 : x % 9223372036854775808 = x := by omega
  have k2 : x / 9223372036854775808 = 0 := by omega
  rw [k1, k2]
  dsimp only
  rw [if_neg (by omega), if_pos (by omega)]
  have : 1 ≤ x / 4503599627370496 := by omega
  show Datum.number false (4503599627370496 + x % 4503599627370496) _ = _
  unfold sg xp
  show _ = Datum.number false (4503599627370496 + x % 4503599627370496) ((x / 4503599627370496 : Nat) - 1075)
  congr 1
  omega
def roundW (n drop : Nat) : Nat :=
  let gap := Nat.pow 2 drop
  let low := Nat.div n gap
  let rest := Nat.mul 2 (Nat.mod n gap)
  Nat.add low (cond (Nat.ble rest gap) (cond (Nat.beq rest gap) (Nat.mod low 2) 0) 1)
theorem log2_ge (n k : Nat) (h : 2 ^ k ≤ n) : k ≤ n.log2 := by
  rcases Nat.lt_or_ge n.log2 k with hlt | hge
  · have h1 := lt_two_log n
    have h2 : 2 ^ (n.log2 + 1) ≤ 2 ^ k := Nat.pow_le_pow_right (by decide) (by omega)
    omega
  · exact hge
theorem cut_round (n drop : Nat) (h : drop ≤ n.log2 + 2) : Toward.even.cut false n drop = roundW n drop := by
  unfold Toward.cut roundW
  dsimp only
  rw [Nat.min_eq_left h, Nat.shiftLeft_eq, Nat.one_mul]
  show n / 2 ^ drop + _ = n / 2 ^ drop + cond (Nat.ble (2 * (n % 2 ^ drop)) (2 ^ drop)) (cond (Nat.beq (2 * (n % 2 ^ drop)) (2 ^ drop)) (n / 2 ^ drop % 2) 0) 1
  congr 1
  generalize 2 ^ drop = g
  generalize 2 * (n % g) = r
  generalize n / g = q
  have hq : q % 2 = 0 ∨ q % 2 = 1 := by omega
  rcases Nat.lt_trichotomy r g with h1 | h1 | h1
  · have b1 : Nat.ble r g = true := by rw [Nat.ble_eq]; omega
    have b2 : Nat.beq r g = false := by
      cases h : Nat.beq r g
      · rfl
      · exact absurd (Nat.eq_of_beq_eq_true h) (by omega)
    rw [b1, b2]
    have k1 : decide (g < r) = false := by simp; omega
    have k2 : (g == r) = false := by simp; omega
    simp [k1, k2]
  · subst h1
    have b1 : Nat.ble r r = true := by simp
    have b2 : Nat.beq r r = true := by simp
    rw [b1, b2]
    rcases hq with h2 | h2 <;> simp [h2]
  · have b1 : Nat.ble r g = false := by rw [← Bool.not_eq_true, Nat.ble_eq]; omega
    rw [b1]
    have : decide (g < r) = true := by simp; omega
    simp [this]
theorem log2_le (n k : Nat) (h : n < 2 ^ (k + 1)) : n.log2 ≤ k := by
  rcases Nat.lt_or_ge k n.log2 with h5 | h5
  · by_cases h0 : n = 0
    · subst h0; simp at h5
    · have h1 := two_log_le n h0
      have h2 : 2 ^ (k + 1) ≤ 2 ^ n.log2 := Nat.pow_le_pow_right (by decide) h5
      omega
  · exact h5
/-- the logarithm by halves -/
def lg1 (m : Nat) : Nat := cond (Nat.ble 2 m) 1 0
def lg2 (m : Nat) : Nat := cond (Nat.ble 4 m) (Nat.add 2 (lg1 (Nat.div m 4))) (lg1 m)
def lg3 (m : Nat) : Nat := cond (Nat.ble 16 m) (Nat.add 4 (lg2 (Nat.div m 16))) (lg2 m)
def lg4 (m : Nat) : Nat := cond (Nat.ble 256 m) (Nat.add 8 (lg3 (Nat.div m 256))) (lg3 m)
def lg5 (m : Nat) : Nat := cond (Nat.ble 65536 m) (Nat.add 16 (lg4 (Nat.div m 65536))) (lg4 m)
def lg6 (m : Nat) : Nat := cond (Nat.ble 4294967296 m) (Nat.add 32 (lg5 (Nat.div m 4294967296))) (lg5 m)
def lg7 (m : Nat) : Nat := cond (Nat.ble 18446744073709551616 m) (Nat.add 64 (lg6 (Nat.div m 18446744073709551616))) (lg6 m)
def lg8 (m : Nat) : Nat := cond (Nat.ble (Nat.pow 2 128) m) (Nat.add 128 (lg7 (Nat.div m (Nat.pow 2 128)))) (lg7 m)
def lg9 (m : Nat) : Nat := cond (Nat.ble (Nat.pow 2 256) m) (Nat.add 256 (lg8 (Nat.div m (Nat.pow 2 256)))) (lg8 m)
def LgOk (k : Nat) (f : Nat → Nat) : Prop := ∀ m, m ≠ 0 → m < 2 ^ k → f m = m.log2
theorem lg_step (k : Nat) (f : Nat → Nat) (hf : LgOk k f) : LgOk (k + k) (fun m => cond (Nat.ble (2 ^ k) m) (Nat.add k (f (Nat.div m (2 ^ k)))) (f m)) := by
  intro m hm hlt
  by_cases h : 2 ^ k ≤ m
  · have hb : Nat.ble (2 ^ k) m = true := by rw [Nat.ble_eq]; exact h
    have hp := Nat.two_pow_pos k
    have hq1 : m / 2 ^ k ≠ 0 := by
      have := (Nat.le_div_iff_mul_le hp).2 (show 1 * 2 ^ k ≤ m by omega)
      omega
    have hq2 : m / 2 ^ k < 2 ^ k := by rw [Nat.div_lt_iff_lt_mul hp, ← Nat.pow_add]; exact hlt
    have e1 := hf (m / 2 ^ k) hq1 hq2
    show cond (Nat.ble (2 ^ k) m) (k + f (m / 2 ^ k)) (f m) = _
    rw [hb, cond_true, e1]
    have a1 := two_log_le (m / 2 ^ k) hq1
    have a2 := lt_two_log (m / 2 ^ k)
    have b1 : 2 ^ (k + (m / 2 ^ k).log2) ≤ m := by
      rw [Nat.pow_add, Nat.mul_comm]
      exact Nat.le_trans (Nat.mul_le_mul_right _ a1) (Nat.div_mul_le_self m (2 ^ k))
    have b2 : m < 2 ^ (k + (m / 2 ^ k).log2 + 1) := by
      rw [Nat.add_assoc, Nat.pow_add, Nat.mul_comm]
      exact (Nat.div_lt_iff_lt_mul hp).1 a2
    have c1 := log2_le m _ b2
    have c2 : k + (m / 2 ^ k).log2 ≤ m.log2 := by
      rcases Nat.lt_or_ge m.log2 (k + (m / 2 ^ k).log2) with hlt | hge
      · have h1 := lt_two_log m
        have h2 : 2 ^ (m.log2 + 1) ≤ 2 ^ (k + (m / 2 ^ k).log2) := Nat.pow_le_pow_right (by decide) (by omega)
        omega
      · exact hge
    omega
  · have hb : Nat.ble (2 ^ k) m = false := by rw [← Bool.not_eq_true, Nat.ble_eq]; exact h
    show cond (Nat.ble (2 ^ k) m) _ (f m) = _
    rw [hb, cond_false]
    exact hf m hm (by omega)
theorem lg1_ok : LgOk 2 lg1 := by
  intro m hm h
  have : m = 1 ∨ m = 2 ∨ m = 3 := by omega
  rcases this with rfl | rfl | rfl <;> decide
theorem lg2_ok : LgOk 4 lg2 := lg_step 2 lg1 lg1_ok
theorem lg3_ok : LgOk 8 lg3 := lg_step 4 lg2 lg2_ok
theorem lg4_ok : LgOk 16 lg4 := lg_step 8 lg3 lg3_ok
theorem lg5_ok : LgOk 32 lg5 := lg_step 16 lg4 lg4_ok
theorem lg6_ok : LgOk 64 lg6 := lg_step 32 lg5 lg5_ok
theorem lg7_ok : LgOk 128 lg7 := lg_step 64 lg6 lg6_ok
theorem lg8_ok : LgOk 256 lg8 := lg_step 128 lg7 lg7_ok
theorem lg9_ok : LgOk 512 lg9 := lg_step 256 lg8 lg8_ok
/-- the word of m * 2 ^ (e - 4000) -/
def nrW (m e : Nat) : Nat :=
  Nat.add (Nat.mul (Nat.sub (Nat.add e (lg9 m)) 2978) 4503599627370496) (cond (Nat.ble (lg9 m) 52) (Nat.mul m (Nat.pow 2 (Nat.sub 52 (lg9 m)))) (roundW m (Nat.sub (lg9 m) 52)))
theorem round_le (n drop T : Nat) (h : n < T * 2 ^ drop) : roundW n drop ≤ T := by
  unfold roundW
  show n / 2 ^ drop + cond (Nat.ble (2 * (n % 2 ^ drop)) (2 ^ drop)) (cond (Nat.beq (2 * (n % 2 ^ drop)) (2 ^ drop)) (n / 2 ^ drop % 2) 0) 1 ≤ T
  have h1 : n / 2 ^ drop < T := (Nat.div_lt_iff_lt_mul (Nat.two_pow_pos _)).2 h
  have h2 : cond (Nat.ble (2 * (n % 2 ^ drop)) (2 ^ drop)) (cond (Nat.beq (2 * (n % 2 ^ drop)) (2 ^ drop)) (n / 2 ^ drop % 2) 0) 1 ≤ 1 := by
    cases Nat.ble (2 * (n % 2 ^ drop)) (2 ^ drop)
    · simp
    · cases Nat.beq (2 * (n % 2 ^ drop)) (2 ^ drop)
      · simp
      · simp only [cond_true]; omega
  omega
theorem lt_pow_of_log (m k : Nat) (h : m.log2 + 1 ≤ k) : m < 2 ^ k := Nat.lt_of_lt_of_le (lt_two_log m) (Nat.pow_le_pow_right (by decide) h)
theorem nrW_def (m e : Nat) (hm : m ≠ 0) (hb : m.log2 ≤ 511) : nrW m e = (e + m.log2 - 2978) * 4503599627370496 + cond (Nat.ble m.log2 52) (m * 2 ^ (52 - m.log2)) (roundW m (m.log2 - 52)) := by
  unfold nrW
  rw [lg9_ok m hm (lt_pow_of_log m 512 (by omega))]
  simp only [Nat.add_eq, Nat.mul_eq, Nat.sub_eq, Nat.pow_eq]
theorem near_small (m : Nat) (hle : m.log2 ≤ 52) : m * 2 ^ (52 - m.log2) ≤ 9007199254740992 := by
  have hlt := lt_two_log m
  have h3 : m * 2 ^ (52 - m.log2) < 2 ^ (m.log2 + 1) * 2 ^ (52 - m.log2) := Nat.mul_lt_mul_of_pos_right hlt (Nat.two_pow_pos _)
  rw [← Nat.pow_add, show m.log2 + 1 + (52 - m.log2) = 53 by omega] at h3
  have : (2 : Nat) ^ 53 = 9007199254740992 := by decide
  omega
theorem near_great (m : Nat) (hle : ¬ m.log2 ≤ 52) : roundW m (m.log2 - 52) ≤ 9007199254740992 := by
  refine round_le m (m.log2 - 52) 9007199254740992 ?_
  have hlt := lt_two_log m
  have e : (9007199254740992 : Nat) * 2 ^ (m.log2 - 52) = 2 ^ (m.log2 + 1) := by
    have : (9007199254740992 : Nat) = 2 ^ 53 := by decide
    rw [this, ← Nat.pow_add, show 53 + (m.log2 - 52) = m.log2 + 1 by omega]
  rw [e]
  exact hlt
theorem near_parts (m : Nat) (hm : m ≠ 0) (p : Int) (h1 : -1022 ≤ p + m.log2) : Ieee.double.nearest false m p =
    min ((p + m.log2 + 1022).toNat * 4503599627370496 + Toward.even.cut false (m <<< (52 - m.log2)) (m.log2 - 52)) 9218868437227405312 := by
  have e2 : Ieee.double.binade = 4503599627370496 := by decide
  have e3 : Ieee.double.infRung = 9218868437227405312 := by decide
  have e4 : Ieee.double.fractionBits = 52 := rfl
  unfold Ieee.Format.nearest
  rw [if_neg hm, e2, e3, e4, lp64]
  have hl : max (p + (m.log2 : Int) - ((52 : Nat) : Int)) (-1074) = p + m.log2 - 52 := by omega
  dsimp only
  rw [hl]
  unfold Ieee.Format.word
  rw [if_neg (by decide), show (p + (m.log2 : Int) - 52 - -1074).toNat = (p + m.log2 + 1022).toNat by omega, show (p - (p + (m.log2 : Int) - 52)).toNat = 52 - m.log2 by omega, show (p + (m.log2 : Int) - 52 - p).toNat = m.log2 - 52 by omega]
theorem nearest_nrW (m e : Nat) (hm : m ≠ 0) (hb : m.log2 ≤ 511) (h1 : 2979 ≤ e + m.log2) (h2 : e + m.log2 ≤ 5000) (p : Int) (hp : p = (e : Int) - 4000) : Ieee.double.nearest false m p = nrW m e := by
  subst hp
  rw [near_parts m hm _ (by omega), nrW_def m e hm hb, show ((e : Int) - 4000 + m.log2 + 1022).toNat = e + m.log2 - 2978 by omega]
  by_cases hle : m.log2 ≤ 52
  · have b : Nat.ble m.log2 52 = true := by rw [Nat.ble_eq]; exact hle
    have h3 := near_small m hle
    rw [b, show m.log2 - 52 = 0 by omega, cut_zero, Nat.shiftLeft_eq, cond_true]
    generalize m * 2 ^ (52 - m.log2) = q at h3
    omega
  · have b : Nat.ble m.log2 52 = false := by rw [← Bool.not_eq_true, Nat.ble_eq]; exact hle
    have h3 := near_great m hle
    rw [b, show 52 - m.log2 = 0 by omega, Nat.shiftLeft_zero, cut_round _ _ (by omega), cond_false]
    generalize roundW m (m.log2 - 52) = q at h3
    omega
theorem log2_sg {x : Nat} (h : mid x = true) : (sg x).log2 = 52 := by
  obtain ⟨_, _, _, h3, h4⟩ := mid_bounds h
  have h1 := log2_ge (sg x) 52 h3
  have h2 := two_log_le (sg x) (by omega)
  rcases Nat.lt_or_ge (sg x).log2 53 with h5 | h5
  · omega
  · have : 2 ^ 53 ≤ 2 ^ (sg x).log2 := Nat.pow_le_pow_right (by decide) h5
    have : (2 : Nat) ^ 53 = 9007199254740992 := by decide
    omega
def mulW (x y : Nat) : Option Nat := cond (mid x && mid y) (some (nrW (Nat.mul (sg x) (sg y)) (Nat.add (Nat.add (xp x) (xp y)) 1850))) none
theorem mulW_eq {x y r : Nat} (h : mulW x y = some r) : floatBits .mul .f64 x y = some r := by
  unfold mulW at h
  cases hc : (mid x && mid y)
  · rw [hc] at h; cases h
  · rw [hc] at h
    simp only [Bool.and_eq_true] at hc
    obtain ⟨hx, hy⟩ := hc
    obtain ⟨a1, a2, _, a3, a4⟩ := mid_bounds hx
    obtain ⟨b1, b2, _, b3, b4⟩ := mid_bounds hy
    obtain rfl := Option.some.inj h
    show ((Ieee.double.read x).product (Ieee.double.read y)).map Ieee.double.write = _
    rw [read_mid hx, read_mid hy]
    have hp1 : 2 ^ 104 ≤ sg x * sg y := by
      rw [show (2 : Nat) ^ 104 = 4503599627370496 * 4503599627370496 by decide]; exact Nat.mul_le_mul a3 b3
    have hp2 : sg x * sg y < 2 ^ (105 + 1) := by
      rw [show (2 : Nat) ^ (105 + 1) = 9007199254740992 * 9007199254740992 by decide]; exact Nat.mul_lt_mul'' a4 b4
    have l1 := log2_ge _ _ hp1
    have l2 := log2_le _ 105 hp2
    show some (Ieee.double.nearest false (sg x * sg y) _) = some (nrW (sg x * sg y) (xp x + xp y + 1850))
    rw [nearest_nrW (sg x * sg y) (xp x + xp y + 1850) (by have : 0 < (2 : Nat) ^ 104 := Nat.two_pow_pos _; omega) (by omega) (by omega) (by omega) _ (by omega)]
/-- the greater exponent's digits shifted -/
def upW (x k : Nat) : Nat := Nat.mul (sg x) (Nat.pow 2 (Nat.sub (xp x) k))
def lowK (x y : Nat) : Nat := cond (Nat.ble (xp x) (xp y)) (xp x) (xp y)
theorem lowK_eq (x y : Nat) : lowK x y = min (xp x) (xp y) := by
  unfold lowK
  by_cases h : xp x ≤ xp y
  · rw [show Nat.ble (xp x) (xp y) = true by rw [Nat.ble_eq]; exact h]; simp; omega
  · rw [show Nat.ble (xp x) (xp y) = false by rw [← Bool.not_eq_true, Nat.ble_eq]; exact h]; simp; omega
theorem up_bound {x : Nat} (h : mid x = true) (k : Nat) : 2 ^ 52 ≤ upW x k ∧ upW x k < 2 ^ (53 + (xp x - k)) := by
  obtain ⟨a1, a2, _, a3, a4⟩ := mid_bounds h
  unfold upW
  show 2 ^ 52 ≤ sg x * 2 ^ (xp x - k) ∧ sg x * 2 ^ (xp x - k) < 2 ^ (53 + (xp x - k))
  constructor
  · have := Nat.mul_le_mul a3 (Nat.one_le_two_pow (n := xp x - k))
    omega
  · rw [Nat.pow_add]
    exact Nat.mul_lt_mul_of_pos_right a4 (Nat.two_pow_pos _)
theorem signed_false (m k : Nat) : Ieee.signed false m k = ((m * 2 ^ k : Nat) : Int) := by unfold Ieee.signed; rw [Nat.shiftLeft_eq]; rfl
theorem signed_true (m k : Nat) : Ieee.signed true m k = -((m * 2 ^ k : Nat) : Int) := by unfold Ieee.signed; rw [Nat.shiftLeft_eq]; rfl
def addW (x y : Nat) : Option Nat := cond (mid x && mid y) (some (nrW (Nat.add (upW x (lowK x y)) (upW y (lowK x y))) (Nat.add (lowK x y) 2925))) none
theorem addW_eq {x y r : Nat} (h : addW x y = some r) : floatBits .add .f64 x y = some r := by
  unfold addW at h
  cases hc : (mid x && mid y)
  · rw [hc] at h; cases h
  · rw [hc] at h
    simp only [Bool.and_eq_true] at hc
    obtain ⟨hx, hy⟩ := hc
    obtain ⟨a1, a2, _, a3, a4⟩ := mid_bounds hx
    obtain ⟨b1, b2, _, b3, b4⟩ := mid_bounds hy
    obtain rfl := Option.some.inj h
    rw [lowK_eq]
    show ((Ieee.double.read x).sum (Ieee.double.read y)).map Ieee.double.write = _
    rw [read_mid hx, read_mid hy]
    generalize hk : min (xp x) (xp y) = k
    obtain ⟨u1, u2⟩ := up_bound hx k
    obtain ⟨v1, v2⟩ := up_bound hy k
    have ek : min ((xp x : Int) - 1075) ((xp y : Int) - 1075) = (k : Int) - 1075 := by omega
    have ht : Ieee.signed false (sg x) ((xp x : Int) - 1075 - ((k : Int) - 1075)).toNat + Ieee.signed false (sg y) ((xp y : Int) - 1075 - ((k : Int) - 1075)).toNat = ((upW x k + upW y k : Nat) : Int) := by
      rw [signed_false, signed_false, show ((xp x : Int) - 1075 - ((k : Int) - 1075)).toNat = xp x - k by omega, show ((xp y : Int) - 1075 - ((k : Int) - 1075)).toNat = xp y - k by omega]
      exact (Int.natCast_add _ _).symm
    have p52 : 0 < (2 : Nat) ^ 52 := Nat.two_pow_pos _
    show some (Ieee.double.write _) = some (nrW (upW x k + upW y k) (k + 2925))
    simp only [ek, ht]
    rw [if_neg (by omega)]
    have hneg : decide (((upW x k + upW y k : Nat) : Int) < 0) = false := by simp; omega
    rw [hneg, Int.natAbs_natCast]
    have l1 := log2_ge (upW x k + upW y k) 52 (by omega)
    obtain ⟨t, ht3⟩ : ∃ t : Nat, t = 303 := ⟨_, rfl⟩
    have l2 : (upW x k + upW y k).log2 ≤ t := by
      refine log2_le _ t ?_
      have w1 : 2 ^ (53 + (xp x - k)) ≤ 2 ^ t := Nat.pow_le_pow_right (by decide) (by omega)
      have w2 : 2 ^ (53 + (xp y - k)) ≤ 2 ^ t := Nat.pow_le_pow_right (by decide) (by omega)
      rw [Nat.pow_succ, Nat.mul_two]
      exact Nat.add_lt_add (Nat.lt_of_lt_of_le u2 w1) (Nat.lt_of_lt_of_le v2 w2)
    show some (Ieee.double.nearest false (upW x k + upW y k) ((k : Int) - 1075)) = _
    rw [nearest_nrW (upW x k + upW y k) (k + 2925) (by omega) (by omega) (by omega) (by omega) _ (by omega)]
end Go.Proofs.Ytpocclcijkopnaa
