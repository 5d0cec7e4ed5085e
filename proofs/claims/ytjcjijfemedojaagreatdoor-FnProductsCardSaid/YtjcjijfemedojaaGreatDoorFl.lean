/- Plain facts on floats, over the model's own Ieee words: what a word reads as, when a number is kept exactly, what widening gives. No condition. -/
import Derived.Laws.FloatArith
namespace Go.Proofs.YtjcjijfemedojaaGreatDoor
namespace Fl
open Ieee

theorem cmp_self (a : Int) : compare a a = Ordering.eq := by simp [compare, compareOfLessAndEq]

theorem order_self (f : Format) (x : Nat) : f.order x x = if (f.read x).isNaN then none else some .eq := by
  unfold Format.order
  cases h : f.read x with
  | number s m e => simp [Datum.order, Datum.isNaN]
  | infinity s => simp [Datum.order, Datum.isNaN]
  | nan s m => simp [Datum.order, Datum.isNaN]

theorem order_nan_left (f : Format) (x y : Nat) (h : (f.read x).isNaN = true) : f.order x y = none := by
  unfold Format.order
  cases hx : f.read x with
  | number s m e => simp [hx, Datum.isNaN] at h
  | infinity s => simp [hx, Datum.isNaN] at h
  | nan s m => cases hy : f.read y <;> simp [Datum.order]

theorem order_nan_right (f : Format) (x y : Nat) (h : (f.read y).isNaN = true) : f.order x y = none := by
  unfold Format.order
  cases hx : f.read y with
  | number s m e => simp [hx, Datum.isNaN] at h
  | infinity s => simp [hx, Datum.isNaN] at h
  | nan s m => cases hy : f.read x <;> simp [Datum.order]

theorem sw_pos (f : Format) : 0 < f.signWeight := Nat.two_pow_pos _
theorem bin_pos (f : Format) : 0 < f.binade := Nat.two_pow_pos _

theorem word_sign (f : Format) (neg : Bool) (r : Nat) (h : r < f.signWeight) : (f.word neg r / f.signWeight % 2 == 1) = neg := by
  unfold Format.word
  cases neg
  · simp [Nat.div_eq_of_lt h]
  · simp [Nat.add_div_left _ (sw_pos f), Nat.div_eq_of_lt h]

theorem word_rung (f : Format) (neg : Bool) (r : Nat) (h : r < f.signWeight) : f.word neg r % f.signWeight = r := by
  unfold Format.word
  cases neg
  · simp [Nat.mod_eq_of_lt h]
  · simp [Nat.mod_eq_of_lt h]

theorem read_word (f : Format) (neg : Bool) (r : Nat) (h : r < f.signWeight) : f.read (f.word neg r) =
    if r < f.binade then .number neg r f.leastPlace
    else if r < f.infRung then .number neg (f.binade + r % f.binade) (f.leastPlace + (r / f.binade - 1 : Nat))
    else if r = f.infRung then .infinity neg else .nan neg (r - f.infRung) := by
  unfold Format.read
  simp only [word_sign f neg r h, word_rung f neg r h]

theorem read_word_inf (f : Format) (neg : Bool) (hb : f.binade ≤ f.infRung) : f.read (f.word neg f.infRung) = .infinity neg := by
  rw [read_word f neg _ f.infRung_lt, if_neg (by omega), if_neg (by omega), if_pos rfl]

/-- every word below 2 ^ width is the word of its sign and its rung -/
theorem word_of (f : Format) (x : Nat) (h : x < 2 * f.signWeight) : x = f.word (x / f.signWeight % 2 == 1) (x % f.signWeight) := by
  have hs := sw_pos f
  unfold Format.word
  by_cases hx : x < f.signWeight
  · simp [Nat.div_eq_of_lt hx, Nat.mod_eq_of_lt hx]
  · have h1 : x / f.signWeight = 1 := by
      apply Nat.div_eq_of_lt_le <;> omega
    have h2 := Nat.div_add_mod x f.signWeight
    rw [h1] at h2 ⊢
    simp
    omega

theorem cut_zero (way : Toward) (neg : Bool) (n : Nat) : way.cut neg n 0 = n := by
  unfold Toward.cut
  have h1 : (1 : Nat) <<< min 0 (n.log2 + 2) = 1 := by simp
  have h2 : n % 1 = 0 := Nat.mod_one n
  simp only [h1, h2, Nat.div_one]
  cases way <;> simp

/-- the last place that is kept of 'm * 2 ^ p' -/
def lastPlace (f : Format) (m : Nat) (p : Int) : Int := max (p + m.log2 - f.fractionBits) f.leastPlace

theorem nearest_exact_word (f : Format) (neg : Bool) (m : Nat) (p : Int) (hm : m ≠ 0) (hL : m.log2 ≤ f.fractionBits) (hp : f.leastPlace ≤ p) :
    f.nearest neg m p = f.word neg (min ((lastPlace f m p - f.leastPlace).toNat * f.binade + m <<< (p - lastPlace f m p).toNat) f.infRung) := by
  have hl : lastPlace f m p ≤ p := by unfold lastPlace; omega
  unfold Format.nearest
  rw [if_neg hm]
  have e : (max (p + m.log2 - f.fractionBits) f.leastPlace - p).toNat = 0 := by
    have : (max (p + m.log2 - f.fractionBits) f.leastPlace) ≤ p := hl
    omega
  simp only [e, cut_zero]
  rfl

theorem shl_eq (m k : Nat) : m <<< k = m * 2 ^ k := Nat.shiftLeft_eq m k

theorem lt_two_log (m : Nat) : m < 2 ^ (m.log2 + 1) := Nat.lt_log2_self
theorem two_log_le (m : Nat) (h : m ≠ 0) : 2 ^ m.log2 ≤ m := Nat.log2_self_le h

/-- A number that the format has is kept: its word reads as the same number. -/
theorem read_nearest_exact (f : Format) (neg : Bool) (m : Nat) (p : Int) (hm : m ≠ 0) (hL : m.log2 ≤ f.fractionBits) (hp : f.leastPlace ≤ p)
    (hb : (p + m.log2 - f.fractionBits - f.leastPlace).toNat + 2 ≤ 2 ^ f.exponentBits - 1) :
    f.read (f.nearest neg m p) = .number neg (m <<< (p - lastPlace f m p).toNat) (lastPlace f m p) := by
  rw [nearest_exact_word f neg m p hm hL hp]
  have hl : lastPlace f m p ≤ p := by unfold lastPlace; omega
  have hl0 : f.leastPlace ≤ lastPlace f m p := by unfold lastPlace; omega
  have hq : (lastPlace f m p - f.leastPlace).toNat + 2 ≤ 2 ^ f.exponentBits - 1 := by
    have : lastPlace f m p - f.leastPlace = max (p + m.log2 - f.fractionBits - f.leastPlace) 0 := by unfold lastPlace; omega
    rw [this]; omega
  have hk : m <<< (p - lastPlace f m p).toNat < 2 * f.binade := by
    rw [shl_eq]
    have h1 := lt_two_log m
    have h2 : m.log2 + 1 + (p - lastPlace f m p).toNat ≤ f.fractionBits + 1 := by unfold lastPlace; omega
    calc m * 2 ^ (p - lastPlace f m p).toNat < 2 ^ (m.log2 + 1) * 2 ^ (p - lastPlace f m p).toNat := Nat.mul_lt_mul_of_pos_right h1 (Nat.two_pow_pos _)
      _ = 2 ^ (m.log2 + 1 + (p - lastPlace f m p).toNat) := (Nat.pow_add ..).symm
      _ ≤ 2 ^ (f.fractionBits + 1) := Nat.pow_le_pow_right (by decide) h2
      _ = 2 * f.binade := by unfold Format.binade; rw [Nat.pow_succ, Nat.mul_comm]
  have hk2 : (lastPlace f m p = f.leastPlace) ∨ f.binade ≤ m <<< (p - lastPlace f m p).toNat := by
    by_cases h : p + m.log2 - f.fractionBits ≤ f.leastPlace
    · left; unfold lastPlace; omega
    · right
      rw [shl_eq]
      have h1 := two_log_le m hm
      have h2 : m.log2 + (p - lastPlace f m p).toNat = f.fractionBits := by unfold lastPlace; omega
      calc f.binade = 2 ^ (m.log2 + (p - lastPlace f m p).toNat) := by rw [h2]; rfl
        _ = 2 ^ m.log2 * 2 ^ (p - lastPlace f m p).toNat := Nat.pow_add ..
        _ ≤ m * 2 ^ (p - lastPlace f m p).toNat := Nat.mul_le_mul_right _ h1
  generalize hK : m <<< (p - lastPlace f m p).toNat = K at *
  generalize hD : (lastPlace f m p - f.leastPlace).toNat = D at *
  have hlast : lastPlace f m p = f.leastPlace + (D : Int) := by omega
  have hrung : D * f.binade + K < f.infRung := by
    have h1 : D * f.binade + K < (D + 2) * f.binade := by rw [Nat.add_mul]; omega
    have h2 : (D + 2) * f.binade ≤ f.infRung := Nat.mul_le_mul_right _ hq
    omega
  rw [Nat.min_eq_left (by omega), read_word f neg _ (Nat.lt_trans hrung f.infRung_lt)]
  by_cases hs : D * f.binade + K < f.binade
  · rw [if_pos hs]
    have hD0 : D = 0 := by
      rcases Nat.eq_zero_or_pos D with h | h
      · exact h
      · have := Nat.mul_le_mul_right f.binade h; omega
    subst hD0
    simp at hs ⊢
    omega
  · rw [if_neg hs, if_pos hrung]
    have hKb : f.binade ≤ K := by
      rcases hk2 with h | h
      · have : D = 0 := by omega
        subst this; omega
      · exact h
    have e1 : (D * f.binade + K) % f.binade = K - f.binade := by
      rw [show D * f.binade + K = (K - f.binade) + (D + 1) * f.binade by rw [Nat.add_mul]; omega]
      rw [Nat.add_mul_mod_self_right, Nat.mod_eq_of_lt (by omega)]
    have e2 : (D * f.binade + K) / f.binade = D + 1 := by
      rw [show D * f.binade + K = (K - f.binade) + (D + 1) * f.binade by rw [Nat.add_mul]; omega]
      rw [Nat.add_mul_div_right _ _ (bin_pos f), Nat.div_eq_of_lt (by omega)]
      omega
    rw [e1, e2]
    congr 1 <;> omega

theorem read_nearest_zero (f : Format) (neg : Bool) (p : Int) : f.read (f.nearest neg 0 p) = .number neg 0 f.leastPlace := by
  unfold Format.nearest
  rw [if_pos rfl, read_word f neg 0 (sw_pos f), if_pos (bin_pos f)]

/-- what a word of either kind reads as, where it is a number -/
theorem read_number (f : Format) (he : 3 ≤ 2 ^ f.exponentBits) (x : Nat) (s : Bool) (m : Nat) (e : Int) (h : f.read x = .number s m e) :
    m.log2 ≤ f.fractionBits ∧ f.leastPlace ≤ e ∧ (e - f.leastPlace).toNat + 3 ≤ 2 ^ f.exponentBits ∧ m < 2 * f.binade := by
  have hb := bin_pos f
  unfold Format.read at h
  dsimp only at h
  generalize hr : x % f.signWeight = r at h
  have lg : ∀ k, k < 2 * f.binade → k.log2 ≤ f.fractionBits := by
    intro k hk
    rcases Nat.eq_zero_or_pos k with h0 | h0
    · subst h0; simp
    · have : k < 2 ^ (f.fractionBits + 1) := by rw [Nat.pow_succ, Nat.mul_comm]; exact hk
      have := (Nat.log2_lt (by omega)).2 this
      omega
  by_cases h1 : r < f.binade
  · rw [if_pos h1] at h
    injection h with _ h2 h3
    subst h2; subst h3
    exact ⟨lg _ (by omega), by omega, by omega, by omega⟩
  · rw [if_neg h1] at h
    by_cases h4 : r < f.infRung
    · rw [if_pos h4] at h
      injection h with _ h2 h3
      have hm := Nat.mod_lt r hb
      have hd : r / f.binade < 2 ^ f.exponentBits - 1 := (Nat.div_lt_iff_lt_mul hb).2 h4
      exact ⟨lg _ (by omega), by omega, by omega, by omega⟩
    · rw [if_neg h4] at h
      by_cases h5 : r = f.infRung
      · rw [if_pos h5] at h; cases h
      · rw [if_neg h5] at h; cases h

/-- WIDENING: a 32-bit number as a 64-bit one. -/
def wide (x : Nat) : Nat := Ieee.double.write (Ieee.single.read x)

theorem lp32 : Ieee.single.leastPlace = -149 := by decide
theorem lp64 : Ieee.double.leastPlace = -1074 := by decide

theorem read_wide_number (x : Nat) (s : Bool) (m : Nat) (e : Int) (h : Ieee.single.read x = .number s m e) :
    ∃ m' e', Ieee.double.read (wide x) = .number s m' e' ∧ (-1074 : Int) ≤ e' ∧ m' <<< (e' + 1074).toNat = m <<< (e + 1074).toNat := by
  obtain ⟨h1, h2, h3, h4⟩ := read_number _ (by decide) x s m e h
  rw [lp32] at h2 h3
  have h3' : (e - -149).toNat + 3 ≤ 256 := h3
  have h1' : m.log2 ≤ 23 := h1
  unfold wide
  rw [h]
  show ∃ m' e', Ieee.double.read (Ieee.double.nearest s m e) = .number s m' e' ∧ _
  by_cases hm : m = 0
  · subst hm
    refine ⟨0, _, read_nearest_zero _ _ _, by rw [lp64]; omega, by simp⟩
  · refine ⟨_, _, read_nearest_exact Ieee.double s m e hm (by show m.log2 ≤ 52; omega) (by rw [lp64]; omega) ?_, ?_, ?_⟩
    · rw [lp64]
      show (e + m.log2 - 52 - -1074).toNat + 2 ≤ 2 ^ 11 - 1
      omega
    · unfold lastPlace; rw [lp64]; omega
    · have hl : lastPlace Ieee.double m e ≤ e := by unfold lastPlace; rw [lp64]; show max (e + m.log2 - 52) (-1074) ≤ e; omega
      have hl2 : -1074 ≤ lastPlace Ieee.double m e := by unfold lastPlace; rw [lp64]; omega
      rw [← Nat.shiftLeft_add]
      congr 1
      omega

theorem read_wide_inf (x : Nat) (s : Bool) (h : Ieee.single.read x = .infinity s) : Ieee.double.read (wide x) = .infinity s := by
  unfold wide; rw [h]
  exact read_word_inf Ieee.double s (by decide)

/-- Is the word that of a not-a-number? -/
def nan32 (x : Nat) : Bool := (Ieee.single.read x).isNaN
def nan64 (x : Nat) : Bool := (Ieee.double.read x).isNaN

theorem wide_conv (x : Nat) (h : nan32 x = false) : floatToFloatBits .f32 x .f64 = some (wide x) := by
  unfold floatToFloatBits
  rw [if_neg (by decide)]
  show (match Ieee.single.read x with | .nan _ _ => none | .infinity s => some (Ieee.double.write (.infinity s)) | .number s m e => if (Ieee.double.read (Ieee.double.write (.number s m e))).isInfinity then none else some (Ieee.double.write (.number s m e))) = some (wide x)
  cases hx : Ieee.single.read x with
  | number s m e =>
    obtain ⟨m', e', h1, _, _⟩ := read_wide_number x s m e hx
    have hw : wide x = Ieee.double.write (.number s m e) := by unfold wide; rw [hx]
    simp only []
    rw [← hw, h1]
    simp [Datum.isInfinity]
  | infinity s => simp [wide, hx]
  | nan s t => simp [nan32, hx, Datum.isNaN] at h

theorem nan_wide (x : Nat) (h : nan32 x = false) : nan64 (wide x) = false := by
  unfold nan64
  cases hx : Ieee.single.read x with
  | number s m e => obtain ⟨m', e', h1, _, _⟩ := read_wide_number x s m e hx; simp [h1, Datum.isNaN]
  | infinity s => simp [read_wide_inf x s hx, Datum.isNaN]
  | nan s t => simp [nan32, hx, Datum.isNaN] at h

/-- the word without its sign -/
theorem read_abs (x : Nat) : Ieee.double.read (x % 2 ^ 63) = match Ieee.double.read x with
    | .number _ m e => .number false m e | .infinity _ => .infinity false | .nan _ t => .nan false t := by
  have e1 : Ieee.double.signWeight = 2 ^ 63 := by decide
  unfold Format.read
  simp only [e1]
  have h1 : x % 2 ^ 63 % 2 ^ 63 = x % 2 ^ 63 := by omega
  have h2 : (x % 2 ^ 63 / 2 ^ 63 % 2 == 1) = false := by
    have : x % 2 ^ 63 / 2 ^ 63 = 0 := by omega
    rw [this]; rfl
  rw [h1, h2]
  by_cases a : x % 2 ^ 63 < Ieee.double.binade
  · simp only [if_pos a]
  · by_cases b : x % 2 ^ 63 < Ieee.double.infRung
    · simp only [if_neg a, if_pos b]
    · by_cases c : x % 2 ^ 63 = Ieee.double.infRung
      · simp only [if_neg a, if_neg b, if_pos c]
      · simp only [if_neg a, if_neg b, if_neg c]

def inf64 (x : Nat) : Bool := (Ieee.double.read x).isInfinity
def inf32 (x : Nat) : Bool := (Ieee.single.read x).isInfinity
def fin32 (x : Nat) : Bool := !nan32 x && !inf32 x
def fin64 (x : Nat) : Bool := !nan64 x && !inf64 x

theorem fin32_number {x : Nat} (h : fin32 x = true) : ∃ s m e, Ieee.single.read x = .number s m e := by
  unfold fin32 nan32 inf32 at h
  cases hx : Ieee.single.read x with
  | number s m e => exact ⟨s, m, e, rfl⟩
  | infinity s => simp [hx, Datum.isInfinity] at h
  | nan s t => simp [hx, Datum.isNaN] at h

theorem fin64_number {x : Nat} (h : fin64 x = true) : ∃ s m e, Ieee.double.read x = .number s m e := by
  unfold fin64 nan64 inf64 at h
  cases hx : Ieee.double.read x with
  | number s m e => exact ⟨s, m, e, rfl⟩
  | infinity s => simp [hx, Datum.isInfinity] at h
  | nan s t => simp [hx, Datum.isNaN] at h

theorem inf_wide (x : Nat) (h : nan32 x = false) : inf64 (wide x) = inf32 x := by
  unfold inf64 inf32
  cases hx : Ieee.single.read x with
  | number s m e => obtain ⟨m', e', h1, _, _⟩ := read_wide_number x s m e hx; simp [h1, Datum.isInfinity]
  | infinity s => simp [read_wide_inf x s hx, Datum.isInfinity]
  | nan s t => simp [nan32, hx, Datum.isNaN] at h

theorem read_max64 : Ieee.double.read 9218868437227405311 = .number false (2 ^ 53 - 1) 971 := by decide

theorem abs_gt_max (x : Nat) : (Ieee.double.order (x % 2 ^ 63) 9218868437227405311 == some .gt) = inf64 x := by
  unfold Format.order inf64
  rw [read_abs, read_max64]
  cases hx : Ieee.double.read x with
  | infinity s => simp [Datum.order, Datum.isInfinity]
  | nan s t => simp [Datum.order, Datum.isInfinity]
  | number s m e =>
    obtain ⟨h1, h2, h3, h4⟩ := read_number _ (by decide) x s m e hx
    rw [lp64] at h2 h3
    have h3' : (e - -1074).toNat + 3 ≤ 2048 := h3
    have h4' : m < 2 ^ 53 := h4
    have key : signed false m (e - min e 971).toNat ≤ signed false (2 ^ 53 - 1) (971 - min e 971).toNat := by
      simp only [signed, Bool.false_eq_true, if_false, shl_eq]
      have e0 : (e - min e 971).toNat = 0 := by omega
      rw [e0]
      have : m * 2 ^ 0 ≤ (2 ^ 53 - 1) * 2 ^ (971 - min e 971).toNat := by
        rw [Nat.pow_zero, Nat.mul_one]
        exact Nat.le_trans (by omega) (Nat.le_mul_of_pos_right _ (Nat.two_pow_pos _))
      exact Int.ofNat_le.2 this
    simp only [Datum.order, Datum.isInfinity]
    have : compare (signed false m (e - min e 971).toNat) (signed false (2 ^ 53 - 1) (971 - min e 971).toNat) ≠ .gt := by
      simp only [compare, compareOfLessAndEq]
      split
      · simp
      · split
        · simp
        · omega
    generalize compare (signed false m (e - min e 971).toNat) (signed false (2 ^ 53 - 1) (971 - min e 971).toNat) = c at *
    cases c <;> simp_all

/-- a finite number less itself -/
theorem sub_self_fin (f : Format) (x : Nat) (s : Bool) (m : Nat) (e : Int) (h : f.read x = .number s m e) : f.sub x x = some (f.write (.number false 0 e)) := by
  unfold Format.sub
  rw [h]
  have e0 : (e - min e e).toNat = 0 := by omega
  simp only [Datum.opposite, Datum.sum, e0]
  have : signed s m 0 + signed (!s) m 0 = 0 := by cases s <;> simp [signed] <;> omega
  rw [this]
  simp only [if_true]
  have e2 : min e e = e := by omega
  cases s <;> simp [e2]

theorem sub_self_none (f : Format) (x : Nat) (h : (f.read x).isNaN = true ∨ (f.read x).isInfinity = true) : f.sub x x = none := by
  unfold Format.sub
  cases hx : f.read x with
  | number s m e => simp [hx, Datum.isNaN, Datum.isInfinity] at h
  | infinity s => cases s <;> rfl
  | nan s t => rfl

theorem order_zero_eq (a : Nat) (h : (Ieee.double.order a 0 == some .eq) = true) : ∃ s e, Ieee.double.read a = .number s 0 e := by
  unfold Format.order at h
  have h0 : Ieee.double.read 0 = .number false 0 (-1074) := by decide
  rw [h0] at h
  cases hx : Ieee.double.read a with
  | infinity s => cases s <;> simp [hx, Datum.order] at h
  | nan s t => simp [hx, Datum.order] at h
  | number s m e =>
    refine ⟨s, e, ?_⟩
    rw [hx] at h
    simp only [Datum.order] at h
    have h1 : signed false 0 (-1074 - min e (-1074)).toNat = 0 := by simp [signed]
    rw [h1] at h
    have h2 : signed s m (e - min e (-1074)).toNat = 0 := by
      have : compare (signed s m (e - min e (-1074)).toNat) 0 = .eq := by simpa using h
      exact Std.LawfulEqCmp.eq_of_compare this
    have h3 : m = 0 := by
      have hp := Nat.two_pow_pos (e - min e (-1074)).toNat
      unfold signed at h2
      rw [shl_eq] at h2
      have : m * 2 ^ (e - min e (-1074)).toNat = 0 := by
        cases s
        · simp only [Bool.false_eq_true, if_false] at h2; exact Int.ofNat_eq_zero.1 h2
        · simp only [if_true] at h2; have h4 := Int.neg_eq_zero.1 h2; exact Int.ofNat_eq_zero.1 h4
      rcases Nat.mul_eq_zero.1 this with h | h
      · exact h
      · omega
    rw [h3]

theorem one_over_zero (a : Nat) (h : (Ieee.double.order a 0 == some .eq) = true) : ∃ r, floatBits .quo .f64 4607182418800017408 a = some r := by
  obtain ⟨s, e, hx⟩ := order_zero_eq a h
  have h1 : Ieee.double.read 4607182418800017408 = .number false (2 ^ 52) (-52) := by decide
  have h2 : Ieee.double.div 4607182418800017408 a = some (Ieee.double.write (.infinity (false ^^ s))) := by
    unfold Format.div
    rw [hx, h1]
    rfl
  exact ⟨_, h2⟩

end Fl
end Go.Proofs.YtjcjijfemedojaaGreatDoor
