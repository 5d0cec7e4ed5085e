/- Contracts of IsSubnormal and FlushNumber. Every 32-bit number. -/
import Derived.Test.YtjcjijfemedojaaGreatDoorBits
import Derived.Laws.BitsAllLaws
namespace Go.Proofs.YtjcjijfemedojaaGreatDoor
open Go.RowKit Fl

theorem i64_and_nat (a b : Nat) (ha : a < 9223372036854775808) (hb : b < 9223372036854775808) : bits .and .i64 (a : Int) (b : Int) = ((a &&& b : Nat) : Int) := by
  have hx : a &&& b < 2 ^ 63 := Nat.and_lt_two_pow _ (by omega)
  show IntKind.i64.wrap ((BitVec.ofInt 64 (a : Int) &&& BitVec.ofInt 64 (b : Int)).toNat : Int) = _
  rw [BitVec.toNat_and, ofInt_u64 a (by omega), ofInt_u64 b (by omega)]
  exact IntWalk.i64_in _ (by omega)

/-- the exponent's bits -/
theorem and_exp (a : Nat) : a &&& 2139095040 = a / 2 ^ 23 % 256 * 2 ^ 23 := by
  have h1 : (a &&& 2139095040) / 2 ^ 23 = a / 2 ^ 23 % 256 := by
    rw [Nat.and_div_two_pow]; exact Nat.and_two_pow_sub_one_eq_mod _ 8
  have h2 : (a &&& 2139095040) % 2 ^ 23 = 0 := by
    rw [Nat.and_mod_two_pow]; exact Nat.and_zero _
  have h3 := Nat.div_add_mod (a &&& 2139095040) (2 ^ 23)
  rw [h1, h2] at h3
  omega
theorem and_sign (a : Nat) : a &&& 2147483648 = a / 2 ^ 31 % 2 * 2 ^ 31 := by
  have h1 : (a &&& 2147483648) / 2 ^ 31 = a / 2 ^ 31 % 2 := by
    rw [Nat.and_div_two_pow]; exact Nat.and_two_pow_sub_one_eq_mod _ 1
  have h2 : (a &&& 2147483648) % 2 ^ 31 = 0 := by
    rw [Nat.and_mod_two_pow]; exact Nat.and_zero _
  have h3 := Nat.div_add_mod (a &&& 2147483648) (2 ^ 31)
  rw [h1, h2] at h3
  omega

/-- the word's rung lies in the lowest binade: a zero or a subnormal number -/
def low32 (a : Nat) : Bool := decide (a % 2 ^ 31 < 2 ^ 23)
def zer32 (a : Nat) : Bool := decide (a % 2 ^ 31 = 0)
def sub32 (a : Nat) : Bool := !zer32 a && low32 a

theorem sw32 : Ieee.single.signWeight = 2 ^ 31 := by decide
theorem bin32 : Ieee.single.binade = 2 ^ 23 := by decide
theorem inf32r : Ieee.single.infRung = 2139095040 := by decide

theorem nan32_iff (a : Nat) : nan32 a = decide (2139095040 < a % 2 ^ 31) := by
  unfold nan32 Ieee.Format.read
  simp only [sw32, bin32, inf32r]
  by_cases h1 : a % 2 ^ 31 < 2 ^ 23
  · rw [if_pos h1]; simp [Ieee.Datum.isNaN]; omega
  · rw [if_neg h1]
    by_cases h2 : a % 2 ^ 31 < 2139095040
    · rw [if_pos h2]; simp [Ieee.Datum.isNaN]; omega
    · rw [if_neg h2]
      by_cases h3 : a % 2 ^ 31 = 2139095040
      · rw [if_pos h3]; simp [Ieee.Datum.isNaN]; omega
      · rw [if_neg h3]; simp [Ieee.Datum.isNaN]; omega

theorem and_bits (a : Nat) (ha : a < 4294967296) : (bits .and .i64 (bitsOf a) 2139095040 == 0) = low32 a := by
  unfold bitsOf low32
  rw [nan32_iff]
  by_cases h : 2139095040 < a % 2 ^ 31
  · simp only [h, decide_true, if_true]
    have : bits .and .i64 2143289344 2139095040 = 2139095040 := by decide
    rw [this]
    have h2 : ¬ (a % 2 ^ 31 < 2 ^ 23) := by omega
    simp [h2]
  · simp only [h, decide_false, Bool.false_eq_true, if_false]
    have := i64_and_nat a 2139095040 (by omega) (by omega)
    rw [show (2139095040 : Int) = ((2139095040 : Nat) : Int) from rfl, this, and_exp]
    rw [Bool.eq_iff_iff]
    simp only [beq_iff_eq, decide_eq_true_eq]
    omega

theorem order_zero32 (a : Nat) : (FloatKind.f32.format.order a 0 == some .eq) = zer32 a := by
  have h0 : Ieee.single.read 0 = .number false 0 (-149) := by decide
  show (Ieee.single.order a 0 == some .eq) = zer32 a
  unfold Ieee.Format.order zer32
  rw [h0]
  unfold Ieee.Format.read
  simp only [sw32, bin32, inf32r, lp32]
  have key : ∀ (s : Bool) (m : Nat) (e : Int), -149 ≤ e → (Ieee.Datum.order (.number s m e) (.number false 0 (-149)) == some .eq) = decide (m = 0) := by
    intro s m e he
    simp only [Ieee.Datum.order]
    have h1 : Ieee.signed false 0 (-149 - min e (-149)).toNat = 0 := by simp [Ieee.signed]
    rw [h1, Bool.eq_iff_iff]
    simp only [beq_iff_eq, Option.some.injEq, decide_eq_true_eq]
    have hp := Nat.two_pow_pos (e - min e (-149)).toNat
    constructor
    · intro h
      have h2 := Std.LawfulEqCmp.eq_of_compare h
      unfold Ieee.signed at h2
      rw [shl_eq] at h2
      have : m * 2 ^ (e - min e (-149)).toNat = 0 := by
        cases s
        · simp only [Bool.false_eq_true, if_false] at h2; exact Int.ofNat_eq_zero.1 h2
        · simp only [if_true] at h2; have h4 := Int.neg_eq_zero.1 h2; exact Int.ofNat_eq_zero.1 h4
      rcases Nat.mul_eq_zero.1 this with h | h <;> omega
    · intro h
      subst h
      have : Ieee.signed s 0 (e - min e (-149)).toNat = 0 := by cases s <;> simp [Ieee.signed]
      rw [this]; rfl
  by_cases h1 : a % 2 ^ 31 < 2 ^ 23
  · rw [if_pos h1, key _ _ _ (by omega)]
  · rw [if_neg h1]
    by_cases h2 : a % 2 ^ 31 < 2139095040
    · rw [if_pos h2, key _ _ _ (by omega), Bool.eq_iff_iff]
      simp only [decide_eq_true_eq]; omega
    · rw [if_neg h2]
      by_cases h3 : a % 2 ^ 31 = 2139095040
      · rw [if_pos h3]; simp only [Ieee.Datum.order]; rw [Bool.eq_iff_iff]
        cases (a / 2 ^ 31 % 2 == 1) <;> simp <;> omega
      · rw [if_neg h3]; simp only [Ieee.Datum.order]; rw [Bool.eq_iff_iff]; simp; omega

theorem read_min64 : Ieee.double.read 4039728865751334912 = .number false (2 ^ 52) (-178) := by decide

theorem cmp_lt (a b : Int) : (some (compare a b) == some Ordering.lt) = decide (a < b) := by
  rw [Bool.eq_iff_iff]
  simp only [beq_iff_eq, Option.some.injEq, decide_eq_true_eq, compare, compareOfLessAndEq]
  split
  · simp; assumption
  · split <;> simp <;> omega

/-- below the least normal number -/
theorem abs_lt_min (a : Nat) (hn : nan32 a = false) : (FloatKind.f64.format.order (wide a % 2 ^ 63) 4039728865751334912 == some .lt) = low32 a := by
  show (Ieee.double.order (wide a % 2 ^ 63) 4039728865751334912 == some .lt) = low32 a
  unfold Ieee.Format.order
  rw [read_abs, read_min64]
  obtain ⟨N, hN⟩ : ∃ N, N = 948 := ⟨_, rfl⟩
  have hlow : low32 a = match Ieee.single.read a with | .number _ m e => decide (m <<< (e + 1074).toNat < 2 ^ N) | _ => false := by
    unfold low32 Ieee.Format.read
    simp only [sw32, bin32, inf32r, lp32]
    by_cases h1 : a % 2 ^ 31 < 2 ^ 23
    · rw [if_pos h1, decide_eq_true h1]
      symm
      show decide _ = true
      rw [decide_eq_true_eq, shl_eq]
      have hk : ∃ k, (-149 + 1074 : Int).toNat = k ∧ N = 23 + k := ⟨925, by decide, hN⟩
      obtain ⟨k, hk1, hk2⟩ := hk
      rw [hk1, hk2, Nat.pow_add]
      exact Nat.mul_lt_mul_of_pos_right h1 (Nat.two_pow_pos _)
    · rw [if_neg h1, decide_eq_false h1]
      by_cases h2 : a % 2 ^ 31 < 2139095040
      · rw [if_pos h2]
        symm
        show decide _ = false
        rw [decide_eq_false_iff_not, shl_eq, Nat.not_lt]
        have hk : ∃ k, k ≤ (-149 + ((a % 2 ^ 31 / 2 ^ 23 - 1 : Nat) : Int) + 1074).toNat ∧ N = 23 + k := ⟨925, by omega, hN⟩
        obtain ⟨k, hk1, hk2⟩ := hk
        rw [hk2, Nat.pow_add]
        exact Nat.mul_le_mul (Nat.le_add_right _ _) (Nat.pow_le_pow_right (by decide) hk1)
      · rw [if_neg h2]
        by_cases h3 : a % 2 ^ 31 = 2139095040
        · rw [if_pos h3]
        · rw [if_neg h3]
  rw [hlow]
  cases hx : Ieee.single.read a with
  | nan s t => simp [nan32, hx, Ieee.Datum.isNaN] at hn
  | infinity s => rw [read_wide_inf a s hx]; simp [Ieee.Datum.order]
  | number s m e =>
    obtain ⟨m', e', h1, h2, h3⟩ := read_wide_number a s m e hx
    rw [h1]
    simp only [Ieee.Datum.order, cmp_lt]
    rw [Bool.eq_iff_iff, decide_eq_true_eq, decide_eq_true_eq, ← h3]
    simp only [Ieee.signed, Bool.false_eq_true, if_false, shl_eq]
    rw [Int.ofNat_lt]
    have ey : (e' + 1074).toNat = (e' - min e' (-178)).toNat + (min e' (-178) + 1074).toNat := by omega
    have e9 : N = 52 + (-178 - min e' (-178)).toNat + (min e' (-178) + 1074).toNat := by omega
    have ep : (2 : Nat) ^ N = 2 ^ (52 + (-178 - min e' (-178)).toNat + (min e' (-178) + 1074).toNat) := congrArg (fun n => 2 ^ n) e9
    rw [ep, ey, Nat.pow_add 2 _ (min e' (-178) + 1074).toNat, Nat.pow_add 2 _ (min e' (-178) + 1074).toNat, ← Nat.mul_assoc, Nat.pow_add 2 52]
    constructor
    · intro h; exact Nat.mul_lt_mul_of_pos_right h (Nat.two_pow_pos _)
    · intro h; exact Nat.lt_of_mul_lt_mul_right h


theorem neg_read32 (a : Nat) (ha : a < 4294967296) (s : Bool) (m : Nat) (e : Int) (h : Ieee.single.read a = .number s m e) : s = decide (2 ^ 31 ≤ a) := by
  unfold Ieee.Format.read at h
  simp only [sw32, bin32, inf32r] at h
  have hs : (a / 2 ^ 31 % 2 == 1) = decide (2 ^ 31 ≤ a) := by
    rw [Bool.eq_iff_iff]; simp only [beq_iff_eq, decide_eq_true_eq]; omega
  rw [hs] at h
  by_cases h1 : a % 2 ^ 31 < 2 ^ 23
  · rw [if_pos h1] at h; injection h with h; exact h.symm
  · rw [if_neg h1] at h
    by_cases h2 : a % 2 ^ 31 < 2139095040
    · rw [if_pos h2] at h; injection h with h; exact h.symm
    · rw [if_neg h2] at h
      by_cases h3 : a % 2 ^ 31 = 2139095040
      · rw [if_pos h3] at h; cases h
      · rw [if_neg h3] at h; cases h

/-- the sign's bit of what widening gives -/
theorem wide_sign (a : Nat) (_ha : a < 4294967296) (hl : low32 a = true) : wide a / 2 ^ 63 % 2 = a / 2 ^ 31 % 2 := by
  have hl' : a % 2 ^ 31 < 2 ^ 23 := by simpa [low32] using hl
  have hr : Ieee.single.read a = .number (a / 2 ^ 31 % 2 == 1) (a % 2 ^ 31) (-149) := by
    unfold Ieee.Format.read
    simp only [sw32, bin32, lp32]
    rw [if_pos hl']
  obtain ⟨m', e', h1, h2, h3⟩ := read_wide_number a _ _ _ hr
  have e1 : Ieee.double.signWeight = 2 ^ 63 := by decide
  unfold Ieee.Format.read at h1
  simp only [e1] at h1
  have hs : (wide a / 2 ^ 63 % 2 == 1) = (a / 2 ^ 31 % 2 == 1) := by
    split at h1
    · injection h1
    · split at h1
      · injection h1
      · split at h1 <;> cases h1
  have hb1 : wide a / 2 ^ 63 % 2 < 2 := Nat.mod_lt _ (by decide)
  have hb2 : a / 2 ^ 31 % 2 < 2 := Nat.mod_lt _ (by decide)
  rw [Bool.eq_iff_iff] at hs
  simp only [beq_iff_eq] at hs
  omega

/-- FlushNumber -/
def flush32 (a : Nat) : Nat := if low32 a then a / 2 ^ 31 % 2 * 2 ^ 31 else a


theorem narrow_zero (s : Nat) (hs : s < 2) : floatToFloatBits .f64 (s * 2 ^ 63) .f32 = some (s * 2 ^ 31) := by
  have : s = 0 ∨ s = 1 := by omega
  rcases this with rfl | rfl <;> decide


end Go.Proofs.YtjcjijfemedojaaGreatDoor
