/- Signed normal words of 64 bits: their sums, differences, products and quotients by natural numbers alone, so that the kernel works them out fast. -/
import Derived.Test.YtpocclcijkopnaaFq
namespace Go.Proofs.Ytpocclcijkopnaa
open Go.RowKit Fl
open Ieee (Datum Toward)

def topBit : Nat := 9223372036854775808
theorem topBit_eq : topBit = 9223372036854775808 := rfl
/-- the word of a sign and a positive normal number's word -/
def withTop (x : Nat) : Nat := x + topBit
def wd (p : Bool × Nat) : Nat := cond p.1 (withTop p.2) p.2
theorem wd_true (x : Nat) : wd (true, x) = withTop x := by rw [wd.eq_1]; exact cond_true _ _
theorem wd_false (x : Nat) : wd (false, x) = x := rfl
theorem read_top (f : Ieee.Format) (x m : Nat) (e : Int) (h : x < f.signWeight) (hr : f.read x = .number false m e) : f.read (f.word true x) = .number true m e := by
  have h1 := read_word f true x h
  have h2 := read_word f false x h
  have h3 : f.word false x = x := rfl
  rw [h3, hr] at h2
  rw [h1]
  by_cases a : x < f.binade
  · rw [if_pos a] at h2 ⊢
    injection h2 with _ b c
    rw [b, c]
  · rw [if_neg a] at h2 ⊢
    by_cases a' : x < f.infRung
    · rw [if_pos a'] at h2 ⊢
      injection h2 with _ b c
      rw [b, c]
    · rw [if_neg a'] at h2
      by_cases a'' : x = f.infRung
      · rw [if_pos a''] at h2; cases h2
      · rw [if_neg a''] at h2; cases h2
theorem top_weight : Ieee.double.signWeight = topBit := by decide
theorem read_wd (s : Bool) {x : Nat} (h : mid x = true) : Ieee.double.read (wd (s, x)) = .number s (sg x) ((xp x : Int) - 1075) := by
  cases s
  · exact read_mid h
  · have hx : x < Ieee.double.signWeight := by
      unfold mid at h
      simp only [Bool.and_eq_true, Nat.ble_eq] at h
      rw [top_weight, topBit_eq]
      omega
    have hw : wd (true, x) = Ieee.double.word true x := by
      rw [wd_true]; unfold withTop Ieee.Format.word; rw [if_pos rfl, top_weight]; exact Nat.add_comm _ _
    rw [hw]
    exact read_top _ x _ _ hx (read_mid h)
theorem cut_even (n d : Nat) : Toward.even.cut true n d = Toward.even.cut false n d := rfl
theorem near_sign (m : Nat) (p : Int) : Ieee.double.nearest true m p = withTop (Ieee.double.nearest false m p) := by
  have e1 : Ieee.double.signWeight = topBit := by decide
  unfold withTop Ieee.Format.nearest Ieee.Format.word
  rw [e1]
  by_cases hm : m = 0
  · rw [if_pos hm, if_pos hm, if_pos rfl, if_neg (by decide)]; exact Nat.add_comm _ _
  · rw [if_neg hm, if_neg hm]
    dsimp only
    rw [cut_even, if_pos rfl, if_neg (by decide)]; exact Nat.add_comm _ _
theorem near_wd (σ : Bool) (m e : Nat) (hm : m ≠ 0) (hb : m.log2 ≤ 511) (h1 : 2979 ≤ e + m.log2) (h2 : e + m.log2 ≤ 5000) (p : Int) (hp : p = (e : Int) - 4000) : Ieee.double.nearest σ m p = wd (σ, nrW m e) := by
  cases σ
  · exact nearest_nrW m e hm hb h1 h2 p hp
  · rw [near_sign, nearest_nrW m e hm hb h1 h2 p hp, wd_true]
theorem sum_close (s t σ : Bool) (T : Int) (M e : Nat) (p : Int) (hT : T = cond σ (-(M : Int)) (M : Int)) (hM : M ≠ 0) (h1 : M.log2 ≤ 500) (he : 2979 ≤ e) (h2 : e ≤ 4400) (hp : p = (e : Int) - 4000) :
    Ieee.double.write (.number (if T = 0 then s && t else decide (T < 0)) T.natAbs p) = wd (σ, nrW M e) := by
  have hz : T ≠ 0 := by
    rw [hT]; cases σ
    · show (M : Int) ≠ 0; omega
    · show -(M : Int) ≠ 0; omega
  have ha : T.natAbs = M := by
    rw [hT]; cases σ
    · show ((M : Int)).natAbs = M; omega
    · show (-(M : Int)).natAbs = M; omega
  have hs : decide (T < 0) = σ := by
    rw [hT]; cases σ
    · show decide ((M : Int) < 0) = false; exact decide_eq_false (by omega)
    · show decide (-(M : Int) < 0) = true; exact decide_eq_true (by omega)
  rw [if_neg hz, ha, hs]
  exact near_wd σ M e hM (by omega) (by omega) (by omega) p hp

def mulS (p q : Bool × Nat) : Option (Bool × Nat) := cond (mid p.2 && mid q.2) (some (xor p.1 q.1, nrW (Nat.mul (sg p.2) (sg q.2)) (Nat.add (Nat.add (xp p.2) (xp q.2)) 1850))) none
theorem mulS_eq {p q r : Bool × Nat} (h : mulS p q = some r) : floatBits .mul .f64 (wd p) (wd q) = some (wd r) := by
  obtain ⟨s, x⟩ := p
  obtain ⟨t, y⟩ := q
  unfold mulS at h
  dsimp only at h
  cases hc : (mid x && mid y)
  · rw [hc] at h; cases h
  · rw [hc] at h
    simp only [Bool.and_eq_true] at hc
    obtain ⟨hx, hy⟩ := hc
    obtain ⟨a1, a2, _, a3, a4⟩ := mid_bounds hx
    obtain ⟨b1, b2, _, b3, b4⟩ := mid_bounds hy
    obtain rfl := Option.some.inj h
    show ((Ieee.double.read _).product (Ieee.double.read _)).map Ieee.double.write = _
    rw [read_wd s hx, read_wd t hy]
    have hp1 : 2 ^ 104 ≤ sg x * sg y := by
      rw [show (2 : Nat) ^ 104 = 4503599627370496 * 4503599627370496 by decide]; exact Nat.mul_le_mul a3 b3
    have hp2 : sg x * sg y < 2 ^ (105 + 1) := by
      rw [show (2 : Nat) ^ (105 + 1) = 9007199254740992 * 9007199254740992 by decide]; exact Nat.mul_lt_mul'' a4 b4
    have l1 := log2_ge _ _ hp1
    have l2 := log2_le _ 105 hp2
    show some (Ieee.double.nearest (xor s t) (sg x * sg y) _) = some (wd (xor s t, nrW (sg x * sg y) (xp x + xp y + 1850)))
    rw [near_wd (xor s t) (sg x * sg y) (xp x + xp y + 1850) (by have : 0 < (2 : Nat) ^ 104 := Nat.two_pow_pos _; omega) (by omega) (by omega) (by omega) _ (by omega)]
def addS (p q : Bool × Nat) : Option (Bool × Nat) :=
  cond (mid p.2 && mid q.2)
    (cond (xor p.1 q.1)
      (cond (Nat.ble (upW p.2 (lowK p.2 q.2)) (upW q.2 (lowK p.2 q.2)))
        (cond (Nat.ble (upW q.2 (lowK p.2 q.2)) (upW p.2 (lowK p.2 q.2))) none (some (q.1, nrW (Nat.sub (upW q.2 (lowK p.2 q.2)) (upW p.2 (lowK p.2 q.2))) (Nat.add (lowK p.2 q.2) 2925))))
        (some (p.1, nrW (Nat.sub (upW p.2 (lowK p.2 q.2)) (upW q.2 (lowK p.2 q.2))) (Nat.add (lowK p.2 q.2) 2925))))
      (some (p.1, nrW (Nat.add (upW p.2 (lowK p.2 q.2)) (upW q.2 (lowK p.2 q.2))) (Nat.add (lowK p.2 q.2) 2925)))) none
theorem signed_cond (s : Bool) (m k : Nat) : Ieee.signed s m k = cond s (-((m * 2 ^ k : Nat) : Int)) ((m * 2 ^ k : Nat) : Int) := by
  cases s
  · exact signed_false m k
  · exact signed_true m k
theorem addS_eq {p q r : Bool × Nat} (h : addS p q = some r) : floatBits .add .f64 (wd p) (wd q) = some (wd r) := by
  obtain ⟨s, x⟩ := p
  obtain ⟨t, y⟩ := q
  unfold addS at h
  dsimp only at h
  cases hc : (mid x && mid y)
  · rw [hc] at h; cases h
  · rw [hc] at h
    simp only [Bool.and_eq_true] at hc
    obtain ⟨hx, hy⟩ := hc
    obtain ⟨a1, a2, _, a3, a4⟩ := mid_bounds hx
    obtain ⟨b1, b2, _, b3, b4⟩ := mid_bounds hy
    rw [lowK_eq] at h
    show ((Ieee.double.read _).sum (Ieee.double.read _)).map Ieee.double.write = _
    rw [read_wd s hx, read_wd t hy]
    generalize hk : min (xp x) (xp y) = k at h
    obtain ⟨u1, u2⟩ := up_bound hx k
    obtain ⟨v1, v2⟩ := up_bound hy k
    obtain ⟨t3, ht3⟩ : ∃ t3 : Nat, t3 = 303 := ⟨_, rfl⟩
    have w1 : 2 ^ (53 + (xp x - k)) ≤ 2 ^ t3 := Nat.pow_le_pow_right (by decide) (by omega)
    have w2 : 2 ^ (53 + (xp y - k)) ≤ 2 ^ t3 := Nat.pow_le_pow_right (by decide) (by omega)
    have u3 := Nat.lt_of_lt_of_le u2 w1
    have v3 := Nat.lt_of_lt_of_le v2 w2
    clear u2 v2 w1 w2
    have p52 : 0 < (2 : Nat) ^ 52 := Nat.two_pow_pos _
    have ek : min ((xp x : Int) - 1075) ((xp y : Int) - 1075) = (k : Int) - 1075 := by omega
    have es : Ieee.signed s (sg x) ((xp x : Int) - 1075 - ((k : Int) - 1075)).toNat = cond s (-((upW x k : Nat) : Int)) ((upW x k : Nat) : Int) := by
      rw [signed_cond, show ((xp x : Int) - 1075 - ((k : Int) - 1075)).toNat = xp x - k by omega]; rfl
    have et : Ieee.signed t (sg y) ((xp y : Int) - 1075 - ((k : Int) - 1075)).toNat = cond t (-((upW y k : Nat) : Int)) ((upW y k : Nat) : Int) := by
      rw [signed_cond, show ((xp y : Int) - 1075 - ((k : Int) - 1075)).toNat = xp y - k by omega]; rfl
    show some (Ieee.double.write _) = _
    simp only [ek, es, et]
    generalize upW x k = A at h u1 u3 ⊢
    generalize upW y k = B at h v1 v3 ⊢
    have hpow : (2 : Nat) ^ (t3 + 1) = 2 ^ t3 + 2 ^ t3 := by rw [Nat.pow_succ, Nat.mul_two]
    have lg : ∀ M : Nat, M < A + B → M.log2 ≤ 500 := fun M hM => Nat.le_trans (log2_le M t3 (show M < 2 ^ (t3 + 1) by omega)) (by omega)
    have lg' : (A + B).log2 ≤ 500 := Nat.le_trans (log2_le (A + B) t3 (show A + B < 2 ^ (t3 + 1) by omega)) (by omega)
    cases hst : xor s t
    · have hst' : s = t := by cases s <;> cases t <;> first | rfl | cases hst
      subst hst'
      rw [hst] at h
      obtain rfl := Option.some.inj h
      refine congrArg some (sum_close s s s _ (A + B) (k + 2925) _ ?_ (by omega) lg' (by omega) (by omega) (by omega))
      cases s
      · show (A : Int) + B = ((A + B : Nat) : Int); omega
      · show -(A : Int) + -(B : Int) = -((A + B : Nat) : Int); omega
    · rw [hst] at h
      have hst' : t = !s := by cases s <;> cases t <;> first | rfl | cases hst
      subst hst'
      rcases Nat.lt_trichotomy A B with hab | hab | hab
      · rw [show Nat.ble A B = true by rw [Nat.ble_eq]; omega, show Nat.ble B A = false by rw [← Bool.not_eq_true, Nat.ble_eq]; omega] at h
        obtain rfl := Option.some.inj h
        refine congrArg some (sum_close s (!s) (!s) _ (B - A) (k + 2925) _ ?_ (by omega) (lg _ (by omega)) (by omega) (by omega) (by omega))
        cases s
        · show (A : Int) + -(B : Int) = -((B - A : Nat) : Int); omega
        · show -(A : Int) + (B : Int) = ((B - A : Nat) : Int); omega
      · rw [hab, show Nat.ble B B = true by rw [Nat.ble_eq]; omega] at h
        cases h
      · rw [show Nat.ble A B = false by rw [← Bool.not_eq_true, Nat.ble_eq]; omega] at h
        obtain rfl := Option.some.inj h
        refine congrArg some (sum_close s (!s) s _ (A - B) (k + 2925) _ ?_ (by omega) (lg _ (by omega)) (by omega) (by omega) (by omega))
        cases s
        · show (A : Int) + -(B : Int) = ((A - B : Nat) : Int); omega
        · show -(A : Int) + (B : Int) = -((A - B : Nat) : Int); omega
theorem sub_add (s : Bool) {x : Nat} (h : mid x = true) (a : Nat) : floatBits .sub .f64 a (wd (s, x)) = floatBits .add .f64 a (wd (!s, x)) := by
  show ((Ieee.double.read a).sum (Ieee.double.read (wd (s, x))).opposite).map Ieee.double.write = ((Ieee.double.read a).sum (Ieee.double.read (wd (!s, x)))).map Ieee.double.write
  rw [read_wd s h, read_wd (!s) h]
  rfl
def subS (p q : Bool × Nat) : Option (Bool × Nat) := addS p (not q.1, q.2)
theorem subS_eq {p q r : Bool × Nat} (h : subS p q = some r) : floatBits .sub .f64 (wd p) (wd q) = some (wd r) := by
  obtain ⟨t, y⟩ := q
  have hy : mid y = true := by
    unfold subS addS at h
    dsimp only at h
    cases hc : (mid p.2 && mid y)
    · rw [hc] at h; cases h
    · simp only [Bool.and_eq_true] at hc; exact hc.2
  rw [sub_add t hy]
  exact addS_eq h
def divM (x y : Nat) : Nat := Nat.add (Nat.mul 2 (Nat.div (Nat.mul (sg x) 18014398509481984) (sg y))) (cond (Nat.beq (Nat.mod (Nat.mul (sg x) 18014398509481984) (sg y)) 0) 0 1)
def divS (p q : Bool × Nat) : Option (Bool × Nat) := cond (mid p.2 && mid q.2) (some (xor p.1 q.1, nrW (divM p.2 q.2) (Nat.sub (Nat.add (xp p.2) 3945) (xp q.2)))) none
theorem divS_eq {p q r : Bool × Nat} (h : divS p q = some r) : floatBits .quo .f64 (wd p) (wd q) = some (wd r) := by
  obtain ⟨s, x⟩ := p
  obtain ⟨t, y⟩ := q
  unfold divS at h
  dsimp only at h
  cases hc : (mid x && mid y)
  · rw [hc] at h; cases h
  · rw [hc] at h
    simp only [Bool.and_eq_true] at hc
    obtain ⟨hx, hy⟩ := hc
    obtain ⟨a1, a2, _, a3, a4⟩ := mid_bounds hx
    obtain ⟨b1, b2, _, b3, b4⟩ := mid_bounds hy
    have lx := log2_sg hx
    have ly := log2_sg hy
    obtain rfl := Option.some.inj h
    show ((Ieee.double.read _).quotient 54 (Ieee.double.read _)).map Ieee.double.write = _
    rw [read_wd s hx, read_wd t hy]
    have hm : divM x y = 2 * (sg x <<< 54 / sg y) + (sg x <<< 54 % sg y != 0).toNat := by
      unfold divM
      rw [shl_eq, show (2 : Nat) ^ 54 = 18014398509481984 by decide]
      show 2 * (sg x * 18014398509481984 / sg y) + cond (Nat.beq (sg x * 18014398509481984 % sg y) 0) 0 1 = _
      congr 1
      generalize sg x * 18014398509481984 % sg y = z
      cases z with
      | zero => rfl
      | succ n => rfl
    have hq1 : 2 ^ 53 ≤ sg x * 18014398509481984 / sg y := by
      rw [Nat.le_div_iff_mul_le (by omega), show (2 : Nat) ^ 53 = 9007199254740992 by decide]
      omega
    have hq2 : sg x * 18014398509481984 / sg y < 2 ^ 55 := by
      rw [Nat.div_lt_iff_lt_mul (by omega), show (2 : Nat) ^ 55 = 36028797018963968 by decide]
      omega
    have hm2 : 2 ^ 54 ≤ divM x y ∧ divM x y < 2 ^ (56 + 1) := by
      rw [hm, shl_eq, show (2 : Nat) ^ 54 = 18014398509481984 by decide]
      have hb : ∀ b : Bool, b.toNat ≤ 1 := by decide
      have := hb (sg x * 18014398509481984 % sg y != 0)
      rw [show (2 : Nat) ^ 53 = 9007199254740992 by decide] at hq1
      rw [show (2 : Nat) ^ 55 = 36028797018963968 by decide] at hq2
      rw [show (2 : Nat) ^ (56 + 1) = 144115188075855872 by decide]
      omega
    have l1 := log2_ge _ _ hm2.1
    have l2 := log2_le _ 56 hm2.2
    have h54 : 54 + 52 - 52 = 54 := rfl
    simp only [Datum.quotient, if_neg (show ¬ sg y = 0 by omega), lx, ly, h54, ← hm, Option.map_some]
    show some (Ieee.double.nearest (xor s t) (divM x y) _) = some (wd (xor s t, nrW (divM x y) (xp x + 3945 - xp y)))
    rw [near_wd (xor s t) (divM x y) (xp x + 3945 - xp y) (by have : 0 < (2 : Nat) ^ 54 := Nat.two_pow_pos _; omega) (by omega) (by omega) (by omega) _ (by omega)]
/-- a product with nothing, and a sum with it -/
theorem mul_zero {x : Nat} (h : mid x = true) : floatBits .mul .f64 (wd (false, x)) 0 = some 0 := by
  show ((Ieee.double.read _).product (Ieee.double.read 0)).map Ieee.double.write = _
  rw [read_wd false h, show Ieee.double.read 0 = .number false 0 (-1074) by decide]
  show some (Ieee.double.nearest false (sg x * 0) _) = _
  rw [Nat.mul_zero]
  unfold Ieee.Format.nearest
  rw [if_pos rfl]
  rfl
end Go.Proofs.Ytpocclcijkopnaa
