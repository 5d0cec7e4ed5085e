/- A 32-bit number widened and narrowed is itself: plain facts on floats. -/
import Derived.Test.YtjcjijfemedojaaGreatDoorSub
namespace Go.Proofs.YtjcjijfemedojaaGreatDoor
open Fl Ieee

theorem log2_scale (m k : Nat) (hm : m ≠ 0) : (m * 2 ^ k).log2 = m.log2 + k := by
  have h := Nat.log2_self_le hm
  have h2 : m < 2 ^ (m.log2 + 1) := Nat.lt_log2_self
  have hp : 0 < 2 ^ k := Nat.two_pow_pos k
  have hne : m * 2 ^ k ≠ 0 := by
    have := Nat.mul_pos (Nat.pos_of_ne_zero hm) hp
    omega
  refine (Nat.log2_eq_iff hne).2 ⟨?_, ?_⟩
  · rw [Nat.pow_add]; exact Nat.mul_le_mul_right _ h
  · rw [show m.log2 + k + 1 = m.log2 + 1 + k by omega, Nat.pow_add]; exact Nat.mul_lt_mul_of_pos_right h2 hp
theorem cut_scale (neg : Bool) (m k d : Nat) (hm : m ≠ 0) (hd : k ≤ d) : Ieee.Toward.even.cut neg (m * 2 ^ k) d = Ieee.Toward.even.cut neg m (d - k) := by
  unfold Ieee.Toward.cut
  rw [log2_scale m k hm]
  have e1 : min d (m.log2 + k + 2) = min (d - k) (m.log2 + 2) + k := by omega
  rw [e1, shl_eq, shl_eq, Nat.one_mul, Nat.one_mul, Nat.pow_add]
  have hp : 0 < 2 ^ k := Nat.two_pow_pos k
  generalize 2 ^ k = K at *
  generalize 2 ^ min (d - k) (m.log2 + 2) = G at *
  have h1 : m * K / (G * K) = m / G := Nat.mul_div_mul_right m G hp
  have h2 : m * K % (G * K) = m % G * K := Nat.mul_mod_mul_right K m G
  simp only [h1, h2]
  have h3 : (decide (G * K < 2 * (m % G * K))) = decide (G < 2 * (m % G)) := by
    rw [← Nat.mul_assoc]
    exact decide_eq_decide.2 (Nat.mul_lt_mul_right hp)
  have h4 : (G * K == 2 * (m % G * K)) = (G == 2 * (m % G)) := by
    rw [← Nat.mul_assoc, Bool.eq_iff_iff, beq_iff_eq, beq_iff_eq]
    exact Nat.mul_right_cancel_iff hp
  rw [h3, h4]
theorem nearest_scale (f : Ieee.Format) (neg : Bool) (m k : Nat) (p : Int) (hm : m ≠ 0) (hL : m.log2 ≤ f.fractionBits) (hp : f.leastPlace ≤ p) : f.nearest neg (m * 2 ^ k) (p - k) = f.nearest neg m p := by
  have hp2 : 0 < 2 ^ k := Nat.two_pow_pos k
  have hne : m * 2 ^ k ≠ 0 := by
    have := Nat.mul_pos (Nat.pos_of_ne_zero hm) hp2
    omega
  unfold Ieee.Format.nearest
  rw [if_neg hne, if_neg hm, log2_scale m k hm]
  have e1 : p - (k : Int) + ((m.log2 + k : Nat) : Int) - f.fractionBits = p + m.log2 - f.fractionBits := by omega
  simp only [e1]
  generalize hL' : max (p + (m.log2 : Int) - f.fractionBits) f.leastPlace = L
  have hl : L ≤ p := by omega
  obtain ⟨a, ha⟩ : ∃ a : Nat, (p - L).toNat = a := ⟨_, rfl⟩
  have hd : (L - p).toNat = 0 := by omega
  rw [ha, hd]
  congr 3
  rw [shl_eq, shl_eq]
  by_cases h : k ≤ a
  · have h1 : (p - (k : Int) - L).toNat = a - k := by omega
    have h2 : (L - (p - (k : Int))).toNat = 0 := by omega
    rw [h1, h2, Nat.mul_assoc, ← Nat.pow_add, show k + (a - k) = a by omega]
  · have h1 : (p - (k : Int) - L).toNat = 0 := by omega
    have h2 : (L - (p - (k : Int))).toNat = k - a := by omega
    have hne2 : m * 2 ^ a ≠ 0 := by
      have := Nat.mul_pos (Nat.pos_of_ne_zero hm) (Nat.two_pow_pos a)
      omega
    rw [h1, h2, Nat.pow_zero, Nat.mul_one, show m * 2 ^ k = m * 2 ^ a * 2 ^ (k - a) by rw [Nat.mul_assoc, ← Nat.pow_add, show a + (k - a) = k by omega], cut_scale neg _ _ _ hne2 (Nat.le_refl _), Nat.sub_self]

set_option maxHeartbeats 1000000 in
theorem write_read32 (x : Nat) (hx : x < 4294967296) (hn : nan32 x = false) : Ieee.single.write (Ieee.single.read x) = x := by
  have hw := word_of Ieee.single x (by rw [sw32]; omega)
  have hb := bin32
  have hs := sw32
  have hi := inf32r
  have hlp : Ieee.single.leastPlace = -149 := lp32
  have hfb : Ieee.single.fractionBits = 23 := rfl
  generalize hneg : (x / Ieee.single.signWeight % 2 == 1) = s at hw
  have hr : x % Ieee.single.signWeight < Ieee.single.signWeight := Nat.mod_lt _ (by rw [hs]; decide)
  generalize x % Ieee.single.signWeight = r at hw hr
  unfold nan32 at hn
  rw [hw] at hn ⊢
  rw [read_word _ s r hr] at hn ⊢
  by_cases h1 : r < Ieee.single.binade
  · rw [if_pos h1]
    show Ieee.single.nearest s r Ieee.single.leastPlace = _
    by_cases h0 : r = 0
    · subst h0
      unfold Ieee.Format.nearest
      rw [if_pos rfl]
    · have hl : r.log2 < 23 := (Nat.log2_lt h0).2 (by omega)
      rw [nearest_exact_word Ieee.single s r _ h0 (by rw [hfb]; omega) (Int.le_refl _)]
      have e1 : lastPlace Ieee.single r Ieee.single.leastPlace = Ieee.single.leastPlace := by unfold lastPlace; rw [hlp, hfb]; omega
      rw [e1, Int.sub_self]
      rw [show (0 : Int).toNat = 0 from rfl, Nat.zero_mul, Nat.zero_add, Nat.shiftLeft_zero, Nat.min_eq_left (by omega)]
  · rw [if_neg h1] at hn ⊢
    by_cases h2 : r < Ieee.single.infRung
    · rw [if_pos h2]
      show Ieee.single.nearest s _ _ = _
      have hm0 : Ieee.single.binade + r % Ieee.single.binade ≠ 0 := by rw [hb]; omega
      have hml : (Ieee.single.binade + r % Ieee.single.binade).log2 = 23 := by
        refine (Nat.log2_eq_iff hm0).2 ⟨?_, ?_⟩ <;> rw [hb] <;> omega
      rw [nearest_exact_word Ieee.single s _ _ hm0 (by rw [hml, hfb]; omega) (by omega)]
      have e1 : lastPlace Ieee.single (Ieee.single.binade + r % Ieee.single.binade) (Ieee.single.leastPlace + (r / Ieee.single.binade - 1 : Nat)) = Ieee.single.leastPlace + (r / Ieee.single.binade - 1 : Nat) := by
        unfold lastPlace; rw [hml, hlp, hfb]; omega
      rw [e1, Int.sub_self]
      have e2 : (Ieee.single.leastPlace + ((r / Ieee.single.binade - 1 : Nat) : Int) - Ieee.single.leastPlace).toNat = r / Ieee.single.binade - 1 := by omega
      have e3 : (r / Ieee.single.binade - 1) * Ieee.single.binade + (Ieee.single.binade + r % Ieee.single.binade) = r := by
        rw [hb] at h1 ⊢
        omega
      rw [e2, show (0 : Int).toNat = 0 from rfl, Nat.shiftLeft_zero, e3, Nat.min_eq_left (by omega)]
    · rw [if_neg h2] at hn ⊢
      by_cases h3 : r = Ieee.single.infRung
      · rw [if_pos h3, h3]
        show Ieee.single.word s Ieee.single.infRung = _
        rfl
      · rw [if_neg h3] at hn
        cases hn
theorem conv_num {y : Nat} {s : Bool} {m : Nat} {e : Int} (h : Ieee.double.read y = .number s m e) (r : Nat) (hr : Ieee.single.write (.number s m e) = r) (hi : (Ieee.single.read r).isInfinity = false) : floatToFloatBits .f64 y .f32 = some r := by
  have h' : FloatKind.f64.decode y = .number s m e := h
  have hr' : FloatKind.f32.encode (.number s m e) = r := hr
  have hi' : (FloatKind.f32.decode r).isInfinity = false := hi
  unfold floatToFloatBits
  rw [if_neg (by decide), h']
  simp only [hr', hi', Bool.false_eq_true, if_false]
theorem conv_inf {y : Nat} {s : Bool} (h : Ieee.double.read y = .infinity s) (r : Nat) (hr : Ieee.single.write (.infinity s) = r) : floatToFloatBits .f64 y .f32 = some r := by
  have h' : FloatKind.f64.decode y = .infinity s := h
  have hr' : FloatKind.f32.encode (.infinity s) = r := hr
  unfold floatToFloatBits
  rw [if_neg (by decide), h']
  simp only [hr']
/-- a number read from a 64-bit word that holds a 32-bit number, written at 32 bits -/
theorem wide_write (x : Nat) (s : Bool) (m : Nat) (e : Int) (h : Ieee.single.read x = .number s m e) : ∃ m' e', Ieee.double.read (wide x) = .number s m' e' ∧ Ieee.single.write (.number s m' e') = Ieee.single.write (.number s m e) := by
  obtain ⟨h1, h2, h3, h4⟩ := read_number Ieee.single (by decide) x s m e h
  rw [lp32] at h2 h3
  have h1' : m.log2 ≤ 23 := h1
  have h3' : (e - -149).toNat + 3 ≤ 256 := h3
  unfold wide
  rw [h]
  show ∃ m' e', Ieee.double.read (Ieee.double.nearest s m e) = .number s m' e' ∧ Ieee.single.nearest s m' e' = Ieee.single.nearest s m e
  by_cases hm : m = 0
  · subst hm
    refine ⟨0, _, read_nearest_zero _ _ _, ?_⟩
    unfold Ieee.Format.nearest
    rw [if_pos rfl, if_pos rfl]
  · refine ⟨_, _, read_nearest_exact Ieee.double s m e hm (by show m.log2 ≤ 52; omega) (by rw [lp64]; omega) ?_, ?_⟩
    · rw [lp64]
      show (e + m.log2 - 52 - -1074).toNat + 2 ≤ 2 ^ 11 - 1
      omega
    · have hl : lastPlace Ieee.double m e ≤ e := by unfold lastPlace; rw [lp64]; show max (e + m.log2 - 52) (-1074) ≤ e; omega
      obtain ⟨k, hk⟩ : ∃ k : Nat, (e - lastPlace Ieee.double m e).toNat = k := ⟨_, rfl⟩
      have hk2 : lastPlace Ieee.double m e = e - k := by omega
      rw [hk, hk2, shl_eq]
      exact nearest_scale Ieee.single s m k e hm h1 (by rw [lp32]; omega)
/-- narrowing undoes widening -/
theorem narrow_wide (x : Nat) (hx : x < 4294967296) (hn : nan32 x = false) : floatToFloatBits .f64 (wide x) .f32 = some x := by
  have hwr := write_read32 x hx hn
  cases h : Ieee.single.read x with
  | infinity s => exact conv_inf (read_wide_inf x s h) x (by rw [← h]; exact hwr)
  | nan s t => simp [nan32, h, Datum.isNaN] at hn
  | number s m e =>
    obtain ⟨m', e', h5, h6⟩ := wide_write x s m e h
    exact conv_num h5 x (by rw [h6, ← h]; exact hwr) (by rw [h]; rfl)
end Go.Proofs.YtjcjijfemedojaaGreatDoor
