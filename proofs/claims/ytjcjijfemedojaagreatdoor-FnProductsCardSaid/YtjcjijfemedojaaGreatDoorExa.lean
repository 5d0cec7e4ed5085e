/- Exact numbers: the words of numbers n * 2 ^ p, and what the operations give where nothing is rounded. Plain facts on floats. -/
import Derived.Test.YtjcjijfemedojaaGreatDoorFl
namespace Go.Proofs.YtjcjijfemedojaaGreatDoor
open Fl Ieee

theorem xlog2_scale (m k : Nat) (hm : m ≠ 0) : (m * 2 ^ k).log2 = m.log2 + k := by
  have h := Nat.log2_self_le hm
  have h2 : m < 2 ^ (m.log2 + 1) := Nat.lt_log2_self
  have hp : 0 < 2 ^ k := Nat.two_pow_pos k
  have hne : m * 2 ^ k ≠ 0 := by
    have := Nat.mul_pos (Nat.pos_of_ne_zero hm) hp
    omega
  refine (Nat.log2_eq_iff hne).2 ⟨?_, ?_⟩
  · rw [Nat.pow_add]; exact Nat.mul_le_mul_right _ h
  · rw [show m.log2 + k + 1 = m.log2 + 1 + k by omega, Nat.pow_add]; exact Nat.mul_lt_mul_of_pos_right h2 hp
theorem xcut_scale (neg : Bool) (m k d : Nat) (hm : m ≠ 0) (hd : k ≤ d) : Ieee.Toward.even.cut neg (m * 2 ^ k) d = Ieee.Toward.even.cut neg m (d - k) := by
  unfold Ieee.Toward.cut
  rw [xlog2_scale m k hm]
  have e1 : min d (m.log2 + k + 2) = min (d - k) (m.log2 + 2) + k := by omega
  rw [e1, shl_eq, shl_eq, Nat.one_mul, Nat.one_mul, Nat.pow_add]
  have hp : 0 < 2 ^ k := Nat.two_pow_pos k
  generalize 2 ^ k = K at *
  generalize 2 ^ min (d - k) (m.log2 + 2) = G at *
  have h1 : m * K / (G * K) = m / G := Nat.mul_div_mul_right m G hp
  have h2 : m * K % (G * K) = m % G * K := Nat.mul_mod_mul_right K m G
  simp only [h1, h2]
  have h3 : (decide (G * K < 2 * (m % G * K))) = decide (G < 2 * (m % G)) := by
    rw [← Nat.mul_assoc]
    exact decide_eq_decide.2 (Nat.mul_lt_mul_right hp)
  have h4 : (G * K == 2 * (m % G * K)) = (G == 2 * (m % G)) := by
    rw [← Nat.mul_assoc, Bool.eq_iff_iff, beq_iff_eq, beq_iff_eq]
    exact Nat.mul_right_cancel_iff hp
  rw [h3, h4]
theorem xnearest_scale (f : Ieee.Format) (neg : Bool) (m k : Nat) (p : Int) (hm : m ≠ 0) (hL : m.log2 ≤ f.fractionBits) (hp : f.leastPlace ≤ p) : f.nearest neg (m * 2 ^ k) (p - k) = f.nearest neg m p := by
  have hp2 : 0 < 2 ^ k := Nat.two_pow_pos k
  have hne : m * 2 ^ k ≠ 0 := by
    have := Nat.mul_pos (Nat.pos_of_ne_zero hm) hp2
    omega
  unfold Ieee.Format.nearest
  rw [if_neg hne, if_neg hm, xlog2_scale m k hm]
  have e1 : p - (k : Int) + ((m.log2 + k : Nat) : Int) - f.fractionBits = p + m.log2 - f.fractionBits := by omega
  simp only [e1]
  generalize hL' : max (p + (m.log2 : Int) - f.fractionBits) f.leastPlace = L
  have hl : L ≤ p := by omega
  obtain ⟨a, ha⟩ : ∃ a : Nat, (p - L).toNat = a := ⟨_, rfl⟩
  have hd : (L - p).toNat = 0 := by omega
  rw [ha, hd]
  congr 3
  rw [shl_eq, shl_eq]
  by_cases h : k ≤ a
  · have h1 : (p - (k : Int) - L).toNat = a - k := by omega
    have h2 : (L - (p - (k : Int))).toNat = 0 := by omega
    rw [h1, h2, Nat.mul_assoc, ← Nat.pow_add, show k + (a - k) = a by omega]
  · have h1 : (p - (k : Int) - L).toNat = 0 := by omega
    have h2 : (L - (p - (k : Int))).toNat = k - a := by omega
    have hne2 : m * 2 ^ a ≠ 0 := by
      have := Nat.mul_pos (Nat.pos_of_ne_zero hm) (Nat.two_pow_pos a)
      omega
    rw [h1, h2, Nat.pow_zero, Nat.mul_one, show m * 2 ^ k = m * 2 ^ a * 2 ^ (k - a) by rw [Nat.mul_assoc, ← Nat.pow_add, show a + (k - a) = k by omega], xcut_scale neg _ _ _ hne2 (Nat.le_refl _), Nat.sub_self]


/-- x is the word of n * 2 ^ p (a zero of either sign where n is 0) -/
def Exa (f : Format) (p : Int) (x : Nat) (n : Int) : Prop :=
  (n ≠ 0 → x = f.nearest (decide (n < 0)) n.natAbs p) ∧ (n = 0 → x = f.word false 0 ∨ x = f.word true 0)
/-- the format has the number n * 2 ^ p -/
structure Fits (f : Format) (p : Int) (n : Int) : Prop where
  log : n.natAbs.log2 ≤ f.fractionBits
  low : f.leastPlace ≤ p
  high : (p + n.natAbs.log2 - f.fractionBits - f.leastPlace).toNat + 2 ≤ 2 ^ f.exponentBits - 1
theorem fits32 {p n : Int} (h : n.natAbs < 16777216) (h1 : -149 ≤ p) (h2 : p ≤ 100) : Fits single p n := by
  have hl : n.natAbs.log2 ≤ 23 := by
    by_cases h0 : n.natAbs = 0
    · rw [h0]; decide
    · have := (Nat.log2_lt (k := 24) h0).2 h; omega
  refine ⟨hl, by rw [lp32]; omega, ?_⟩
  rw [lp32]
  show (p + n.natAbs.log2 - (23 : Nat) - -149).toNat + 2 ≤ 2 ^ 8 - 1
  omega
theorem fits64 {p n : Int} (h : n.natAbs < 9007199254740992) (h1 : -1074 ≤ p) (h2 : p ≤ 900) : Fits double p n := by
  have hl : n.natAbs.log2 ≤ 52 := by
    by_cases h0 : n.natAbs = 0
    · rw [h0]; decide
    · have := (Nat.log2_lt (k := 53) h0).2 h; omega
  refine ⟨hl, by rw [lp64]; omega, ?_⟩
  rw [lp64]
  show (p + n.natAbs.log2 - (52 : Nat) - -1074).toNat + 2 ≤ 2 ^ 11 - 1
  omega
theorem signed_up (s : Bool) (m k : Nat) : signed s m k = signed s m 0 * ((2 ^ k : Nat) : Int) := by
  unfold signed
  rw [shl_eq, shl_eq, Nat.pow_zero, Nat.mul_one]
  cases s
  · simp [Int.natCast_mul]
  · simp [Int.natCast_mul, Int.neg_mul]
theorem signed_nat (s : Bool) (m : Nat) : signed s m 0 = if s then -(m : Int) else m := by
  unfold signed; rw [shl_eq, Nat.pow_zero, Nat.mul_one]
theorem pow_split {k K : Nat} (h : k ≤ K) : ((2 ^ k : Nat) : Int) * ((2 ^ (K - k) : Nat) : Int) = ((2 ^ K : Nat) : Int) := by
  rw [← Int.natCast_mul, ← Nat.pow_add, show k + (K - k) = K by omega]
theorem pow_pos' (k : Nat) : (0 : Int) < ((2 ^ k : Nat) : Int) := Int.ofNat_lt.2 (Nat.two_pow_pos k)
theorem word_zero (f : Format) (s : Bool) (p : Int) : f.nearest s 0 p = f.word s 0 := by unfold Format.nearest; rw [if_pos rfl]

theorem Exa.read {f : Format} (he : 3 ≤ 2 ^ f.exponentBits) {p : Int} {x : Nat} {n : Int} (h : Exa f p x n) (hf : Fits f p n) :
    ∃ (s : Bool) (m k : Nat), f.read x = .number s m (p - k) ∧ signed s m 0 = n * ((2 ^ k : Nat) : Int) ∧ (n ≠ 0 → s = decide (n < 0)) ∧ m = n.natAbs * 2 ^ k ∧ m.log2 ≤ f.fractionBits := by
  by_cases h0 : n = 0
  · subst h0
    have key : ∀ s, f.read (f.word s 0) = .number s 0 (p - ((p - f.leastPlace).toNat : Int)) := by
      intro s
      rw [read_word f s 0 (sw_pos f), if_pos (bin_pos f)]
      have := hf.low
      congr 1; omega
    rcases h.2 rfl with rfl | rfl
    · exact ⟨_, 0, _, key false, by simp [signed], fun h => absurd rfl h, by simp, by simp⟩
    · exact ⟨_, 0, _, key true, by simp [signed], fun h => absurd rfl h, by simp, by simp⟩
  · have hm : n.natAbs ≠ 0 := by omega
    have hr := read_nearest_exact f (decide (n < 0)) n.natAbs p hm hf.log hf.low hf.high
    rw [← h.1 h0] at hr
    have hl : lastPlace f n.natAbs p ≤ p := by have := hf.log; have := hf.low; unfold lastPlace; omega
    have hr2 : f.read x = .number (decide (n < 0)) (n.natAbs <<< (p - lastPlace f n.natAbs p).toNat) (p - ((p - lastPlace f n.natAbs p).toNat : Int)) := by
      rw [hr]; congr 1; omega
    refine ⟨_, _, _, hr2, ?_, fun _ => rfl, shl_eq _ _, (read_number f he _ _ _ _ hr2).1⟩
    rw [signed_nat, shl_eq, Int.natCast_mul]
    by_cases hn : n < 0
    · rw [if_pos (by simpa using hn), ← Int.neg_mul]; congr 1; omega
    · rw [if_neg (by simpa using hn)]; congr 1; omega
theorem exa_write {f : Format} {p : Int} {c : Int} (K M : Nat) (s : Bool) (place : Int) (hM : M = c.natAbs * 2 ^ K) (hs : c ≠ 0 → s = decide (c < 0)) (hf : Fits f p c) (hpl : place = p - K) : Exa f p (f.nearest s M place) c := by
  subst hM; subst hpl
  constructor
  · intro h0
    rw [hs h0, xnearest_scale f _ _ K p (by omega) hf.log hf.low]
  · intro h0
    subst h0
    rw [show (0 : Int).natAbs * 2 ^ K = 0 by simp, word_zero]
    cases s
    · exact .inl rfl
    · exact .inr rfl
theorem Exa.down {f : Format} {p : Int} {x : Nat} {n : Int} (h : Exa f p x n) (hf : Fits f p n) (j : Nat) : Exa f (p - j) x (n * ((2 ^ j : Nat) : Int)) := by
  have hp := pow_pos' j
  constructor
  · intro h0
    have hn : n ≠ 0 := by rintro rfl; exact h0 (by simp)
    have e1 : (n * ((2 ^ j : Nat) : Int)).natAbs = n.natAbs * 2 ^ j := by rw [Int.natAbs_mul, Int.natAbs_natCast]
    have e2 : decide (n * ((2 ^ j : Nat) : Int) < 0) = decide (n < 0) := by
      refine decide_eq_decide.2 ⟨fun h => ?_, fun h => Int.mul_neg_of_neg_of_pos h hp⟩
      rcases Int.lt_or_le n 0 with h' | h'
      · exact h'
      · have := Int.mul_nonneg h' (Int.le_of_lt hp); omega
    rw [e1, e2, xnearest_scale f _ _ j p (by omega) hf.log hf.low]
    exact h.1 hn
  · intro h0
    refine h.2 ?_
    rcases Int.mul_eq_zero.1 h0 with h | h
    · exact h
    · omega
theorem exa_sum {f : Format} (he : 3 ≤ 2 ^ f.exponentBits) {p : Int} {x : Nat} {a b : Int} (hx : Exa f p x a) (fa : Fits f p a) {t : Bool} {n j : Nat} {d : Datum} (hd : d = .number t n (p - j)) (hb : signed t n 0 = b * ((2 ^ j : Nat) : Int)) (fs : Fits f p (a + b)) :
    ∃ r, (((f.read x).sum d).map f.write) = some r ∧ Exa f p r (a + b) := by
  obtain ⟨s, m, k, h1, h2, _⟩ := hx.read he fa
  rw [h1, hd]
  simp only [Datum.sum, Option.map_some]
  refine ⟨_, rfl, ?_⟩
  have e1 : ((p - (k : Int)) - min (p - (k : Int)) (p - (j : Int))).toNat = max k j - k := by omega
  have e2 : ((p - (j : Int)) - min (p - (k : Int)) (p - (j : Int))).toNat = max k j - j := by omega
  have e3 : min (p - (k : Int)) (p - (j : Int)) = p - (max k j : Nat) := by omega
  rw [e1, e2, e3, signed_up s m, signed_up t n, h2, hb, Int.mul_assoc, Int.mul_assoc, pow_split (by omega), pow_split (by omega), ← Int.add_mul]
  have hp := pow_pos' (max k j)
  show Exa f p (f.nearest _ _ _) _
  refine exa_write (max k j) _ _ _ (by rw [Int.natAbs_mul, Int.natAbs_natCast]) (fun h0 => ?_) fs rfl
  have h3 : (a + b) * ((2 ^ max k j : Nat) : Int) ≠ 0 := by
    intro h; rcases Int.mul_eq_zero.1 h with h | h
    · exact h0 h
    · omega
  rw [if_neg h3]
  refine decide_eq_decide.2 ⟨fun h => ?_, fun h => Int.mul_neg_of_neg_of_pos h hp⟩
  rcases Int.lt_or_le (a + b) 0 with h' | h'
  · exact h'
  · have := Int.mul_nonneg h' (Int.le_of_lt hp); omega
theorem exa_add {f : Format} (he : 3 ≤ 2 ^ f.exponentBits) {p : Int} {x y : Nat} {a b : Int} (hx : Exa f p x a) (hy : Exa f p y b) (fa : Fits f p a) (fb : Fits f p b) (fs : Fits f p (a + b)) : ∃ r, f.add x y = some r ∧ Exa f p r (a + b) := by
  obtain ⟨t, n, j, g1, g2, _⟩ := hy.read he fb
  exact exa_sum he hx fa g1 g2 fs
theorem exa_sub {f : Format} (he : 3 ≤ 2 ^ f.exponentBits) {p : Int} {x y : Nat} {a b : Int} (hx : Exa f p x a) (hy : Exa f p y b) (fa : Fits f p a) (fb : Fits f p b) (fs : Fits f p (a - b)) : ∃ r, f.sub x y = some r ∧ Exa f p r (a - b) := by
  obtain ⟨t, n, j, g1, g2, _⟩ := hy.read he fb
  have g3 : (f.read y).opposite = .number (!t) n (p - j) := by rw [g1]; rfl
  have g4 : signed (!t) n 0 = (-b) * ((2 ^ j : Nat) : Int) := by
    rw [Int.neg_mul, ← g2, signed_nat, signed_nat]; cases t <;> simp
  exact exa_sum he hx fa g3 g4 fs
theorem mul_sign {a b : Int} (h : a * b ≠ 0) : decide (a * b < 0) = (decide (a < 0) ^^ decide (b < 0)) := by
  have ha : a ≠ 0 := by rintro rfl; simp at h
  have hb : b ≠ 0 := by rintro rfl; simp at h
  rcases Int.lt_or_lt_of_ne ha with h1 | h1 <;> rcases Int.lt_or_lt_of_ne hb with h2 | h2
  · have := Int.mul_pos_of_neg_of_neg h1 h2
    rw [decide_eq_true h1, decide_eq_true h2, decide_eq_false (by omega)]; rfl
  · have := Int.mul_neg_of_neg_of_pos h1 h2
    rw [decide_eq_true h1, decide_eq_false (by omega : ¬ b < 0), decide_eq_true this]; rfl
  · have := Int.mul_neg_of_pos_of_neg h1 h2
    rw [decide_eq_true h2, decide_eq_false (by omega : ¬ a < 0), decide_eq_true this]; rfl
  · have := Int.mul_pos h1 h2
    rw [decide_eq_false (by omega : ¬ a < 0), decide_eq_false (by omega : ¬ b < 0), decide_eq_false (by omega)]; rfl
theorem exa_mul {f : Format} (he : 3 ≤ 2 ^ f.exponentBits) {p q : Int} {x y : Nat} {a b : Int} (hx : Exa f p x a) (hy : Exa f q y b) (fa : Fits f p a) (fb : Fits f q b) (fs : Fits f (p + q) (a * b)) : ∃ r, f.mul x y = some r ∧ Exa f (p + q) r (a * b) := by
  obtain ⟨s, m, k, h1, h2, h3, h4, h5⟩ := hx.read he fa
  obtain ⟨t, n, j, g1, g2, g3, g4, g5⟩ := hy.read he fb
  unfold Format.mul
  rw [h1, g1]
  simp only [Datum.product, Option.map_some]
  refine ⟨_, rfl, ?_⟩
  show Exa f (p + q) (f.nearest _ _ _) _
  refine exa_write (k + j) _ _ _ ?_ (fun h0 => ?_) fs (by omega)
  · rw [h4, g4, Int.natAbs_mul, Nat.pow_add]
    generalize 2 ^ k = A; generalize 2 ^ j = B
    rw [Nat.mul_assoc, Nat.mul_assoc, Nat.mul_left_comm A]
  · rw [mul_sign h0, h3 (by rintro rfl; simp at h0), g3 (by rintro rfl; simp at h0)]
theorem exa_quo {f : Format} (he : 3 ≤ 2 ^ f.exponentBits) {p q : Int} {x y : Nat} {a b c : Int} (hx : Exa f p x a) (hy : Exa f q y b) (fa : Fits f p a) (fb : Fits f q b) (hb : b ≠ 0) (hc : a = c * b) (fs : Fits f (p - q) c) : ∃ r, f.div x y = some r ∧ Exa f (p - q) r c := by
  obtain ⟨s, m, k, h1, h2, h3, h4, h5⟩ := hx.read he fa
  obtain ⟨t, n, j, g1, g2, g3, g4, g5⟩ := hy.read he fb
  have hbn : b.natAbs ≠ 0 := by omega
  have hn0 : n ≠ 0 := by
    rw [g4]; have := Nat.mul_pos (Nat.pos_of_ne_zero hbn) (Nat.two_pow_pos j); omega
  have hnl : n.log2 = b.natAbs.log2 + j := by rw [g4]; exact xlog2_scale _ _ hbn
  unfold Format.div
  rw [h1, g1]
  simp only [Datum.quotient, if_neg hn0, Option.map_some]
  refine ⟨_, rfl, ?_⟩
  obtain ⟨M, hM⟩ : ∃ M, f.fractionBits + 2 + n.log2 - m.log2 = M := ⟨_, rfl⟩
  have hj : j ≤ k + M := by omega
  rw [hM]
  have hd : m <<< M = n * (c.natAbs * 2 ^ (k + M - j)) := by
    rw [shl_eq, h4, g4, hc, Int.natAbs_mul]
    have e : 2 ^ k * 2 ^ M = 2 ^ j * 2 ^ (k + M - j) := by rw [← Nat.pow_add, ← Nat.pow_add]; congr 1; omega
    rw [Nat.mul_assoc, e]
    generalize 2 ^ j = A; generalize 2 ^ (k + M - j) = B
    rw [Nat.mul_comm c.natAbs b.natAbs, Nat.mul_assoc, Nat.mul_assoc, Nat.mul_left_comm c.natAbs]
  have hpos : 0 < n := Nat.pos_of_ne_zero hn0
  rw [hd, Nat.mul_div_cancel_left _ hpos, Nat.mul_mod_right]
  show Exa f (p - q) (f.nearest _ _ _) _
  refine exa_write (k + M - j + 1) _ _ _ ?_ (fun h0 => ?_) fs (by omega)
  · rw [Nat.pow_succ]; generalize 2 ^ (k + M - j) = B
    simp only [bne_self_eq_false, Bool.toNat_false, Nat.add_zero]
    rw [Nat.mul_comm 2, Nat.mul_assoc]
  · have ha : a ≠ 0 := by
      rw [hc]; intro h; rcases Int.mul_eq_zero.1 h with h | h
      · exact h0 h
      · exact hb h
    rw [h3 ha, g3 hb, ← mul_sign (by intro h; rcases Int.mul_eq_zero.1 h with h | h; exact ha h; exact hb h), hc]
    have hbb : 0 < b * b := by
      rcases Int.lt_or_lt_of_ne hb with h | h
      · exact Int.mul_pos_of_neg_of_neg h h
      · exact Int.mul_pos h h
    rw [Int.mul_assoc]
    refine decide_eq_decide.2 ⟨fun h => ?_, fun h => Int.mul_neg_of_neg_of_pos h hbb⟩
    rcases Int.lt_or_le c 0 with h' | h'
    · exact h'
    · have := Int.mul_nonneg h' (Int.le_of_lt hbb); omega
theorem compare_scale (a b : Int) (k : Nat) : compare (a * ((2 ^ k : Nat) : Int)) (b * ((2 ^ k : Nat) : Int)) = compare a b := by
  have hp := pow_pos' k
  generalize ((2 ^ k : Nat) : Int) = c at hp
  have h1 : (a * c < b * c) ↔ a < b := ⟨fun h => Int.lt_of_mul_lt_mul_right h (Int.le_of_lt hp), fun h => Int.mul_lt_mul_of_pos_right h hp⟩
  have h2 : (a * c = b * c) ↔ a = b := ⟨fun h => Int.eq_of_mul_eq_mul_right (by omega) h, fun h => by rw [h]⟩
  simp only [compare, compareOfLessAndEq, h1, h2]
theorem exa_order {f : Format} (he : 3 ≤ 2 ^ f.exponentBits) {p : Int} {x y : Nat} {a b : Int} (hx : Exa f p x a) (hy : Exa f p y b) (fa : Fits f p a) (fb : Fits f p b) : f.order x y = some (compare a b) := by
  obtain ⟨s, m, k, h1, h2, _⟩ := hx.read he fa
  obtain ⟨t, n, j, g1, g2, _⟩ := hy.read he fb
  unfold Format.order
  rw [h1, g1]
  simp only [Datum.order]
  have e1 : ((p - (k : Int)) - min (p - (k : Int)) (p - (j : Int))).toNat = max k j - k := by omega
  have e2 : ((p - (j : Int)) - min (p - (k : Int)) (p - (j : Int))).toNat = max k j - j := by omega
  rw [e1, e2, signed_up s m, signed_up t n, h2, g2, Int.mul_assoc, Int.mul_assoc, pow_split (by omega), pow_split (by omega), compare_scale]
theorem he32 : 3 ≤ 2 ^ Ieee.single.exponentBits := by decide
theorem he64 : 3 ≤ 2 ^ Ieee.double.exponentBits := by decide
theorem Exa.fin {p : Int} {x : Nat} {n : Int} (h : Exa single p x n) (hf : Fits single p n) : fin32 x = true := by
  obtain ⟨s, m, k, h1, _⟩ := h.read he32 hf
  simp [fin32, nan32, inf32, h1, Datum.isNaN, Datum.isInfinity]
theorem Exa.num {p : Int} {x : Nat} {n : Int} (h : Exa single p x n) (hf : Fits single p n) : nan32 x = false := by
  obtain ⟨s, m, k, h1, _⟩ := h.read he32 hf
  simp [nan32, h1, Datum.isNaN]
theorem Exa.wide {p : Int} {x : Nat} {n : Int} (h : Exa single p x n) (hf : Fits single p n) (hd : Fits double p n) : Exa double p (wide x) n := by
  obtain ⟨s, m, k, h1, h2, h3, h4, _⟩ := h.read he32 hf
  unfold Fl.wide
  rw [h1]
  exact exa_write k m s _ h4 h3 hd rfl
theorem Exa.narrow {p : Int} {x : Nat} {n : Int} (h : Exa double p x n) (hd : Fits double p n) (hf : Fits single p n) : ∃ r, floatToFloatBits .f64 x .f32 = some r ∧ Exa single p r n := by
  obtain ⟨s, m, k, h1, h2, h3, h4, _⟩ := h.read he64 hd
  have hr : Exa single p (single.nearest s m (p - k)) n := exa_write k m s _ h4 h3 hf rfl
  obtain ⟨s', m', k', g1, _⟩ := hr.read he32 hf
  have h1' : FloatKind.f64.decode x = .number s m (p - k) := h1
  have g1' : FloatKind.f32.decode (FloatKind.f32.encode (.number s m (p - k))) = .number s' m' (p - k') := g1
  refine ⟨_, ?_, hr⟩
  unfold floatToFloatBits
  rw [if_neg (by decide), h1']
  simp only [g1', Datum.isInfinity, Bool.false_eq_true, if_false]
  rfl
theorem exa_ofInt (k : FloatKind) (n : Int) : Exa k.format 0 (floatOfInt k n) n := by
  constructor
  · intro _; rfl
  · rintro rfl; exact .inl rfl
theorem xcut_way (neg : Bool) (n drop : Nat) : Toward.zero.cut neg n drop = n / 2 ^ drop := by
  unfold Toward.cut
  rw [shl_eq, Nat.one_mul]
  simp only [Bool.toNat_false, Nat.add_zero]
  by_cases h : drop ≤ n.log2 + 2
  · rw [Nat.min_eq_left h]
  · rw [Nat.min_eq_right (by omega)]
    have h1 := lt_two_log n
    have h2 : 2 ^ (n.log2 + 1) ≤ 2 ^ (n.log2 + 2) := Nat.pow_le_pow_right (by decide) (by omega)
    have h3 : 2 ^ (n.log2 + 1) ≤ 2 ^ drop := Nat.pow_le_pow_right (by decide) (by omega)
    rw [Nat.div_eq_of_lt (by omega), Nat.div_eq_of_lt (by omega)]
theorem exa_toInt {k : FloatKind} (he : 3 ≤ 2 ^ k.format.exponentBits) {x : Nat} {n : Int} (h : Exa k.format 0 x n) (hf : Fits k.format 0 n) (hn : -9223372036854775808 ≤ n ∧ n ≤ 9223372036854775807) : floatToIntVal k x .i64 = some n := by
  obtain ⟨s, m, j, h1, h2, h3, h4, _⟩ := h.read he hf
  unfold floatToIntVal
  have h1' : k.decode x = .number s m (0 - j) := h1
  have e1 : (0 - (j : Int)).toNat = 0 := by omega
  have e2 : (-(0 - (j : Int))).toNat = j := by omega
  have hp := Nat.two_pow_pos j
  have e3 : signed s (Toward.zero.cut s (m <<< 0) j) 0 = n := by
    rw [xcut_way, shl_eq, Nat.pow_zero, Nat.mul_one, h4, Nat.mul_div_cancel _ hp, signed_nat]
    by_cases h0 : n = 0
    · subst h0; cases s <;> simp
    · rw [h3 h0]
      by_cases hneg : n < 0
      · simp only [hneg, decide_true, if_true]; omega
      · simp only [hneg, decide_false, Bool.false_eq_true, if_false]; omega
  rw [h1']
  simp only [Datum.toInt, Datum.integral, e1, e2, e3]
  have : IntKind.i64.min = -9223372036854775808 ∧ IntKind.i64.max = 9223372036854775807 := by decide
  rw [if_pos ⟨by rw [this.1]; exact hn.1, by rw [this.2]; exact hn.2⟩]
theorem Exa.word {f : Format} {p : Int} {x : Nat} {n : Int} (h : Exa f p x n) (h0 : n ≠ 0) : x = f.nearest (decide (n < 0)) n.natAbs p := h.1 h0
end Go.Proofs.YtjcjijfemedojaaGreatDoor
