/- The tenths' chain by natural numbers alone, so that the kernel works it out fast. -/
import Derived.Test.YtpocclcijkopnaaTenf
import Derived.Test.YtpocclcijkopnaaFs
import Derived.ProofKit
namespace Go.Proofs.Ytpocclcijkopnaa
open Go.RowKit Fl

def KT : List Nat := [0, 4607182418800017408, 4599676419421066581, 4596373779694328218, 4594314991293244562, 4592670820000712476, 4591215111030249286, 4590207312512236308, 4589468260265693457, 4588638185040256542, 4587745830934523688, 4587023449039406616, 4586426698778222948, 4585925428558828667]
def CT : List (Bool × Nat) := [(true, 4616368504503511923), (true, 4614986562260224107), (true, 4613425733568182767), (true, 4611864904876141427), (true, 4608922133940812271), (true, 4604418534313441775), (false, 0), (false, 4604418534313441775), (false, 4608922133940812271), (false, 4611864904876141427), (false, 4613425733568182767), (false, 4614986562260224107), (false, 4616368504503511923), (false, 4617148918849532593), (false, 4617929333195553263), (false, 4618709747541573933), (false, 4619490161887594603)]
def allUp (f : Nat → Bool) : Nat → Bool
  | 0 => true
  | n + 1 => f n && allUp f n
theorem allUp_at (f : Nat → Bool) : ∀ (n : Nat), allUp f n = true → ∀ k, k < n → f k = true
  | 0, _, k, hk => by omega
  | n + 1, h, k, hk => by
    unfold allUp at h
    simp only [Bool.and_eq_true] at h
    by_cases hk' : k = n
    · subst hk'; exact h.1
    · exact allUp_at f n h.2 k (by omega)
def oneK (i : Nat) : Bool := floatBits .quo .f64 4607182418800017408 (floatOfInt .f64 ((2 * (i + 1) - 1 : Nat) : Int)) == some (KT.getD (i + 1) 0)
def oneC (k : Nat) : Bool := (k == 6) || floatBits .mul .f64 (floatOfInt .f64 ((k : Int) - 6)) 4604418534313441775 == some (wd (CT.getD k (false, 0)))
theorem allK : allUp oneK 13 = true := by kernel_rfl
theorem allC : allUp oneC 17 = true := by kernel_rfl
theorem K_ok (j : Nat) (h1 : 1 ≤ j) (h2 : j ≤ 13) : floatBits .quo .f64 4607182418800017408 (floatOfInt .f64 ((2 * j - 1 : Nat) : Int)) = some (KT.getD j 0) := by
  have h := allUp_at _ _ allK (j - 1) (by omega)
  unfold oneK at h
  rw [show j - 1 + 1 = j by omega] at h
  exact eq_of_beq h
theorem C_ok (k : Nat) (h1 : k < 17) (h2 : k ≠ 6) : floatBits .mul .f64 (floatOfInt .f64 ((k : Int) - 6)) 4604418534313441775 = some (wd (CT.getD k (false, 0))) := by
  have h := allUp_at _ _ allC k h1
  unfold oneC at h
  simp only [Bool.or_eq_true, beq_iff_eq] at h
  exact h.resolve_left h2

/-- the sum's rounds -/
def logQ (u : Nat) : Nat → Nat → Option Nat
  | 0, p => some p
  | j + 1, p => (mulW u p).bind fun b => (addW (KT.getD (j + 1) 0) b).bind fun p' => logQ u j p'
theorem logQ_rel (u : Nat) : ∀ (n p r : Nat), n ≤ 13 → logQ u n p = some r → ∃ P : Nat → Nat, P n = p ∧ P 0 = r ∧ ∀ j, 1 ≤ j → j ≤ n → LogStep u (P j) (2 * j - 1) (P (j - 1))
  | 0, p, r, _, h => ⟨fun _ => p, rfl, by simpa [logQ] using h, fun k h1 h2 => by omega⟩
  | n + 1, p, r, hn, h => by
    unfold logQ at h
    obtain ⟨b, hb, h⟩ := Option.bind_eq_some_iff.1 h
    obtain ⟨p', hp', h2⟩ := Option.bind_eq_some_iff.1 h
    obtain ⟨P, hp, hr, hs⟩ := logQ_rel u n p' r (by omega) h2
    refine ⟨fun k => if k ≤ n then P k else p, if_neg (by omega), by simpa using hr, fun k k1 k2 => ?_⟩
    by_cases hk : k ≤ n
    · have := hs k k1 hk
      simp only [hk, if_true]
      rw [if_pos (by omega)]
      exact this
    · obtain rfl : k = n + 1 := by omega
      simp only [Nat.add_sub_cancel, Nat.le_refl, if_true, hp]
      rw [if_neg hk]
      exact ⟨_, b, K_ok (n + 1) (by omega) hn, mulW_eq hb, addW_eq hp'⟩
/-- the first round, from nothing -/
theorem log_first {u : Nat} (h : mid u = true) : LogStep u 0 (2 * 13 - 1) 4585925428558828667 := ⟨4585925428558828667, 0, K_ok 13 (by omega) (by omega), mul_zero h, by kernel_rfl⟩
theorem mulS_mid {p q r : Bool × Nat} (h : mulS p q = some r) : mid p.2 = true ∧ mid q.2 = true ∧ r.1 = xor p.1 q.1 := by
  unfold mulS at h
  cases hc : (mid p.2 && mid q.2)
  · rw [hc] at h; cases h
  · rw [hc] at h
    simp only [Bool.and_eq_true] at hc
    obtain rfl := Option.some.inj h
    exact ⟨hc.1, hc.2, rfl⟩
theorem round_exact (m k : Nat) : roundW (m * 2 ^ k) k = m := by
  unfold roundW
  have h1 : Nat.div (m * 2 ^ k) (Nat.pow 2 k) = m := Nat.mul_div_cancel m (Nat.two_pow_pos k)
  have h2 : Nat.mod (m * 2 ^ k) (Nat.pow 2 k) = 0 := Nat.mul_mod_left m (2 ^ k)
  have h3 : Nat.ble (Nat.mul 2 0) (Nat.pow 2 k) = true := by rw [Nat.ble_eq]; exact Nat.zero_le _
  have h4 : Nat.beq (Nat.mul 2 0) (Nat.pow 2 k) = false := by
    have := Nat.two_pow_pos k
    cases h : Nat.beq (Nat.mul 2 0) (Nat.pow 2 k)
    · rfl
    · have h5 := Nat.eq_of_beq_eq_true h
      have h6 : Nat.mul 2 0 = 0 := rfl
      have h7 : Nat.pow 2 k = 2 ^ k := rfl
      omega
  simp only [h1, h2, h3, h4, cond_true, cond_false]
  exact Nat.add_zero m
theorem log_sg {x : Nat} (h : mid x = true) : (sg x * 2 ^ (xp x - 1)).log2 = 52 + (xp x - 1) := by
  obtain ⟨a1, a2, a5, a3, a4⟩ := mid_bounds h
  have hp := Nat.two_pow_pos (xp x - 1)
  have l1 := log2_ge (sg x * 2 ^ (xp x - 1)) (52 + (xp x - 1)) (by rw [Nat.pow_add, show (2 : Nat) ^ 52 = 4503599627370496 by decide]; exact Nat.mul_le_mul_right _ a3)
  have l2 := log2_le (sg x * 2 ^ (xp x - 1)) (52 + (xp x - 1)) (by rw [show 52 + (xp x - 1) + 1 = 53 + (xp x - 1) by omega, Nat.pow_add, show (2 : Nat) ^ 53 = 9007199254740992 by decide]; exact Nat.mul_lt_mul_of_pos_right a4 hp)
  omega
theorem near_self {x : Nat} (h : mid x = true) (hpos : sg x * 2 ^ (xp x - 1) ≠ 0) : Ieee.double.nearest false (sg x * 2 ^ (xp x - 1)) (-1074) = x := by
  have hl := log_sg h
  rw [near_parts _ hpos _ (by omega), hl, show 52 - (52 + (xp x - 1)) = 0 by omega, Nat.shiftLeft_zero, show 52 + (xp x - 1) - 52 = xp x - 1 by omega, cut_round _ _ (by omega), round_exact, show ((-1074 : Int) + ((52 + (xp x - 1) : Nat) : Int) + 1022).toNat = xp x - 1 by omega]
  obtain ⟨a1, a2, a5, a3, a4⟩ := mid_bounds h
  generalize sg x = g at *
  generalize xp x = e at *
  omega
theorem near_selfS (s : Bool) {x : Nat} (h : mid x = true) (hpos : sg x * 2 ^ (xp x - 1) ≠ 0) : Ieee.double.nearest s (sg x * 2 ^ (xp x - 1)) (-1074) = wd (s, x) := by
  cases s
  · exact near_self h hpos
  · rw [near_sign, near_self h hpos, wd_true]
theorem zero_close (s : Bool) (M : Nat) (hM : M ≠ 0) (T : Int) (hT : T = cond s (-(M : Int)) (M : Int)) : Ieee.double.write (.number (if T = 0 then s && false else decide (T < 0)) T.natAbs (-1074)) = Ieee.double.nearest s M (-1074) := by
  have hz : T ≠ 0 := by
    rw [hT]; cases s
    · show (M : Int) ≠ 0; omega
    · show -(M : Int) ≠ 0; omega
  have ha : T.natAbs = M := by
    rw [hT]; cases s
    · show ((M : Int)).natAbs = M; omega
    · show (-(M : Int)).natAbs = M; omega
  have hs : decide (T < 0) = s := by
    rw [hT]; cases s
    · show decide ((M : Int) < 0) = false; exact decide_eq_false (by omega)
    · show decide (-(M : Int) < 0) = true; exact decide_eq_true (by omega)
  rw [if_neg hz, ha, hs]
  rfl
theorem add_zero' {p : Bool × Nat} (h : mid p.2 = true) : floatBits .add .f64 (wd p) 0 = some (wd p) := by
  obtain ⟨s, x⟩ := p
  dsimp only at h
  obtain ⟨a1, a2, a5, a3, a4⟩ := mid_bounds h
  have hpos : sg x * 2 ^ (xp x - 1) ≠ 0 := by
    have := Nat.mul_pos (show 0 < sg x by omega) (Nat.two_pow_pos (xp x - 1)); omega
  show ((Ieee.double.read _).sum (Ieee.double.read 0)).map Ieee.double.write = _
  rw [read_wd s h, show Ieee.double.read 0 = .number false 0 (-1074) by decide]
  have ek : min ((xp x : Int) - 1075) (-1074) = -1074 := by omega
  have es : Ieee.signed s (sg x) ((xp x : Int) - 1075 - -1074).toNat = cond s (-((sg x * 2 ^ (xp x - 1) : Nat) : Int)) ((sg x * 2 ^ (xp x - 1) : Nat) : Int) := by
    rw [signed_cond, show ((xp x : Int) - 1075 - -1074).toNat = xp x - 1 by omega]
  have ez : Ieee.signed false 0 ((-1074 : Int) - -1074).toNat = 0 := by decide
  show some (Ieee.double.write _) = _
  simp only [ek, es, ez, Int.add_zero]
  rw [← near_selfS s h hpos]
  exact congrArg some (zero_close s _ hpos _ rfl)

/-- minus the power of two that takes N to between 3/4 and 3/2 -/
def efOf (N : Nat) : Nat := cond (Nat.ble (Nat.mul 3 (Nat.pow 2 (lg5 N))) (Nat.mul 2 N)) (Nat.succ (lg5 N)) (lg5 N)
def c1 : Bool × Nat := (false, 4607182418800017408)
def tenQ (N : Nat) : Option (Bool × Nat) :=
  (subS (false, nrW N (Nat.sub 4000 (efOf N))) c1).bind fun a => (addS (false, nrW N (Nat.sub 4000 (efOf N))) c1).bind fun b => (divS a b).bind fun s => (mulS s s).bind fun u =>
  (logQ u.2 12 4585925428558828667).bind fun p0 => (mulS s (false, p0)).bind fun q1 => (mulS (false, 4611686018427387904) q1).bind fun q2 =>
  (cond (Nat.beq (efOf N) 6) (some q2) (cond (Nat.ble (efOf N) 16) (addS q2 (CT.getD (efOf N) (false, 0))) none)).bind fun l => (mulS l (false, 4631308968768463603)).bind fun v => addS v (false, 4602678819172646912)
/-- what is asked of the last number -/
def LastRel (x : Nat) (e : Int) (r : Nat) : Prop := ∃ l v, LogRel x e l ∧ floatBits .mul .f64 l 4631308968768463603 = some v ∧ floatBits .add .f64 v 4602678819172646912 = some r
theorem tenQ_rel (N : Nat) (r : Bool × Nat) (h : tenQ N = some r) : LastRel (nrW N (4000 - efOf N)) ((efOf N : Int) - 6) (wd r) := by
  obtain ⟨a, ha, h⟩ := Option.bind_eq_some_iff.1 h
  obtain ⟨b, hb, h⟩ := Option.bind_eq_some_iff.1 h
  obtain ⟨s, hs, h⟩ := Option.bind_eq_some_iff.1 h
  obtain ⟨u, hu, h⟩ := Option.bind_eq_some_iff.1 h
  obtain ⟨p0, hp0, h⟩ := Option.bind_eq_some_iff.1 h
  obtain ⟨q1, hq1, h⟩ := Option.bind_eq_some_iff.1 h
  obtain ⟨q2, hq2, h⟩ := Option.bind_eq_some_iff.1 h
  obtain ⟨l, hl, h⟩ := Option.bind_eq_some_iff.1 h
  obtain ⟨v, hv, h⟩ := Option.bind_eq_some_iff.1 h
  have hu1 : u = (false, u.2) := by
    have := (mulS_mid hu).2.2
    rw [Bool.xor_self] at this
    exact Prod.ext this rfl
  have hmu : mid u.2 = true := by
    unfold logQ at hp0
    obtain ⟨b', hb', _⟩ := Option.bind_eq_some_iff.1 hp0
    unfold mulW at hb'
    cases hc : mid u.2
    · rw [hc] at hb'; cases hb'
    · rfl
  obtain ⟨P, P12, P0, Ps⟩ := logQ_rel u.2 12 _ _ (by omega) hp0
  have hc6 : ∃ c, floatBits .mul .f64 (floatOfInt .f64 ((efOf N : Int) - 6)) 4604418534313441775 = some c ∧ floatBits .add .f64 (wd q2) c = some (wd l) := by
    by_cases h6 : efOf N = 6
    · rw [h6] at hl ⊢
      refine ⟨0, by decide, ?_⟩
      obtain rfl : q2 = l := Option.some.inj hl
      exact add_zero' (mulS_mid hv).1
    · have hb6 : Nat.beq (efOf N) 6 = false := by
        cases hq : Nat.beq (efOf N) 6
        · rfl
        · exact absurd (Nat.eq_of_beq_eq_true hq) h6
      rw [hb6] at hl
      cases hb16 : Nat.ble (efOf N) 16
      · rw [hb16] at hl; cases hl
      · rw [hb16] at hl
        exact ⟨_, C_ok (efOf N) (by rw [Nat.ble_eq] at hb16; omega) h6, addS_eq hl⟩
  obtain ⟨c, hc, hcl⟩ := hc6
  refine ⟨wd l, wd v, ⟨wd a, wd b, wd s, u.2, wd q1, wd q2, c, fun j => if j ≤ 12 then P j else 0, subS_eq ha, addS_eq hb, divS_eq hs, ?_, rfl, ?_, ?_, mulS_eq hq2, hc, hcl⟩, mulS_eq hv, addS_eq h⟩
  · have := mulS_eq hu
    rw [hu1] at this
    exact this
  · intro j h1 h2
    by_cases hj : j ≤ 12
    · simp only [hj, if_true]
      rw [if_pos (by omega)]
      exact Ps j h1 hj
    · obtain rfl : j = 13 := by omega
      show LogStep u.2 0 (2 * 13 - 1) (P 12)
      rw [P12]
      exact log_first hmu
  · simp only [Nat.zero_le, if_true, P0]
    exact mulS_eq hq1

/-- the same by the model's own operations -/
def logS (u : Nat) : Nat → Nat → Option Nat
  | 0, p => some p
  | j + 1, p => (floatBits .mul .f64 u p).bind fun b => (floatBits .add .f64 (KT.getD (j + 1) 0) b).bind fun p' => logS u j p'
theorem logS_rel (u : Nat) : ∀ (n p r : Nat), n ≤ 13 → logS u n p = some r → ∃ P : Nat → Nat, P n = p ∧ P 0 = r ∧ ∀ j, 1 ≤ j → j ≤ n → LogStep u (P j) (2 * j - 1) (P (j - 1))
  | 0, p, r, _, h => ⟨fun _ => p, rfl, by simpa [logS] using h, fun k h1 h2 => by omega⟩
  | n + 1, p, r, hn, h => by
    unfold logS at h
    obtain ⟨b, hb, h⟩ := Option.bind_eq_some_iff.1 h
    obtain ⟨p', hp', h2⟩ := Option.bind_eq_some_iff.1 h
    obtain ⟨P, hp, hr, hs⟩ := logS_rel u n p' r (by omega) h2
    refine ⟨fun k => if k ≤ n then P k else p, if_neg (by omega), by simpa using hr, fun k k1 k2 => ?_⟩
    by_cases hk : k ≤ n
    · have := hs k k1 hk
      simp only [hk, if_true]
      rw [if_pos (by omega)]
      exact this
    · obtain rfl : k = n + 1 := by omega
      simp only [Nat.add_sub_cancel, Nat.le_refl, if_true, hp]
      rw [if_neg hk]
      exact ⟨_, b, K_ok (n + 1) (by omega) hn, hb, hp'⟩
def tenS (x : Nat) (e : Int) : Option Nat :=
  (floatBits .sub .f64 x 4607182418800017408).bind fun a => (floatBits .add .f64 x 4607182418800017408).bind fun b => (floatBits .quo .f64 a b).bind fun s => (floatBits .mul .f64 s s).bind fun u =>
  (logS u 13 0).bind fun p0 => (floatBits .mul .f64 s p0).bind fun q1 => (floatBits .mul .f64 4611686018427387904 q1).bind fun q2 => (floatBits .mul .f64 (floatOfInt .f64 e) 4604418534313441775).bind fun c =>
  (floatBits .add .f64 q2 c).bind fun l => (floatBits .mul .f64 l 4631308968768463603).bind fun v => floatBits .add .f64 v 4602678819172646912
theorem tenS_rel (x : Nat) (e : Int) (r : Nat) (h : tenS x e = some r) : LastRel x e r := by
  obtain ⟨a, ha, h⟩ := Option.bind_eq_some_iff.1 h
  obtain ⟨b, hb, h⟩ := Option.bind_eq_some_iff.1 h
  obtain ⟨s, hs, h⟩ := Option.bind_eq_some_iff.1 h
  obtain ⟨u, hu, h⟩ := Option.bind_eq_some_iff.1 h
  obtain ⟨p0, hp0, h⟩ := Option.bind_eq_some_iff.1 h
  obtain ⟨q1, hq1, h⟩ := Option.bind_eq_some_iff.1 h
  obtain ⟨q2, hq2, h⟩ := Option.bind_eq_some_iff.1 h
  obtain ⟨c, hc, h⟩ := Option.bind_eq_some_iff.1 h
  obtain ⟨l, hl, h⟩ := Option.bind_eq_some_iff.1 h
  obtain ⟨v, hv, h⟩ := Option.bind_eq_some_iff.1 h
  obtain ⟨P, P13, P0, Ps⟩ := logS_rel u 13 _ _ (by omega) hp0
  exact ⟨l, v, ⟨a, b, s, u, q1, q2, c, P, ha, hb, hs, hu, P13, Ps, by rw [P0]; exact hq1, hq2, hc, hl⟩, hv, h⟩
end Go.Proofs.Ytpocclcijkopnaa
