/- Reading decimals: plain facts on digits; no program. -/
import Derived.Lib.ParseIntBTie
import Derived.Lib.ParseIntBCases
import Derived.Test.YtjcjijfemedojaaGreatDoorDecf
namespace Go.Proofs.YtjcjijfemedojaaGreatDoor
open Go.Lib

def isDig (c : UInt8) : Bool := decide (48 ≤ c.toNat) && decide (c.toNat ≤ 57)
/-- what the digits of a list spell behind acc; other bytes are passed over -/
def scan (acc : Nat) : List UInt8 → Nat
  | [] => acc
  | c :: r => scan (if isDig c then 10 * acc + (c.toNat - 48) else acc) r

theorem scan_snoc (c : UInt8) : ∀ (l : List UInt8) (acc : Nat), scan acc (l ++ [c]) = if isDig c then 10 * scan acc l + (c.toNat - 48) else scan acc l
  | [], acc => by simp [scan]
  | d :: l, acc => by simp only [List.cons_append, scan]; exact scan_snoc c l _

theorem scan_lt : ∀ (l : List UInt8) (acc k : Nat), acc < 10 ^ k → scan acc l < 10 ^ (k + l.length)
  | [], acc, k, h => by simpa [scan] using h
  | c :: l, acc, k, h => by
    have : (if isDig c then 10 * acc + (c.toNat - 48) else acc) < 10 ^ (k + 1) := by
      split
      · rename_i hd
        simp only [isDig, Bool.and_eq_true, decide_eq_true_eq] at hd
        rw [Nat.pow_succ]; omega
      · rw [Nat.pow_succ]; omega
    have := scan_lt l _ (k + 1) this
    simp only [scan, List.length_cons]
    rw [show k + (l.length + 1) = k + 1 + l.length by omega]
    exact this

theorem dig_toNat (d : Nat) (h : d < 10) : (UInt8.ofNat (48 + d)).toNat = 48 + d := by
  have : (UInt8.ofNat (48 + d)).toNat = (48 + d) % 256 := by first | rfl | simp
  rw [this, Nat.mod_eq_of_lt (by omega)]
theorem isDig_dig (d : Nat) (h : d < 10) : isDig (UInt8.ofNat (48 + d)) = true := by
  simp only [isDig, dig_toNat d h, Bool.and_eq_true, decide_eq_true_eq]; omega

theorem decDigits_step (u : Nat) : decDigits u = if u < 10 then [UInt8.ofNat (48 + u)] else decDigits (u / 10) ++ [UInt8.ofNat (48 + u % 10)] := by
  rw [decDigits]
  by_cases h : u < 10
  · rw [dif_pos h, if_pos h]
  · rw [dif_neg h, if_neg h]

theorem scan_dec (u : Nat) : scan 0 (decDigits u) = u := by
  induction u using Nat.strongRecOn with
  | _ u ih =>
    rw [decDigits_step]
    by_cases h : u < 10
    · rw [if_pos h]; simp only [scan]; rw [if_pos (isDig_dig u h), dig_toNat u h]; omega
    · have hm : u % 10 < 10 := Nat.mod_lt _ (by decide)
      rw [if_neg h, scan_snoc, if_pos (isDig_dig _ hm), ih (u / 10) (by omega), dig_toNat _ hm]; omega
theorem all_dig (u : Nat) : ∀ c ∈ decDigits u, isDig c = true := by
  induction u using Nat.strongRecOn with
  | _ u ih =>
    rw [decDigits_step]
    intro c hc
    by_cases h : u < 10
    · rw [if_pos h, List.mem_singleton] at hc; subst hc; exact isDig_dig u h
    · rw [if_neg h] at hc
      rcases List.mem_append.1 hc with hc | hc
      · exact ih (u / 10) (by omega) c hc
      · rw [List.mem_singleton] at hc; subst hc; exact isDig_dig (u % 10) (Nat.mod_lt _ (by decide))
theorem dec_ne_nil (u : Nat) : decDigits u ≠ [] := by
  intro h
  have := congrArg List.length h
  rw [decDigits_length] at this
  have := nDigits_pos u
  simp at *
  omega

theorem scan_ge : ∀ (l : List UInt8) (acc : Nat), acc ≤ scan acc l
  | [], acc => Nat.le_refl _
  | c :: l, acc => by
    have := scan_ge l (if isDig c then 10 * acc + (c.toNat - 48) else acc)
    simp only [scan]
    split at this <;> rename_i hd <;> simp only [hd, if_true, Bool.false_eq_true, if_false] <;> omega

theorem parse_scan (M : Nat) (hM : M < 18446744073709551616) : ∀ (l : List UInt8) (acc : Nat), (∀ c ∈ l, isDig c = true) → scan acc l ≤ 1000000000000000 → 1000000000000000 ≤ M → parseUintM M acc l = .ok (scan acc l)
  | [], acc, _, _, _ => by simp [parseUintM, scan]
  | c :: l, acc, h, hs, hl => by
    have hd := h c (by simp)
    simp only [scan, hd, if_true] at hs ⊢
    have hge := scan_ge l (10 * acc + (c.toNat - 48))
    simp only [isDig, Bool.and_eq_true, decide_eq_true_eq] at hd
    have e : acc * 10 + (c.toNat - 48) = 10 * acc + (c.toNat - 48) := by omega
    rw [parseUintM, if_pos hd, if_neg (by omega), if_neg (by omega), e]
    exact parse_scan M hM l _ (fun c hc => h c (by simp [hc])) hs hl

theorem parse_dec (u : Nat) (h : u ≤ 1000000000000000) : parseUintB 64 (decDigits u) = .ok u := by
  unfold parseUintB
  rw [if_neg (dec_ne_nil u), parse_scan (2 ^ 64 - 1) (by decide) _ 0 (all_dig u) (by rw [scan_dec]; exact h) (by decide), scan_dec]

theorem dec_head (u : Nat) : ∃ c r, decDigits u = c :: r ∧ isDig c = true := by
  cases h : decDigits u with
  | nil => exact absurd h (dec_ne_nil u)
  | cons c r => exact ⟨c, r, rfl, all_dig u c (by rw [h]; simp)⟩

/-- the number that the spec's loop comes to -/
def rdN (l : List UInt8) : Int := if l.head? = some 45 then -(scan 0 l : Int) else (scan 0 l : Int)

theorem itoa_eq (n : Int) : itoa n = if n < 0 then 45 :: decDigits n.natAbs else decDigits n.natAbs := dec_itoa n

theorem rdN_itoa (n : Int) : rdN (itoa n) = n := by
  rw [itoa_eq]
  unfold rdN
  by_cases h : n < 0
  · simp only [h, if_true, List.head?_cons]
    have e : isDig 45 = false := by decide
    simp only [scan, e, Bool.false_eq_true, if_false]
    rw [scan_dec]; omega
  · simp only [h, if_false]
    obtain ⟨c, r, hc, hd⟩ := dec_head n.natAbs
    have : (decDigits n.natAbs).head? ≠ some 45 := by
      rw [hc]; simp only [List.head?_cons, ne_eq, Option.some.injEq]
      rintro rfl; exact absurd hd (by decide)
    rw [if_neg this, scan_dec]; omega

theorem parse_itoa (n : Int) (h1 : -1000000000000000 ≤ n) (h2 : n ≤ 1000000000000000) : parseIntB 64 (itoa n) = .ok n := by
  rw [itoa_eq]
  by_cases h : n < 0
  · have hp := parse_dec n.natAbs (by omega)
    simp only [h, if_true]
    rw [parseIntB_minus, hp]
    unfold signedC
    simp only []
    rw [if_neg (by have : (2 : Nat) ^ (64 - 1) = 9223372036854775808 := by decide
                   omega)]
    congr 1
    omega
  · have hp := parse_dec n.natAbs (by omega)
    simp only [h, if_false]
    obtain ⟨c, r, hc, hd⟩ := dec_head n.natAbs
    rw [hc] at hp ⊢
    simp only [isDig, Bool.and_eq_true, decide_eq_true_eq] at hd
    rw [parseIntB_plain 64 c r (by omega) (by omega), hp]
    unfold signlessC
    simp only []
    rw [if_neg (by have : (2 : Nat) ^ (64 - 1) = 9223372036854775808 := by decide
                   omega)]
    congr 1
    omega

theorem itoa_len (n : Int) (h1 : -1000000000000000 ≤ n) (h2 : n ≤ 1000000000000000) : 1 ≤ (itoa n).length ∧ (itoa n).length ≤ 17 := by
  have hk : nDigits n.natAbs ≤ 16 := by
    have : n.natAbs < 10 ^ 16 := by have : (10 : Nat) ^ 16 = 10000000000000000 := by decide
                                    omega
    exact nDl 15 n.natAbs this
  have := nDigits_pos n.natAbs
  rw [itoa_eq]
  split <;> simp [decDigits_length] <;> omega
where
  nDl : ∀ (k u : Nat), u < 10 ^ (k + 1) → nDigits u ≤ k + 1
  | 0, u, h => by rw [nDigits_small (by simpa using h)]; exact Nat.le_refl _
  | k + 1, u, h => by
    by_cases h1 : u < 10
    · rw [nDigits_small h1]; omega
    · rw [nDigits_big h1]
      have := nDl k (u / 10) (by rw [Nat.pow_succ] at h; omega)
      omega

/-- ReadDecimal -/
def rdOk (l : List UInt8) : Bool := decide (1 ≤ l.length) && decide (l.length ≤ 17) && decide (-1000000000000000 ≤ rdN l) && decide (rdN l ≤ 1000000000000000) && decide (itoa (rdN l) = l)

theorem rdOk_itoa {n : Int} (h1 : -1000000000000000 ≤ n) (h2 : n ≤ 1000000000000000) : rdOk (itoa n) = true := by
  have := itoa_len n h1 h2
  simp [rdOk, rdN_itoa, h1, h2, this]
theorem rdOk_parse {l : List UInt8} (h : rdOk l = true) : parseIntB 64 l = .ok (rdN l) := by
  simp only [rdOk, Bool.and_eq_true, decide_eq_true_eq] at h
  obtain ⟨⟨⟨⟨_, _⟩, a⟩, b⟩, c⟩ := h
  have := parse_itoa (rdN l) a b
  rwa [c] at this
/-- where the library's reading is a number within the limits whose text this is, it is that number; else there is none -/
theorem rdOk_ok {l : List UInt8} {v : Int} (h : parseIntB 64 l = .ok v) : (rdOk l = true ↔ (-1000000000000000 ≤ v ∧ v ≤ 1000000000000000 ∧ itoa v = l)) ∧ (rdOk l = true → v = rdN l) := by
  refine ⟨⟨fun hr => ?_, fun ⟨a, b, c⟩ => by rw [← c]; exact rdOk_itoa a b⟩, fun hr => ?_⟩
  · have h2 := rdOk_parse hr
    rw [h] at h2
    injection h2 with h2
    simp only [rdOk, Bool.and_eq_true, decide_eq_true_eq] at hr
    rw [h2]; exact ⟨hr.1.1.2, hr.1.2, hr.2⟩
  · have h2 := rdOk_parse hr
    rw [h] at h2
    injection h2
theorem rdOk_no {l : List UInt8} (h : ∀ v, parseIntB 64 l ≠ .ok v) : rdOk l = false := by
  cases hr : rdOk l
  · rfl
  · exact absurd (rdOk_parse hr) (h _)

end Go.Proofs.YtjcjijfemedojaaGreatDoor
