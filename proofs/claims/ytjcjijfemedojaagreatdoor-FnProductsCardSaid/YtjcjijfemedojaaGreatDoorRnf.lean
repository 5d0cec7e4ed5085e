/- Eight digits read: plain facts. -/
import Derived.Test.YtjcjijfemedojaaGreatDoorPu
import Derived.Test.YtjcjijfemedojaaGreatDoorNt
namespace Go.Proofs.YtjcjijfemedojaaGreatDoor
open Fl

def dv8 (c : UInt8) : Option Nat := if 48 ≤ c.toNat ∧ c.toNat ≤ 57 then some (c.toNat - 48) else if 97 ≤ c.toNat ∧ c.toNat ≤ 102 then some (c.toNat - 87) else none
def hv : Nat → List UInt8 → Option Nat
  | n, [] => some n
  | n, c :: r => match dv8 c with
    | none => none
    | some d => hv (16 * n + d) r
theorem dv8_all : ∀ n : Fin 256, (match dv8 (UInt8.ofNat n.val) with | none => true | some d => decide (dv (UInt8.ofNat n.val) = some d) && decide (d < 16) && decide (hdig d = UInt8.ofNat n.val)) = true := by decide +kernel
theorem dv8_some {c : UInt8} {d : Nat} (h : dv8 c = some d) : dv c = some d ∧ d < 16 ∧ hdig d = c := by
  have := dv8_all ⟨c.toNat, c.toNat_lt⟩
  simp only [UInt8.ofNat_toNat, h, Bool.and_eq_true, decide_eq_true_eq] at this
  exact ⟨this.1.1, this.1.2, this.2⟩
theorem dv8_hdig : ∀ d : Fin 16, dv8 (hdig d.val) = some d.val := by decide
theorem hv_step {c : UInt8} {n d : Nat} {r : List UInt8} (h : dv8 c = some d) : hv n (c :: r) = hv (16 * n + d) r := by rw [hv, h]
theorem hv_stop {c : UInt8} {n : Nat} {r : List UInt8} (h : dv8 c = none) : hv n (c :: r) = none := by rw [hv, h]
theorem hv_pu : ∀ (l : List UInt8) (n m a : Nat), hv n l = some m → n < 16 ^ a → l.length + a ≤ 8 → pu n l = .ok m ∧ m < 16 ^ (a + l.length)
  | [], n, m, a, h, hn, _ => by
    obtain rfl : n = m := Option.some.inj h
    exact ⟨rfl, by simpa using hn⟩
  | c :: r, n, m, a, h, hn, hl => by
    cases hd : dv8 c with
    | none => rw [hv_stop hd] at h; cases h
    | some d =>
      rw [hv_step hd] at h
      obtain ⟨h1, h2, _⟩ := dv8_some hd
      have hn2 : 16 * n + d < 16 ^ (a + 1) := by rw [Nat.pow_succ]; omega
      have ha : 16 ^ (a + 1) ≤ 16 ^ 8 := Nat.pow_le_pow_right (by decide) (by simp at hl; omega)
      have e8 : (16 : Nat) ^ 8 = 4294967296 := by decide
      obtain ⟨h3, h4⟩ := hv_pu r (16 * n + d) m (a + 1) h hn2 (by simp at hl; omega)
      refine ⟨by rw [pu_step h1 (by omega)]; exact h3, ?_⟩
      rw [List.length_cons, show a + (r.length + 1) = a + 1 + r.length by omega]; exact h4
theorem hexk_left : ∀ (k m : Nat), hexk (k + 1) m = hdig (m / 16 ^ k % 16) :: hexk k m
  | 0, m => by simp [hexk]
  | k + 1, m => by
    rw [hexk, hexk_left k (m / 16), Nat.div_div_eq_div_mul, ← Nat.pow_succ', hexk, List.cons_append]
theorem hv_digits : ∀ (l : List UInt8) (n m : Nat), hv n l = some m → hexk l.length m = l ∧ m / 16 ^ l.length = n
  | [], n, m, h => by
    obtain rfl : n = m := Option.some.inj h
    exact ⟨rfl, by simp⟩
  | c :: r, n, m, h => by
    cases hd : dv8 c with
    | none => rw [hv_stop hd] at h; cases h
    | some d =>
      rw [hv_step hd] at h
      obtain ⟨_, h2, h3⟩ := dv8_some hd
      obtain ⟨i1, i2⟩ := hv_digits r (16 * n + d) m h
      rw [List.length_cons, hexk_left, i1, i2, show (16 * n + d) % 16 = d by omega, h3, Nat.pow_succ, ← Nat.div_div_eq_div_mul, i2]
      exact ⟨rfl, by omega⟩
theorem hv_hexk : ∀ (k n m : Nat), hv n (hexk k m) = some (n * 16 ^ k + m % 16 ^ k)
  | 0, n, m => by simp [hexk, hv, Nat.mod_one]
  | k + 1, n, m => by
    rw [hexk_left, hv_step (dv8_hdig ⟨m / 16 ^ k % 16, Nat.mod_lt _ (by decide)⟩), hv_hexk k]
    congr 1
    have := Nat.mod_pow_succ (b := 16) (k := k) (x := m)
    rw [this, Nat.pow_succ, Nat.add_mul, Nat.mul_comm (16 ^ k) (m / 16 ^ k % 16), Nat.mul_comm 16 n, Nat.mul_assoc, Nat.mul_comm 16 (16 ^ k)]
    show _ + m / 16 ^ k % 16 * 16 ^ k + _ = _
    omega
/-- the bits that eight digits spell, if they are a number's -/
def rn (l : List UInt8) : Option Nat := if l.length = 8 then (match hv 0 l with | none => none | some n => if bitsN n = n then some n else none) else none
theorem rn_yes {l : List UInt8} {n : Nat} (h : rn l = some n) : l.length = 8 ∧ hv 0 l = some n ∧ bitsN n = n := by
  unfold rn at h
  split at h
  · rename_i h8
    cases hh : hv 0 l with
    | none => rw [hh] at h; cases h
    | some m =>
      rw [hh] at h
      by_cases hb : bitsN m = m
      · simp only [if_pos hb] at h
        obtain rfl := Option.some.inj h
        exact ⟨h8, rfl, hb⟩
      · simp only [if_neg hb] at h; cases h
  · cases h
theorem rn_mk {l : List UInt8} {n : Nat} (h1 : l.length = 8) (h2 : hv 0 l = some n) (h3 : bitsN n = n) : rn l = some n := by
  unfold rn; rw [if_pos h1, h2]; exact if_pos h3
theorem rn_pu {l : List UInt8} {n : Nat} (h : rn l = some n) : pu 0 l = .ok n ∧ n < 4294967296 ∧ hx8 n = l := by
  obtain ⟨h1, h2, h3⟩ := rn_yes h
  obtain ⟨h4, h5⟩ := hv_pu l 0 n 0 h2 (by decide) (by omega)
  rw [h1] at h5
  refine ⟨h4, by simpa using h5, ?_⟩
  unfold hx8
  rw [h3, ← h1]
  exact (hv_digits l 0 n h2).1
theorem pu_rn {l : List UInt8} {n : Nat} (h : pu 0 l = .ok n) (hn : n < 4294967296) (he : hx8 n = l) : rn l = some n := by
  have h8 : l.length = 8 := by rw [← he]; exact hx8_len n
  have h2 : hv 0 l = some (bitsN n) := by
    rw [← he]; unfold hx8
    rw [hv_hexk, Nat.zero_mul, Nat.zero_add, Nat.mod_eq_of_lt (show bitsN n < 16 ^ 8 from bitsN_lt hn)]
  have h3 := (hv_pu l 0 _ 0 h2 (by decide) (by omega)).1
  rw [h] at h3
  have e : n = bitsN n := by injection h3
  exact rn_mk h8 (by rw [h2, ← e]) e.symm
end Go.Proofs.YtjcjijfemedojaaGreatDoor
