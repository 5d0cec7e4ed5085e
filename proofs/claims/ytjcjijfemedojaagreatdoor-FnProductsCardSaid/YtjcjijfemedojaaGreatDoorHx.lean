/- Hexadecimal digits: plain facts; no program. -/
import Derived.Test.YtjcjijfemedojaaGreatDoorRdf
namespace Go.Proofs.YtjcjijfemedojaaGreatDoor

def hdig (d : Nat) : UInt8 := if d < 10 then UInt8.ofNat (48 + d) else UInt8.ofNat (87 + d)
/-- k digits -/
def hexk : Nat → Nat → List UInt8
  | 0, _ => []
  | k + 1, n => hexk k (n / 16) ++ [hdig (n % 16)]
/-- as many digits as there are -/
def hexf : Nat → Nat → List UInt8
  | 0, _ => []
  | f + 1, n => if n < 16 then [hdig n] else hexf f (n / 16) ++ [hdig (n % 16)]
theorem hexk_length : ∀ k n, (hexk k n).length = k
  | 0, _ => rfl
  | k + 1, n => by rw [hexk, List.length_append, hexk_length k]; rfl
theorem hexk_zero : ∀ k, hexk k 0 = List.replicate k 48
  | 0 => rfl
  | k + 1 => by rw [hexk, hexk_zero k, List.replicate_succ']; rfl
theorem hexf_pos : ∀ f n, 0 < f → 0 < (hexf f n).length
  | f + 1, n, _ => by
    unfold hexf
    split <;> simp
theorem hexf_pad : ∀ k n, n < 16 ^ (k + 1) → hexk (k + 1) n = List.replicate (k + 1 - (hexf (k + 1) n).length) 48 ++ hexf (k + 1) n ∧ (hexf (k + 1) n).length ≤ k + 1
  | 0, n, h => by
    have h16 : n < 16 := by simpa using h
    rw [hexf, if_pos h16, hexk, hexk, Nat.mod_eq_of_lt h16]
    exact ⟨rfl, Nat.le_refl _⟩
  | k + 1, n, h => by
    by_cases h16 : n < 16
    · rw [hexf, if_pos h16, hexk, Nat.mod_eq_of_lt h16, Nat.div_eq_of_lt h16, hexk_zero]
      exact ⟨rfl, by simp⟩
    · obtain ⟨h1, h2⟩ := hexf_pad k (n / 16) (by rw [Nat.pow_succ] at h; exact Nat.div_lt_of_lt_mul (by omega))
      rw [hexf, if_neg h16, hexk, h1, List.length_append, List.append_assoc]
      refine ⟨?_, by simp; omega⟩
      rw [show k + 1 + 1 - ((hexf (k + 1) (n / 16)).length + [hdig (n % 16)].length) = k + 1 - (hexf (k + 1) (n / 16)).length by simp]
theorem hexf_small {f n : Nat} (h : n < 16) (hf : 0 < f) : hexf f n = [hdig n] := by
  cases f with
  | zero => omega
  | succ f => rw [hexf, if_pos h]
theorem hexf_big {f n : Nat} (h : 16 ≤ n) : hexf (f + 1) n = hexf f (n / 16) ++ [hdig (n % 16)] := by rw [hexf, if_neg (by omega)]
/-- the digits that the loop has still to write, and those that it has written -/
def HexRel (n m k : Nat) (suf : List UInt8) : Prop := suf.length = k ∧ k < 8 ∧ m < 16 ^ (8 - k) ∧ hexf 8 n = hexf (8 - k) m ++ suf
theorem HexRel.start {n : Nat} (h : n < 4294967296) : HexRel n n 0 [] := ⟨rfl, by omega, by simpa using h, by simp⟩
theorem HexRel.round {n m k : Nat} {suf : List UInt8} (h : HexRel n m k suf) (hm : 16 ≤ m) : HexRel n (m / 16) (k + 1) (hdig (m % 16) :: suf) := by
  obtain ⟨h1, h2, h3, h4⟩ := h
  have h7 : k + 1 < 8 := by
    rcases Nat.lt_or_ge (k + 1) 8 with h | h
    · exact h
    · have : k = 7 := by omega
      subst this
      simp at h3; omega
  obtain ⟨f, hf⟩ : ∃ f, 8 - k = f + 1 := ⟨7 - k, by omega⟩
  have hf' : 8 - (k + 1) = f := by omega
  refine ⟨by simp [h1], h7, ?_, ?_⟩
  · rw [hf']
    rw [hf, Nat.pow_succ] at h3
    exact Nat.div_lt_of_lt_mul (by omega)
  · rw [h4, hf, hf', hexf_big hm, List.append_assoc]; rfl
theorem HexRel.last {n m k : Nat} {suf : List UInt8} (h : HexRel n m k suf) (hm : m < 16) : hexf 8 n = hdig m :: suf := by
  obtain ⟨h1, h2, h3, h4⟩ := h
  rw [h4, hexf_small hm (by omega)]; rfl
theorem drop_set {α : Type} (l : List α) (i : Nat) (x : α) (h : i < l.length) : (l.set i x).drop i = x :: l.drop (i + 1) := by
  rw [List.drop_set, if_neg (by omega), Nat.sub_self, List.drop_eq_getElem_cons h]; rfl
end Go.Proofs.YtjcjijfemedojaaGreatDoor
