/- The digits of a number, one at a time from the right. Plain facts; no program. -/
import Derived.Lib.ItoaNum
namespace Go.Proofs.YtjcjijfemedojaaGreatDoor

/-- the digits of u, none for 0 -/
def digs (u : Nat) : List UInt8 := if u = 0 then [] else Lib.decDigits u

/-- 'out holds the digits that are done, r is what is left of n' -/
def DecRel (n r : Int) (out : List UInt8) : Prop := (out = [] ∧ r = n) ∨ (out ≠ [] ∧ digs r.natAbs ++ out = Lib.decDigits n.natAbs)

theorem digs_step (u : Nat) : digs (u / 10) ++ [UInt8.ofNat (48 + u % 10)] = Lib.decDigits u := by
  rw [Lib.decDigits]
  unfold digs
  by_cases h : u < 10
  · rw [dif_pos h, if_pos (by omega), show u % 10 = u by omega]; rfl
  · rw [dif_neg h, if_neg (by omega)]

theorem dec_round {n r : Int} {out : List UInt8} (h : DecRel n r out) (hgo : out = [] ∨ r ≠ 0) : DecRel n (r.tdiv 10) (UInt8.ofNat (48 + r.natAbs % 10) :: out) := by
  right
  refine ⟨by simp, ?_⟩
  have hq : (r.tdiv 10).natAbs = r.natAbs / 10 := by rw [Int.natAbs_tdiv]; rfl
  rw [hq]
  rcases h with ⟨rfl, rfl⟩ | ⟨h1, h2⟩
  · exact digs_step _
  · have hr : r ≠ 0 := by rcases hgo with h | h; exact absurd h h1; exact h
    have hd : digs r.natAbs = Lib.decDigits r.natAbs := by unfold digs; rw [if_neg (by omega)]
    rw [hd, ← digs_step] at h2
    rw [← h2]
    simp

theorem dec_end {n : Int} {out : List UInt8} (h : DecRel n 0 out) (ho : out ≠ []) : out = Lib.decDigits n.natAbs := by
  rcases h with ⟨h1, _⟩ | ⟨_, h2⟩
  · exact absurd h1 ho
  · simpa [digs] using h2

theorem dec_itoa (n : Int) : Lib.itoa n = if n < 0 then 45 :: Lib.decDigits n.natAbs else Lib.decDigits n.natAbs := by
  unfold Lib.itoa
  split
  · rfl
  · congr 1; omega

/-- the digit, as the code reckons it -/
theorem dec_digit (r : Int) : (if r.tmod 10 < 0 then -(r.tmod 10) else r.tmod 10) = ((r.natAbs % 10 : Nat) : Int) := by
  rcases Int.le_total 0 r with h | h
  · obtain ⟨k, rfl⟩ := Int.eq_ofNat_of_zero_le h
    have : (k : Int).tmod 10 = ((k % 10 : Nat) : Int) := rfl
    rw [this]; simp only [Int.natAbs_natCast]
    rw [if_neg (by omega)]
  · obtain ⟨k, hk⟩ := Int.eq_ofNat_of_zero_le (show 0 ≤ -r by omega)
    obtain rfl : r = -(k : Int) := by omega
    have : (-(k : Int)).tmod 10 = -((k % 10 : Nat) : Int) := by rw [Int.neg_tmod]; rfl
    rw [this, Int.natAbs_neg, Int.natAbs_natCast]
    split <;> omega

end Go.Proofs.YtjcjijfemedojaaGreatDoor
