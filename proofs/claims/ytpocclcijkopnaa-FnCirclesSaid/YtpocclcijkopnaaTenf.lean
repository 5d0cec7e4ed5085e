/- The logarithm's chain after the loops is told by numbers, and they are small. Plain facts. -/
import Derived.Test.YtpocclcijkopnaaTen
namespace Go.Proofs.Ytpocclcijkopnaa
open Go.RowKit Fl
open Ieee (Datum Toward)

theorem bd_ln2 : Bd 4604418534313441775 1074 := bd_of_read false 6243314768165359 (-53) (by decide) (by decide) 53 (by decide) (by decide)
theorem bd_db : Bd 4631308968768463603 1080 := bd_of_read false 6112151458964211 (-47) (by decide) (by decide) 53 (by decide) (by decide)
theorem bd_two : Bd 4611686018427387904 1076 := bd_of_read false (2 ^ 52) (-51) (by decide) (by decide) 53 (by decide) (by decide)

theorem bd_int (n : Int) (h : n.natAbs ≤ 2 ^ 9) : Bd (floatOfInt .f64 n) 1083 := by
  show Bd (Ieee.double.nearest (decide (n < 0)) n.natAbs 0) 1083
  refine bd_nearest _ _ _ 1083 0 (by decide) (by decide) (by decide) ?_
  rw [show (0 + 1074 + ((0 : Nat) : Int)).toNat = U by rw [U_eq]; rfl, show 1083 + 0 = 9 + U by rw [U_eq], Nat.pow_add]
  exact Nat.mul_le_mul_right _ h

theorem tenths_facts (x m : Nat) (i k : Int) (hx : Ieee.double.read x = .number false m i) (hi : -1074 ≤ i) (h1 : CC ≤ VV m i) (h2 : VV m i < 2 * CC) (hk : k.natAbs ≤ 2 ^ 9) : ∃ r, TenRel x k r ∧ Bd r 1099 := by
  obtain ⟨⟨a, ha, ga⟩, ⟨b, hb, gb⟩⟩ := near_one x m i hx hi h1 h2
  obtain ⟨s, hs, gs⟩ := bd_quo 1074 ga gb (by omega) (by omega) (by omega)
  obtain ⟨u, hu, gu⟩ := bd_mul 1074 gs gs (by omega) (by omega) (by omega)
  obtain ⟨P, p1, p2, p3⟩ := log_loop u gu
  obtain ⟨q1, hq1, gq1⟩ := bd_mul 1088 gs p3 (by omega) (by omega) (by omega)
  obtain ⟨q2, hq2, gq2⟩ := bd_mul 1090 bd_two gq1 (by omega) (by omega) (by omega)
  obtain ⟨c, hc, gc⟩ := bd_mul 1090 (bd_int k hk) bd_ln2 (by omega) (by omega) (by omega)
  obtain ⟨l, hl, gl⟩ := bd_add gq2 gc (by omega) (by omega)
  obtain ⟨v, hv, gv⟩ := bd_mul 1098 gl bd_db (by omega) (by omega) (by omega)
  obtain ⟨r, hr, gr⟩ := bd_add gv (bd_half.mono (by omega)) (by omega) (by omega)
  exact ⟨r, ⟨a, b, s, u, q1, q2, c, l, v, P, ha, hb, hs, hu, p1, p2, hq1, hq2, hc, hl, hv, hr⟩, gr⟩

/-- what follows the loops, up to the logarithm -/
def LogRel (x : Nat) (e : Int) (l : Nat) : Prop := ∃ (a b s u q1 q2 c : Nat) (P : Nat → Nat), floatBits .sub .f64 x 4607182418800017408 = some a ∧ floatBits .add .f64 x 4607182418800017408 = some b ∧ floatBits .quo .f64 a b = some s ∧ floatBits .mul .f64 s s = some u ∧
  P 13 = 0 ∧ (∀ j, 1 ≤ j → j ≤ 13 → LogStep u (P j) (2 * j - 1) (P (j - 1))) ∧ floatBits .mul .f64 s (P 0) = some q1 ∧ floatBits .mul .f64 4611686018427387904 q1 = some q2 ∧ floatBits .mul .f64 (floatOfInt .f64 e) 4604418534313441775 = some c ∧
  floatBits .add .f64 q2 c = some l
theorem TenRel.log {x : Nat} {e : Int} {r : Nat} (h : TenRel x e r) : ∃ l v, LogRel x e l ∧ floatBits .mul .f64 l 4631308968768463603 = some v ∧ floatBits .add .f64 v 4602678819172646912 = some r := by
  obtain ⟨a, b, s, u, q1, q2, c, l, v, P, h1, h2, h3, h4, h5, h6, h7, h8, h9, h10, h11, h12⟩ := h
  exact ⟨l, v, ⟨a, b, s, u, q1, q2, c, P, h1, h2, h3, h4, h5, h6, h7, h8, h9, h10⟩, h11, h12⟩

end Go.Proofs.Ytpocclcijkopnaa
