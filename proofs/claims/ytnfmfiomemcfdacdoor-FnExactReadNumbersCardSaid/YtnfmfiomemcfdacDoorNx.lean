/- Texts of numbers: the reference's side. -/
import Derived.Test.YtnfmfiomemcfdacDoorHx
import Derived.Test.YtnfmfiomemcfdacDoorBits
import Derived.Test.YtnfmfiomemcfdacDoorBlk
import Derived.Laws.BitsAllLaws
namespace Go.Proofs.YtnfmfiomemcfdacDoor
open Go.RowKit Fl

theorem i64_and_nat (a b : Nat) (ha : a < 9223372036854775808) (hb : b < 9223372036854775808) : bits .and .i64 (a : Int) (b : Int) = ((a &&& b : Nat) : Int) := by
  have hx : a &&& b < 2 ^ 63 := Nat.and_lt_two_pow _ (by omega)
  show IntKind.i64.wrap ((BitVec.ofInt 64 (a : Int) &&& BitVec.ofInt 64 (b : Int)).toNat : Int) = _
  rw [BitVec.toNat_and, ofInt_u64 a (by omega), ofInt_u64 b (by omega)]
  exact IntWalk.i64_in _ (by omega)

def bitsN' (a : Nat) : Nat := if nan32 a then 2143289344 else a
theorem hdigs2 : ∀ d : Fin 16, (⟨#[48, 49, 50, 51, 52, 53, 54, 55, 56, 57, 97, 98, 99, 100, 101, 102]⟩ : ByteArray).data.toList[d.val]? = some (hdig d.val) := by decide
set_option maxRecDepth 100000 in
theorem dig_at2 (d : Nat) (h : d < 16) (h' : d < (⟨#[48, 49, 50, 51, 52, 53, 54, 55, 56, 57, 97, 98, 99, 100, 101, 102]⟩ : ByteArray).size) :
    (⟨#[48, 49, 50, 51, 52, 53, 54, 55, 56, 57, 97, 98, 99, 100, 101, 102]⟩ : ByteArray)[d] = hdig d := by
  have := hdigs2 ⟨d, h⟩
  exact (Array.getElem?_eq_some_iff.1 ((Array.getElem?_toList ..).symm.trans this)).2
theorem shr15 (n p : Nat) (hn : n < 4294967296) : bits .and .i64 ((n : Int) / 2 ^ p) 15 = ((n / 2 ^ p % 16 : Nat) : Int) := by
  have h1 : (n : Int) / 2 ^ p = ((n / 2 ^ p : Nat) : Int) := by simp
  have h2 : n / 2 ^ p ≤ n := Nat.div_le_self ..
  have := i64_and_nat (n / 2 ^ p) 15 (by omega) (by decide)
  rw [show ((15 : Nat) : Int) = 15 from rfl] at this
  rw [h1, this, show (15 : Nat) = 2 ^ 4 - 1 from rfl, Nat.and_two_pow_sub_one_eq_mod]
theorem hexk_step (n j p : Nat) (hj : j < 8) (hp : p = 28 - 4 * j) : hexk (j + 1) (n / 16 ^ (8 - (j + 1))) = hexk j (n / 16 ^ (8 - j)) ++ [hdig (n / 2 ^ p % 16)] := by
  have h1 : 2 ^ p = 16 ^ (8 - (j + 1)) := by
    rw [hp, show 28 - 4 * j = 4 * (8 - (j + 1)) by omega, Nat.pow_mul]
  have h2 : n / 16 ^ (8 - j) = n / 16 ^ (8 - (j + 1)) / 16 := by
    rw [Nat.div_div_eq_div_mul, ← Nat.pow_succ, show (8 - (j + 1)).succ = 8 - j by omega]
  rw [hexk, h1, h2]
theorem u8s_snoc (l : List UInt8) (c : UInt8) : u8s (l ++ [c]) = u8s l ++ [.int .u8 (c.toNat : Int)] := by simp [u8s]
set_option maxRecDepth 100000 in
set_option maxHeartbeats 1600000 in
theorem l01Hex_of (a : Nat) (w : World) (ha : a < 4294967296) :
    Calls Tryd.prog 64 #[.float .f32 a] w fun e w' => ∃ T : ByteArray, T.data.toList = hexk 8 (bitsN' a) ∧ e = .returned (.string T) ∧ Below w.heap.size w w' := by
  obtain ⟨i0, hi, hz0, hz1, hz2⟩ := info_parts Tryd.info8
  have hB := l01Bits_any a w ha
  rw [show bitsOf a = (bitsN' a : Int) by unfold bitsOf bitsN'; split <;> rfl] at hB
  have hn : bitsN' a < 4294967296 := by unfold bitsN'; split <;> omega
  generalize bitsN' a = n at hB hn ⊢
  have HB := Lib.hid hB
  clear hB
  go_enter Tryd.func64, Tryd.ntmps64
  go_wp2_with (first | (go_at_call 68; (with_reducible refine HB.out.mono ?_); rintro e w1 ⟨rfl, rfl⟩))
  go_loopw [4, 5] (fun v i wr => ∃ (W : World) (j b c : Nat) (q : Int), W = wr ∧ j ≤ 8 ∧ Hid (q = 28 - 4 * (j : Int)) ∧ -4 ≤ q ∧ q ≤ 28 ∧ i = .int .i64 q ∧ v = .slice (some ⟨b, 0, none⟩) j c ∧
      wr.ownsRow w.heap.size 5 1 v j (u8s (hexk j (n / 16 ^ (8 - j)))) ∧ Below w.heap.size w wr) (fun _ i _ => (intOf i + 4).toNat)
  case atStart => exact ⟨_, 0, w.heap.size, 0, 28, rfl, by omega, rfl, by omega, by omega, rfl, rfl, own_nil1 w _ _ (Nat.le_refl _), (Below.refl _ _).alloc (Nat.le_refl _) _⟩
  case round =>
    obtain ⟨W, j, b, c, q, rfl, hj, hq, hq1, hq2, rfl, rfl, hown, hb⟩ := hrel
    have hqj := hq.out
    by_cases hlt : 0 ≤ q
    · obtain ⟨p, rfl⟩ := Int.eq_ofNat_of_zero_le hlt
      have hpj : p = 28 - 4 * j := by omega
      have hbits := shr15 n p hn
      have HS := Lib.hid (hexk_step n j p (by omega) hpj)
      have hd16 : n / 2 ^ p % 16 < 16 := Nat.mod_lt _ (by decide)
      generalize n / 2 ^ p % 16 = d at hbits HS hd16
      have hdg := fun h' => dig_at2 d hd16 h'
      have HQ := Lib.hid (show ((p : Nat) : Int) - 4 = 28 - 4 * ((j + 1 : Nat) : Int) by omega)
      have HO := Lib.hid hown
      have HB := Lib.hid hb
      have hsz := hb.size
      have HJ := Lib.hid (show j + 1 ≤ 8 ∧ p ≤ 28 by omega)
      clear hqj hown hb hpj
      go_wp2_with (at_builtin; go_loud (refine wpList_append_own _ rfl _ _ 92 rfl w.heap.size 5 i0 (.int .u8 0) 1 1 Tryd.underlying92 hi hz0 hz1 hz2 rfl (by decide) (.slice (some ⟨b, 0, none⟩) j c) j _ rfl (HO.out.alloc _) ⟨W.heap.size, 0, none⟩ 1 1 [.int .u8 ((hdig d).toNat : Int)] rfl rfl (cell_one_new _ _ _) (fun x hx => by simp at hx; subst hx; rfl) (by unfold maxLen; omega) (by omega) (by simp; omega) ?_); intro v' w1 hown' hgrow hnil; go_must (obtain ⟨b', c', rfl, hb', -⟩ := own_form1 hown' (by omega)); have HO1 := Lib.hid hown'; have HB1 := Lib.hid (below_app HB.out HO.out hgrow); clear hown' hgrow hnil)
      go_roundw
      case rel => exact ⟨_, j + 1, b', c', _, rfl, HJ.out.1, HQ.out, by have := HJ.out; omega, by have := HJ.out; omega, by go_num, rfl, by rw [HS.out, u8s_snoc]; exact HO1.out, HB1.out⟩
      case measure => simp [intOf]; omega
    · obtain rfl : j = 8 := by omega
      have hcv := conv_own (P := Tryd.prog) (w := W) 92 5 9 Tryd.underlying92 Tryd.underlying5 Tryd.underlying9 hown (hexk_length 8 _)
      have HB := Lib.hid hb
      clear hown hb
      go_wp2
      go_ret
      exact ⟨_, by simp, rfl, HB.out⟩
end Go.Proofs.YtnfmfiomemcfdacDoor
