/- Eight digits of a number: the program's side. -/
import Derived.Test.YtjcjijfemedojaaGreatDoorHxw
import Derived.Test.YtjcjijfemedojaaGreatDoorShelrep
import Derived.Test.YtjcjijfemedojaaGreatDoorBits
namespace Go.Proofs.YtjcjijfemedojaaGreatDoor
open Go.RowKit Fl

def bitsN (a : Nat) : Nat := if nan32 a then 2143289344 else a
theorem bitsN_eq (a : Nat) : bitsOf a = (bitsN a : Int) := by unfold bitsOf bitsN; split <;> rfl
theorem bitsN_lt {a : Nat} (h : a < 4294967296) : bitsN a < 4294967296 := by unfold bitsN; split <;> omega
/-- the eight digits -/
def hx8 (a : Nat) : List UInt8 := hexk 8 (bitsN a)
theorem hx8_len (a : Nat) : (hx8 a).length = 8 := hexk_length 8 _
theorem repeat48 : ∀ c, Lib.repeatL [48] c = List.replicate c 48
  | 0 => rfl
  | c + 1 => by rw [Lib.repeatL, repeat48 c, List.replicate_succ]; rfl
theorem rep_of (c : Nat) (x : Int) (w : World) (hc : c ≤ 8) (hx : x = (c : Int)) : Calls Tryz.prog 70 #[.string ⟨#[48]⟩, .int .i64 x] w fun e w' => e = .returned (.string ⟨(List.replicate c 48).toArray⟩) ∧ Below w.heap.size w w' := by
  subst hx
  have h := Tryz.strings_Repeat ⟨#[48]⟩ c w (by omega) (by show 1 * c ≤ _; omega)
  rw [show (⟨#[48]⟩ : ByteArray).data.toList = [48] from rfl, repeat48] at h
  exact h
set_option maxHeartbeats 800000 in
theorem numberText_of (a : Nat) (w : World) (ha : a < 4294967296) (ht : Tz w) :
    Calls Tryz.prog 58 #[.float .f32 a] w fun e w' => ∃ T : ByteArray, T.data.toList = hx8 a ∧ e = .returned (.tuple #[.string T, .bool true]) ∧ Below w.heap.size w w' := by
  have hB := bitsOf_any a w ha
  rw [bitsN_eq] at hB
  have hn := bitsN_lt ha
  have hp := hexf_pad 7 (bitsN a) hn
  unfold hx8
  generalize bitsN a = n at hB hn hp
  have HB := Lib.hid hB
  have HF := Lib.hid fun w h => formatInt16_of n w hn h
  have HT := Lib.hid fun w' (h : Below w.heap.size w w') => ht.below h (Nat.le_refl _)
  obtain ⟨S, hS⟩ : ∃ S : ByteArray, S = ⟨(hexf 8 n).toArray⟩ := ⟨_, rfl⟩
  have hS2 : S.data.toList = hexf (7 + 1) n := by rw [hS]
  rw [← hS] at HF
  rw [← hS2, show S.data.toList.length = S.size by simp] at hp
  have hS8 : S.size ≤ 8 := hp.2
  have HR := Lib.hid fun w => rep_of (8 - S.size) (8 - (S.size : Int)) w (by omega) (by omega)
  have HP := Lib.hid (show hexk 8 n = List.replicate (8 - S.size) 48 ++ S.data.toList from hp.1)
  clear hB hp hS hS2 ht
  go_enter Tryz.func58, Tryz.ntmps58
  go_wp2_with (first | (go_at_call 20; (with_reducible refine HB.out.mono ?_); rintro e w1 ⟨rfl, m, rfl⟩; have K1 := Lib.hid (below_drewN (Below.refl w.heap.size w) m)) | (go_at_call 69; (with_reducible refine (HF.out _ (HT.out _ K1.out)).mono ?_); rintro e w2 ⟨rfl, hb2⟩; have K2 := Lib.hid (below_next K1.out hb2); clear hb2) | (go_at_call 70; (with_reducible refine (HR.out _).mono ?_); rintro e w3 ⟨rfl, hb3⟩; have K3 := Lib.hid (below_next K2.out hb3); clear hb3))
  go_ret2
  refine ⟨_, ?_, rfl, K3.out⟩
  rw [HP.out, ByteArray.data_append, Array.toList_append]; simp
end Go.Proofs.YtjcjijfemedojaaGreatDoor
