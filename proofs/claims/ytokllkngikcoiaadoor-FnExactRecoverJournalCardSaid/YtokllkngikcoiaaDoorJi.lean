/- The journal of lines: the program's side. -/
import Derived.Test.YtokllkngikcoiaaDoorJf
import Derived.Test.YtokllkngikcoiaaDoorBu
import Derived.Test.YtokllkngikcoiaaDoorSL
import Derived.Test.YtokllkngikcoiaaDoorSheljo
import Derived.Lib.AppendIntMem
import Derived.Lib.LaidTab
import Derived.Lib.SmallJoins
import Derived.ProofKit
import Derived.LaidMore
import Derived.Stop.Joined
namespace Go.Proofs.YtokllkngikcoiaaDoor
open Go.RowKit

def PowT (w : World) : Prop := Lib.TabIs Tryd.prog w "internal/strconv.uint64pow10" .u64 Lib.pow10Tab
theorem gPow0 : Tryd.prog.globalNamed "internal/strconv.uint64pow10" = some 1 := by kernel_rfl
theorem PowT.below {w w' : World} (h : PowT w) (hb : Below w.heap.size w w') : PowT w' := Joins.tab_stays gPow0 h hb (Nat.le_refl _)
theorem cat_toList' (a b : ByteArray) : (a ++ b).data.toList = a.data.toList ++ b.data.toList := by
  rw [ByteArray.data_append, Array.toList_append]
theorem of_toList' {S : ByteArray} {l : List UInt8} (h : S.data.toList = l) : S = ⟨l.toArray⟩ := by subst h; rfl
set_option maxHeartbeats 400000 in
theorem decimal8_of (n : Int) (w : World) (h0 : -9223372036854775808 ≤ n) (h1 : n ≤ 9223372036854775807) (htab : PowT w) :
    Calls Tryd.prog 36 #[.int .i64 n] w fun e w' => e = .returned (.string ⟨(Lib.itoa n).toArray⟩) ∧ Below w.heap.size w w' := by
  have HC := Lib.hid (Tryd.strconv_FormatInt_10 n h0 h1 w htab)
  clear h0 h1
  replace htab := Lib.hid htab
  go_enter Tryd.func36, Tryd.ntmps36
  go_wp2_with (go_at_call 43; (with_reducible refine HC.out.mono ?_); rintro e w' ⟨rfl, k, os, rfl⟩)
  go_ret
  exact ⟨rfl, Lib.below_grow _ _ (Nat.le_refl _) _ _⟩
theorem nl_index (t : ByteArray) : decide (0 ≤ Lib.indexByte t.data.toList 10) = !noNl t.data.toList := by
  rcases Int.lt_or_le (Lib.indexByte t.data.toList 10) 0 with h | h
  · have hm : Lib.indexByte t.data.toList 10 = -1 := by have := Lib.indexByte_ge t.data.toList 10; omega
    have hn := Lib.indexByte_none hm
    have : noNl t.data.toList = true := by
      unfold noNl
      rw [List.all_eq_true]
      intro x hx
      obtain ⟨k, hk⟩ := List.getElem?_of_mem hx
      exact decide_eq_true fun e => hn k (by rw [hk, e])
    rw [this, decide_eq_false (by omega)]; rfl
  · obtain ⟨i, hi⟩ := Int.eq_ofNat_of_zero_le h
    have hb := (Lib.indexByte_some hi).1
    have : noNl t.data.toList = false := by
      unfold noNl
      rw [List.all_eq_false]
      exact ⟨10, List.mem_of_getElem? hb, by simp⟩
    rw [this, decide_eq_true h]; rfl
theorem isB_below {T e : TypeId} {B b : Nat} {bs : List Value} {w w' : World} (h : Lib.IsBuilder T e B b bs w) (hb : Below w.heap.size w w') : Lib.IsBuilder T e B b bs w' := by
  have key : ∀ p, Lib.BuilderAt T e B b p bs w → Lib.BuilderAt T e B b p bs w' := by
    rintro p ⟨h1, v, h2, h3, h4⟩
    exact ⟨h1, v, (hb.block b (Array.getElem?_eq_some_iff.1 h2).1).trans h2, own_below h3 hb (Nat.le_refl _), h4⟩
  exact h.elim (fun x => Or.inl (key _ x)) (fun x => Or.inr (key _ x))
set_option maxRecDepth 100000 in
set_option maxHeartbeats 1600000 in
theorem journalLine_of (n : Int) (t : ByteArray) (w : World) (hn : 0 ≤ n ∧ n ≤ 65002) (ht : t.size ≤ 1048576) (htab : PowT w) :
    Calls Tryd.prog 21 #[.int .i64 n, .string t] w fun e w' => ∃ S : ByteArray, S.data.toList = jline n t.data.toList ∧ e = .returned (.tuple #[.string S, .int .i64 (chk n t.data.toList)]) ∧ Below w.heap.size w w' := by
  have hcb := chk_bd n t.data.toList hn.1 hn.2
  have HCk := Lib.hid fun w => checkOf_in n t w (by unfold maxLen; omega) hn.1 hn.2
  unfold jline
  generalize chk n t.data.toList = u at hcb HCk ⊢
  have hul := itoa_le u hcb
  obtain ⟨T, hT⟩ : ∃ T : ByteArray, T = ⟨(Lib.itoa u).toArray⟩ := ⟨_, rfl⟩
  have HD := decimal8_of u w (by omega) (by omega) htab
  rw [← hT] at HD
  have HD' := Lib.hid HD
  have hT1 : T.size ≤ 17 := by rw [hT]; show (Lib.itoa u).toArray.size ≤ _; simpa using hul
  have HT2 := Lib.hid (show T.data.toList = Lib.itoa u by rw [hT])
  clear HD hT hul hcb hn htab
  go_enter Tryd.func21, Tryd.ntmps21
  go_wp2_with (first | (go_at_call 35; ((with_reducible refine (HCk.out _).mono ?_); rintro e w1 ⟨rfl, rfl⟩)) | (go_at_call 36; ((with_reducible refine (HD'.out).mono ?_); rintro e w1 ⟨rfl, hb1⟩; have HB := Lib.hid hb1; clear hb1)))
  go_ret2
  refine ⟨T ++ ⟨#[32]⟩ ++ t ++ ⟨#[10]⟩, ?_, rfl, HB.out⟩
  rw [cat_toList', cat_toList', cat_toList', HT2.out]
  simp
end Go.Proofs.YtokllkngikcoiaaDoor
