/- ReadDecimal on the program's side, over the library's contracts; the law FnExactReadDecimal: true at every input, and its tied card. -/
import Derived.Test.YtnfmfiomemcfdacDoorRdw
import Derived.Test.YtnfmfiomemcfdacDoorShelf
import Derived.Test.YtnfmfiomemcfdacDoorCards
import Derived.Test.YtnfmfiomemcfdacDoorTie
import Derived.ProofKit
import Derived.LaidMore
import Derived.OpenShut
import Derived.ShutString
import Derived.Stop.Joined
import Derived.SevenTiedAt
import Derived.Lib.LaidTab
import Derived.Lib.SmallJoins
import Derived.Stop.LaidErr
import Derived.Lib.AppendIntMem
namespace Go.Proofs.YtnfmfiomemcfdacDoor
open Go.ChangeShapes Go.WideShapes Go.ChangeAt Go.WideMaps Go.WideElems Go.RowKit

def Tab (w : World) : Prop := Lib.TabIs Tryd.prog w "internal/strconv.uint64pow10" .u64 Lib.pow10Tab
theorem gPow : Tryd.prog.globalNamed "internal/strconv.uint64pow10" = some 4 := by kernel_rfl
theorem tPow : (Tryd.prog.globals[4]?).map (·.type) = some 135 := by kernel_rfl
theorem Tab.below {w w' : World} (h : Tab w) (hb : Below w.heap.size w w') : Tab w' := Joins.tab_stays gPow h hb (Nat.le_refl _)

set_option maxHeartbeats 400000 in
theorem decimal_of (n : Int) (w : World) (h0 : -9223372036854775808 ≤ n) (h1 : n ≤ 9223372036854775807) (htab : Tab w) :
    Calls Tryd.prog 39 #[.int .i64 n] w fun e w' => e = .returned (.string ⟨(Lib.itoa n).toArray⟩) ∧ Below w.heap.size w w' := by
  have HC := Lib.hid (Tryd.strconv_FormatInt_10 n h0 h1 w htab)
  clear h0 h1
  replace htab := Lib.hid htab
  go_enter Tryd.func39, Tryd.ntmps39
  go_wp2_with (go_at_call 62; (with_reducible refine HC.out.mono ?_); rintro e w' ⟨rfl, k, os, rfl⟩)
  go_ret
  exact ⟨rfl, Lib.below_grow _ _ (Nat.le_refl _) _ _⟩

def Errs (w : World) : Prop := ∃ t1 p1 t2 p2, w.var? Tryd.prog "strconv.ErrSyntax" = some #[.iface t1 p1] ∧ w.var? Tryd.prog "strconv.ErrRange" = some #[.iface t2 p2]
/-- what the library's reading gives: the number and no error, or an error -/
theorem parse_ok (s : ByteArray) (w : World) (hs : s.size ≤ 1048576) (v : Int) (h : Lib.parseIntB 64 s.data.toList = .ok v) :
    Calls Tryd.prog 37 #[.string s, .int .i64 10, .int .i64 64] w fun e w' => e = .returned (.tuple #[.int .i64 v, .nilIface]) ∧ Below w.heap.size w w' :=
  (Tryd.strconv_ParseInt_10_at64_ok s (by omega) v h w).mono fun e w' ⟨he, hw⟩ => ⟨he, by
    rcases hw with rfl | ⟨t, rfl⟩
    · exact Below.refl _ _
    · exact Joins.below_bytesWorld _ _ _ _ (Nat.le_refl _)⟩
theorem parse_err (s : ByteArray) (w : World) (hs : s.size ≤ 1048576) (h : ∀ v, Lib.parseIntB 64 s.data.toList ≠ .ok v) (he : Errs w) :
    Calls Tryd.prog 37 #[.string s, .int .i64 10, .int .i64 64] w fun e w' => (∃ v p, e = .returned (.tuple #[.int .i64 v, .iface 95 p])) ∧ Below w.heap.size w w' := by
  obtain ⟨t1, p1, t2, p2, e1, e2⟩ := he
  rcases hp : Lib.parseIntB 64 s.data.toList with v | _ | _
  · exact absurd hp (h v)
  · exact (Any.strconv_ParseInt_10_at64_syntax_var Tryd.laysC174 s (by omega) hp t1 p1 w e1).mono fun e w' ⟨N, he, _, _, hb⟩ => ⟨⟨_, _, he⟩, hb⟩
  · exact (Any.strconv_ParseInt_10_at64_range_var Tryd.laysC174 s (by omega) hp t2 p2 w e2).mono fun e w' ⟨N, he, _, _, hb⟩ => ⟨⟨_, _, he⟩, hb⟩

theorem isValue_of (v : Int) (w : World) (b : Bool) (hb : b = (decide (-1000000000000000 ≤ v) && decide (v ≤ 1000000000000000))) :
    Calls Tryd.prog 38 #[.int .i64 v] w fun e w' => e = .returned (.bool b) ∧ w = w' := by
  subst hb
  by_cases h1 : -1000000000000000 ≤ v <;> by_cases h2 : v ≤ 1000000000000000
  all_goals
    go_enter Tryd.func38, Tryd.ntmps38
    go_wp2
    go_ret
    exact ⟨by simp [h1, h2], rfl⟩

set_option maxHeartbeats 800000 in
theorem readDecimal_of (s : ByteArray) (w : World) (hs : s.size ≤ 1048576) (htab : Tab w) (he : Errs w) :
    Calls Tryd.prog 15 #[.string s] w fun e w' => e = rdAns s.data.toList ∧ Below w.heap.size w w' := by
  by_cases hx : ∃ v, Lib.parseIntB 64 s.data.toList = .ok v
  · obtain ⟨v, hv⟩ := hx
    have hbd := Lib.parseIntB_bounds hv
    have e63 : (2 : Nat) ^ (64 - 1) = 9223372036854775808 := by decide
    rw [e63] at hbd
    have HP := Lib.hid (parse_ok s w hs v hv)
    have HO := Lib.hid (rdOk_ok hv)
    have HT := Lib.hid htab
    have HE := Lib.hid he
    clear hv e63 htab he
    by_cases hin : -1000000000000000 ≤ v ∧ v ≤ 1000000000000000
    · have HV := Lib.hid fun w => isValue_of v w true (by simp [hin.1, hin.2])
      obtain ⟨S, hS⟩ : ∃ S : ByteArray, S = ⟨(Lib.itoa v).toArray⟩ := ⟨_, rfl⟩
      have HD := fun w (h : Tab w) => decimal_of v w (by omega) (by omega) h
      rw [← hS] at HD
      have HD' := Lib.hid HD
      have HS := Lib.hid hS
      clear HD hS
      go_enter Tryd.func15, Tryd.ntmps15
      go_wp2_with (first | (go_at_call 37; (with_reducible refine HP.out.mono ?_); rintro e w1 ⟨rfl, hb1⟩) | (go_at_call 38; (with_reducible refine (HV.out _).mono ?_); rintro e w' ⟨rfl, rfl⟩) | (go_at_call 39; (with_reducible refine (HD'.out _ (HT.out.below hb1)).mono ?_); rintro e w2 ⟨rfl, hb2⟩))
      · go_ret2
        exact ⟨rdAns_no (not_true fun h => str_ne (by assumption) HS.out (HO.out.1.1 h).2.2), hb1.trans (hb2.mono hb1.size)⟩
      · go_ret2
        have hr := HO.out.1.2 ⟨hin.1, hin.2, str_eq (by assumption) HS.out⟩
        exact ⟨rdAns_yes hr (HO.out.2 hr).symm, hb1.trans (hb2.mono hb1.size)⟩
    · have HV := Lib.hid fun w => isValue_of v w false (by rcases Int.lt_or_le v (-1000000000000000) with h | h <;> simp <;> omega)
      have HR := Lib.hid (rdAns_no (not_true fun h => hin ⟨(HO.out.1.1 h).1, (HO.out.1.1 h).2.1⟩))
      clear hin
      go_enter Tryd.func15, Tryd.ntmps15
      go_wp2_with (first | (go_at_call 37; (with_reducible refine HP.out.mono ?_); rintro e w1 ⟨rfl, hb1⟩) | (go_at_call 38; (with_reducible refine (HV.out _).mono ?_); rintro e w' ⟨rfl, rfl⟩))
      go_ret2
      exact ⟨HR.out, hb1⟩
  · have hno : ∀ v, Lib.parseIntB 64 s.data.toList ≠ .ok v := fun v h => hx ⟨v, h⟩
    have HP := Lib.hid (parse_err s w hs hno he)
    have HR := Lib.hid (rdAns_no (rdOk_no hno))
    clear hno hx htab he
    go_enter Tryd.func15, Tryd.ntmps15
    go_wp2_with (first | (go_at_call 37; (with_reducible refine HP.out.mono ?_); rintro e w1 ⟨⟨v, p, rfl⟩, hb1⟩))
    go_ret2
    exact ⟨HR.out, hb1⟩

end Go.Proofs.YtnfmfiomemcfdacDoor
