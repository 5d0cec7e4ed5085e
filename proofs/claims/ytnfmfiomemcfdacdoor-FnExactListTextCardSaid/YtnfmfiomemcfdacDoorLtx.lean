/- Texts of lists of integers: the spec's side. -/
import Derived.Test.YtnfmfiomemcfdacDoorIList
import Derived.Test.YtnfmfiomemcfdacDoorRdw
import Derived.Lib.Join
namespace Go.Proofs.YtnfmfiomemcfdacDoor
open Go.RowKit

def inV (z : Int) : Bool := inB z (-1000000000000000) 1000000000000000
def okList (zs : List Int) : Bool := zs.all inV && decide (zs.length ≤ 64)
def noneText : List UInt8 := [110, 111, 110, 101]
def listText (zs : List Int) : List UInt8 := if zs = [] then noneText else Lib.join (zs.map Lib.itoa) [44]

theorem allv_take (zs : List Int) (k : Nat) (h : k < zs.length) : (zs.take (k + 1)).all inV = ((zs.take k).all inV && inV (zs.getD k 0)) := by
  rw [List.take_succ_eq_append_getElem h, List.all_append]
  simp [List.getD, List.getElem?_eq_getElem h]
theorem allv_no (zs : List Int) (k : Nat) (h : k < zs.length) (hv : inV (zs.getD k 0) = false) : zs.all inV = false := by
  rw [List.all_eq_false]
  refine ⟨zs[k], List.getElem_mem h, ?_⟩
  simp only [List.getD, List.getElem?_eq_getElem h, Option.getD_some] at hv
  simp [hv]
theorem allv_at {zs : List Int} (h : zs.all inV = true) (k : Nat) (hk : k < zs.length) : -1000000000000000 ≤ zs.getD k 0 ∧ zs.getD k 0 ≤ 1000000000000000 := by
  have := List.all_eq_true.1 h zs[k] (List.getElem_mem hk)
  simp only [List.getD, List.getElem?_eq_getElem hk, Option.getD_some]
  simpa [inV, inB] using this
theorem joinT_snoc (sep x : List UInt8) : ∀ r : List (List UInt8), Lib.joinTail sep (r ++ [x]) = Lib.joinTail sep r ++ (sep ++ x) := by
  intro r; simp [Lib.joinTail]
theorem join_snoc (sep x : List UInt8) (r : List (List UInt8)) (h : r ≠ []) : Lib.join (r ++ [x]) sep = Lib.join r sep ++ (sep ++ x) := by
  cases r with
  | nil => exact absurd rfl h
  | cons y r => rw [List.cons_append, Lib.join_cons, Lib.join_cons, joinT_snoc, List.append_assoc]
theorem text_snoc (zs : List Int) (k : Nat) (h0 : 0 < k) (h : k < zs.length) : Lib.join ((zs.take (k + 1)).map Lib.itoa) [44] = Lib.join ((zs.take k).map Lib.itoa) [44] ++ ([44] ++ Lib.itoa (zs.getD k 0)) := by
  rw [List.take_succ_eq_append_getElem h, List.map_append, List.map_cons, List.map_nil, join_snoc _ _ _ (by
    intro e
    have := congrArg List.length e
    rw [List.length_map, List.length_take, List.length_nil] at this
    omega)]
  simp [List.getD, List.getElem?_eq_getElem h]
theorem text_one (zs : List Int) (h : 0 < zs.length) : Lib.join ((zs.take 1).map Lib.itoa) [44] = Lib.itoa (zs.getD 0 0) := by
  cases zs with
  | nil => simp at h
  | cons z zs => simp [Lib.join_one]

set_option maxHeartbeats 800000 in
theorem l01List_of (ao : Option Addr) (n c : Nat) (zs : List Int) (w : World) (hr : IRow w ao n zs) (hn : n ≤ 1048576) :
    Calls Tryd.prog 40 #[.slice ao n c] w fun e w' => e = .returned (.bool (okList zs)) ∧ w = w' := by
  have HL := Lib.hid hr.len
  have HR := Lib.hid hr
  clear hr
  go_enter Tryd.func40, Tryd.ntmps40
  go_wp2
  go_loop [3] (fun i => ∃ k : Nat, k ≤ n ∧ i = .int .i64 k ∧ Hid ((zs.take k).all inV = true)) (fun i => n - (intOf i).toNat)
  case atStart => exact ⟨0, Nat.zero_le _, rfl, rfl⟩
  case round =>
    obtain ⟨k, hk, rfl, hv⟩ := hrel
    by_cases hlt : k < n
    · obtain ⟨a, rfl⟩ := HR.out.addr (by omega)
      have hx := HR.out.cell a rfl k hlt
      have HT := Lib.hid (allv_take zs k (by rw [HL.out]; omega))
      have HF := Lib.hid (allv_no zs k (by rw [HL.out]; omega))
      generalize zs.getD k 0 = z at hx HT HF
      have HC := Lib.hid fun w' => (show Calls Tryd.prog 58 #[.int .i64 z, .int .i64 (-1000000000000000), .int .i64 1000000000000000] w' fun e w'' => e = .returned (.bool (inV z)) ∧ w' = w'' from l00In_any z _ _ w')
      cases hb : inV z
      · rw [hb] at HC HF
        have HF' := Lib.hid (show okList zs = false by rw [okList, HF.out rfl]; rfl)
        clear hb HF HT
        go_wp2_with (go_at_call 58; go_loud (refine (HC.out _).mono ?_); rintro e w1 ⟨rfl, rfl⟩)
        go_ret
        exact ⟨by rw [HF'.out]; rfl, rfl⟩
      · rw [hb] at HC HT
        have HT' := Lib.hid (show (zs.take (k + 1)).all inV = true by rw [HT.out, hv.out]; rfl)
        clear hb HF HT hv
        go_wp2_with (go_at_call 58; go_loud (refine (HC.out _).mono ?_); rintro e w1 ⟨rfl, rfl⟩)
        go_round
        case rel => exact ⟨k + 1, by omega, by go_num, HT'⟩
        case measure => simp [intOf]; omega
    · have HV := Lib.hid (show okList zs = decide ((n : Int) ≤ 64) by
        have := hv.out
        rw [List.take_of_length_le (by rw [HL.out]; omega)] at this
        rw [okList, this, HL.out, Bool.true_and]
        congr 1; simp; omega)
      clear hv
      go_wp2
      go_ret
      exact ⟨by rw [HV.out]; rfl, rfl⟩
theorem itoa_small (z : Int) (h : -1000000000000000 ≤ z ∧ z ≤ 1000000000000000) : (Lib.itoa z).length ≤ 17 := (itoa_len z h.1 h.2).2
set_option maxHeartbeats 1600000 in
theorem l01Text_of (a : Addr) (n c : Nat) (zs : List Int) (w : World) (hr : IRow w (some a) n zs) (hn : n ≤ 64) (h0 : 0 < n) (hv : zs.all inV = true) :
    Calls Tryd.prog 41 #[.slice (some a) n c] w fun e w' => e = .returned (.string ⟨(Lib.join (zs.map Lib.itoa) [44]).toArray⟩) ∧ Below w.heap.size w w' := by
  have HL := Lib.hid hr.len
  have HR := Lib.hid hr
  have HV := Lib.hid hv
  have hx0 := hr.cell a rfl 0 h0
  have e0 : a.add 0 = a := by unfold Addr.add; simp
  rw [e0] at hx0
  have hz := allv_at hv 0 (by rw [hr.len]; exact h0)
  have hne : ((n : Int) == 0) = false := beq_eq_false_iff_ne.2 (by omega)
  have H1 := Lib.hid (text_one zs (by rw [hr.len]; exact h0))
  have HS1 := Lib.hid (itoa_small _ hz)
  clear hr hv e0
  generalize hz0 : zs.getD 0 0 = z0 at hx0 hz H1 HS1
  obtain ⟨S, hS⟩ : ∃ S : ByteArray, S = ⟨(Lib.itoa z0).toArray⟩ := ⟨_, rfl⟩
  have HD := fun w => l01Dec_of z0 w (by omega) (by omega)
  rw [← hS] at HD
  have HD' := Lib.hid HD
  have HSt := Lib.hid (show S.data.toList = Lib.join ((zs.take 1).map Lib.itoa) [44] by rw [H1.out, hS])
  have HSz := Lib.hid (show S.size ≤ 18 * 1 by rw [hS]; show (Lib.itoa z0).toArray.size ≤ _; have := HS1.out; simp; omega)
  clear HD hS H1 HS1 hz hz0
  go_enter Tryd.func41, Tryd.ntmps41
  go_wp2_with (go_at_call 59; ((with_reducible refine (HD'.out _).mono ?_); rintro e w1 ⟨rfl, hb1⟩; have HB1 := Lib.hid hb1; clear hb1))
  go_loopw [3, 4] (fun out i wr => ∃ (k : Nat) (S : ByteArray), 1 ≤ k ∧ k ≤ n ∧ i = .int .i64 k ∧ out = .string S ∧ Hid (S.data.toList = Lib.join ((zs.take k).map Lib.itoa) [44]) ∧ S.size ≤ 18 * k ∧ Below w.heap.size w wr) (fun _ i _ => n - (intOf i).toNat)
  case atStart => exact ⟨1, S, by omega, by omega, rfl, rfl, HSt.out, HSz.out, HB1.out⟩
  case round =>
    clear HSt HSz HB1 HD' hx0
    obtain ⟨k, S, hk1, hk, rfl, rfl, hS, hsz, hb⟩ := hrel
    by_cases hlt : k < n
    · have hx := (HR.out.below hb (Nat.le_refl _)).cell a rfl k hlt
      have hz := allv_at HV.out k (by rw [HL.out]; exact hlt)
      have HT := Lib.hid (text_snoc zs k (by omega) (by rw [HL.out]; exact hlt))
      generalize zs.getD k 0 = z at hx hz HT
      have hs1 := itoa_small z hz
      obtain ⟨T, hT⟩ : ∃ T : ByteArray, T = ⟨(Lib.itoa z).toArray⟩ := ⟨_, rfl⟩
      have HD := fun w => l01Dec_of z w (by omega) (by omega)
      rw [← hT] at HD
      have HD' := Lib.hid HD
      have hT1 : T.size ≤ 17 := by rw [hT]; show (Lib.itoa z).toArray.size ≤ _; simpa using hs1
      have HT2 := Lib.hid (show T.data.toList = Lib.itoa z by rw [hT])
      have HB := Lib.hid hb
      clear HD hT hs1 hb
      go_wp2_with (go_at_call 59; ((with_reducible refine (HD'.out _).mono ?_); rintro e w1 ⟨rfl, hb1⟩; have HB1 := Lib.hid (HB.out.trans (hb1.mono HB.out.size)); clear hb1))
      go_roundw
      case rel =>
        refine ⟨k + 1, _, by omega, by omega, by go_num, rfl, ?_, ?_, HB1.out⟩
        · show (S ++ ((⟨#[44]⟩ : ByteArray) ++ T)).data.toList = _
          rw [HT.out, ← hS.out, ← HT2.out, ByteArray.data_append, ByteArray.data_append, Array.toList_append, Array.toList_append]
        · rw [ByteArray.size_append, ByteArray.size_append, show (⟨#[44]⟩ : ByteArray).size = 1 from rfl]; omega
      case measure => simp [intOf]; omega
    · obtain rfl : k = n := by omega
      have HB := Lib.hid hb
      have HE := Lib.hid (show S = ⟨(Lib.join (zs.map Lib.itoa) [44]).toArray⟩ by
        have := hS.out
        rw [List.take_of_length_le (by rw [HL.out]; omega)] at this
        rw [← this])
      clear hb
      go_wp2
      go_ret
      exact ⟨by rw [← HE.out]; rfl, HB.out⟩
/-- the answer of both sides -/
def ltAns (zs : List Int) : Ending := .returned (.tuple #[.string (if okList zs then ⟨(listText zs).toArray⟩ else ⟨#[]⟩), .bool (okList zs)])
set_option maxHeartbeats 800000 in
theorem l01Text_none (ao : Option Addr) (c : Nat) (w : World) :
    Calls Tryd.prog 41 #[.slice ao 0 c] w fun e w' => e = .returned (.string ⟨#[110, 111, 110, 101]⟩) ∧ w = w' := by
  go_enter Tryd.func41, Tryd.ntmps41
  go_wp2
  go_ret
  exact ⟨rfl, rfl⟩
set_option maxHeartbeats 800000 in
theorem specListText_of (ao : Option Addr) (n c : Nat) (zs : List Int) (w : World) (hr : IRow w ao n zs) (hn : n ≤ 1048576) :
    Calls Tryd.prog 16 #[.slice ao n c] w fun e w' => e = ltAns zs ∧ Below w.heap.size w w' := by
  have HO := l01List_of ao n c zs w hr hn
  unfold ltAns
  cases hok : okList zs
  · rw [hok] at HO
    have HO' := Lib.hid HO
    clear HO hok hr
    go_enter Tryd.func16, Tryd.ntmps16
    go_wp2_with (go_at_call 40; go_loud (refine (HO'.out).mono ?_); rintro e w1 ⟨rfl, rfl⟩)
    go_ret2
    exact ⟨rfl, Below.refl _ _⟩
  · rw [hok] at HO
    have HO' := Lib.hid HO
    have hl := hr.len
    have hok2 := hok
    rw [okList, Bool.and_eq_true, decide_eq_true_eq] at hok2
    by_cases h0 : n = 0
    · subst h0
      have hz : zs = [] := List.eq_nil_of_length_eq_zero hl
      subst hz
      have HC := Lib.hid fun w => l01Text_none ao c w
      clear HO hok hr hok2 hl
      go_enter Tryd.func16, Tryd.ntmps16
      go_wp2_with (first | (go_at_call 40; go_loud (refine (HO'.out).mono ?_); rintro e w1 ⟨rfl, rfl⟩) | (go_at_call 41; go_loud (refine (HC.out _).mono ?_); rintro e w1 ⟨rfl, rfl⟩))
      go_ret2
      exact ⟨rfl, Below.refl _ _⟩
    · obtain ⟨a, rfl⟩ := hr.addr (by omega)
      have HC := Lib.hid (l01Text_of a n c zs w hr (by omega) (by omega) hok2.1)
      have HT := Lib.hid (show listText zs = Lib.join (zs.map Lib.itoa) [44] by rw [listText, if_neg (by intro e; rw [e] at hl; exact h0 hl.symm)])
      clear HO hok hr hok2 hl
      go_enter Tryd.func16, Tryd.ntmps16
      go_wp2_with (first | (go_at_call 40; go_loud (refine (HO'.out).mono ?_); rintro e w1 ⟨rfl, rfl⟩) | (go_at_call 41; go_loud (refine (HC.out).mono ?_); rintro e w1 ⟨rfl, hb1⟩))
      go_ret2
      exact ⟨by rw [HT.out]; rfl, hb1⟩
end Go.Proofs.YtnfmfiomemcfdacDoor
