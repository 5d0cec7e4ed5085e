/- Texts of lists of numbers: both sides. -/
import Derived.Test.YtnfmfiomemcfdacDoorNx
import Derived.Test.YtnfmfiomemcfdacDoorNt
import Derived.Test.YtnfmfiomemcfdacDoorList
import Derived.Lib.Join
import Derived.Test.YtnfmfiomemcfdacDoorSheljoin
namespace Go.Proofs.YtnfmfiomemcfdacDoor
open Go.RowKit Fl

theorem l01Hex_hx (a : Nat) (w : World) (ha : a < 4294967296) :
    Calls Tryd.prog 64 #[.float .f32 a] w fun e w' => ∃ T : ByteArray, T.data.toList = hx8 a ∧ e = .returned (.string T) ∧ Below w.heap.size w w' := l01Hex_of a w ha
def noneText : List UInt8 := [110, 111, 110, 101]
def ntext (zs : List Nat) : List UInt8 := if zs = [] then noneText else Lib.join (zs.map hx8) [44]
theorem joinT_snoc (sep x : List UInt8) : ∀ r : List (List UInt8), Lib.joinTail sep (r ++ [x]) = Lib.joinTail sep r ++ (sep ++ x) := by
  intro r; simp [Lib.joinTail]
theorem join_snoc (sep x : List UInt8) (r : List (List UInt8)) (h : r ≠ []) : Lib.join (r ++ [x]) sep = Lib.join r sep ++ (sep ++ x) := by
  cases r with
  | nil => exact absurd rfl h
  | cons y r => rw [List.cons_append, Lib.join_cons, Lib.join_cons, joinT_snoc, List.append_assoc]
theorem text_snoc (zs : List Nat) (k : Nat) (h0 : 0 < k) (h : k < zs.length) : Lib.join ((zs.take (k + 1)).map hx8) [44] = Lib.join ((zs.take k).map hx8) [44] ++ ([44] ++ hx8 (zs.getD k 0)) := by
  rw [List.take_succ_eq_append_getElem h, List.map_append, List.map_cons, List.map_nil, join_snoc _ _ _ (by
    intro e
    have := congrArg List.length e
    rw [List.length_map, List.length_take, List.length_nil] at this
    omega)]
  simp [List.getD, List.getElem?_eq_getElem h]
theorem text_one (zs : List Nat) (h : 0 < zs.length) : Lib.join ((zs.take 1).map hx8) [44] = hx8 (zs.getD 0 0) := by
  cases zs with
  | nil => simp at h
  | cons z zs => simp [Lib.join_one]
theorem small_at {zs : List Nat} (h : ∀ x ∈ zs, x < 4294967296) (k : Nat) : zs.getD k 0 < 4294967296 := by
  rw [List.getD_eq_getElem?_getD]
  cases hk : zs[k]? with
  | none => simp
  | some x => exact h x (List.mem_of_getElem? hk)
theorem size_of {T : ByteArray} {a : Nat} (h : T.data.toList = hx8 a) : T.size = 8 := by
  have := congrArg List.length h
  rw [hx8_len] at this
  simpa using this

set_option maxHeartbeats 1600000 in
theorem l01NText_of (a : Addr) (n c : Nat) (zs : List Nat) (w : World) (hr : FRow w (some a) n zs) (hn : n ≤ 256) (h0 : 0 < n) (hv : ∀ x ∈ zs, x < 4294967296) :
    Calls Tryd.prog 47 #[.slice (some a) n c] w fun e w' => e = .returned (.string ⟨(Lib.join (zs.map hx8) [44]).toArray⟩) ∧ Below w.heap.size w w' := by
  have HL := Lib.hid hr.len
  have HR := Lib.hid hr
  have HV := Lib.hid (small_at hv)
  have hx0 := hr.cell a rfl 0 h0
  have e0 : a.add 0 = a := by unfold Addr.add; simp
  rw [e0] at hx0
  have hne : ((n : Int) == 0) = false := beq_eq_false_iff_ne.2 (by omega)
  have H1 := Lib.hid (text_one zs (by rw [hr.len]; exact h0))
  have HD := Lib.hid fun w => l01Hex_hx (zs.getD 0 0) w (small_at hv 0)
  clear hr hv e0
  generalize hz0 : zs.getD 0 0 = z0 at hx0 H1 HD
  clear hz0
  go_enter Tryd.func47, Tryd.ntmps47
  go_wp2_with (go_at_call 64; ((with_reducible refine (HD.out _).mono ?_); rintro e w1 ⟨S, hS, rfl, hb1⟩; have HS1 := Lib.hid hS; have HB1 := Lib.hid hb1; clear hb1 hS))
  go_loopw [3, 4] (fun out i wr => ∃ (k : Nat) (S : ByteArray), 1 ≤ k ∧ k ≤ n ∧ i = .int .i64 k ∧ out = .string S ∧ Hid (S.data.toList = Lib.join ((zs.take k).map hx8) [44]) ∧ S.size ≤ 9 * k ∧ Below w.heap.size w wr) (fun _ i _ => n - (intOf i).toNat)
  case atStart => exact ⟨1, S, by omega, by omega, rfl, rfl, by show _ = _; rw [H1.out]; exact HS1.out, by rw [size_of HS1.out]; omega, HB1.out⟩
  case round =>
    clear HS1 HB1 HD hx0 H1
    obtain ⟨k, S, hk1, hk, rfl, rfl, hS, hsz, hb⟩ := hrel
    by_cases hlt : k < n
    · have hx := (HR.out.below hb (Nat.le_refl _)).cell a rfl k hlt
      have HT := Lib.hid (text_snoc zs k (by omega) (by rw [HL.out]; exact hlt))
      have HD := Lib.hid fun w => l01Hex_hx (zs.getD k 0) w (HV.out k)
      generalize zs.getD k 0 = z at hx HT HD
      have HB := Lib.hid hb
      clear hb
      go_wp2_with (go_at_call 64; ((with_reducible refine (HD.out _).mono ?_); rintro e w1 ⟨T, hT, rfl, hb1⟩; have HT2 := Lib.hid hT; have hT1 := Nat.le_of_eq (size_of hT); have HB1 := Lib.hid (HB.out.trans (hb1.mono HB.out.size)); clear hb1 hT))
      go_roundw
      case rel =>
        refine ⟨k + 1, _, by omega, by omega, by go_num, rfl, ?_, ?_, HB1.out⟩
        · show (S ++ ((⟨#[44]⟩ : ByteArray) ++ T)).data.toList = _
          rw [HT.out, ← hS.out, ← HT2.out, ByteArray.data_append, ByteArray.data_append, Array.toList_append, Array.toList_append]
        · rw [ByteArray.size_append, ByteArray.size_append, show (⟨#[44]⟩ : ByteArray).size = 1 from rfl]; omega
      case measure => simp [intOf]; omega
    · obtain rfl : k = n := by omega
      have HB := Lib.hid hb
      have HE := Lib.hid (show S = ⟨(Lib.join (zs.map hx8) [44]).toArray⟩ by
        have := hS.out
        rw [List.take_of_length_le (by rw [HL.out]; omega)] at this
        rw [← this])
      clear hb
      go_wp2
      go_ret
      exact ⟨by rw [← HE.out]; rfl, HB.out⟩
/-- the answer of both sides -/
def ntAns (zs : List Nat) : Ending := .returned (.tuple #[.string (if zs.length ≤ 256 then ⟨(ntext zs).toArray⟩ else ⟨#[]⟩), .bool (decide (zs.length ≤ 256))])
theorem l01Few_of (ao : Option Addr) (n c : Nat) (w : World) (b : Bool) (hb : b = decide (n ≤ 256)) :
    Calls Tryd.prog 46 #[.slice ao n c] w fun e w' => e = .returned (.bool b) ∧ w = w' := by
  subst hb
  go_enter Tryd.func46, Tryd.ntmps46
  go_wp2
  go_ret
  exact ⟨by first | rfl | (congr 1; simp; omega), rfl⟩
set_option maxHeartbeats 800000 in
theorem l01NText_none (ao : Option Addr) (c : Nat) (w : World) :
    Calls Tryd.prog 47 #[.slice ao 0 c] w fun e w' => e = .returned (.string ⟨#[110, 111, 110, 101]⟩) ∧ w = w' := by
  go_enter Tryd.func47, Tryd.ntmps47
  go_wp2
  go_ret
  exact ⟨rfl, rfl⟩
set_option maxHeartbeats 800000 in
theorem specNumbersText_of (ao : Option Addr) (n c : Nat) (zs : List Nat) (w : World) (hr : FRow w ao n zs) (hv : ∀ x ∈ zs, x < 4294967296) :
    Calls Tryd.prog 24 #[.slice ao n c] w fun e w' => e = ntAns zs ∧ Below w.heap.size w w' := by
  have hl := hr.len
  unfold ntAns
  by_cases h256 : n ≤ 256
  · rw [hl, if_pos h256, decide_eq_true h256]
    have HF := Lib.hid fun w => l01Few_of ao n c w true (decide_eq_true h256).symm
    by_cases h0 : n = 0
    · subst h0
      have hnil : zs = [] := List.eq_nil_of_length_eq_zero hl
      have HT := Lib.hid fun w => l01NText_none ao c w
      have HE := Lib.hid (show (⟨(ntext zs).toArray⟩ : ByteArray) = ⟨#[110, 111, 110, 101]⟩ by rw [ntext, if_pos hnil]; rfl)
      rw [HE.out]
      clear hr hl hnil HE
      go_enter Tryd.func24, Tryd.ntmps24
      go_wp2_with (first | (go_at_call 46; (with_reducible refine (HF.out _).mono ?_); rintro e w' ⟨rfl, rfl⟩) | (go_at_call 47; (with_reducible refine (HT.out _).mono ?_); rintro e w' ⟨rfl, rfl⟩))
      go_ret2
      exact ⟨rfl, Below.refl _ _⟩
    · obtain ⟨a, rfl⟩ := hr.addr (by omega)
      have HT := l01NText_of a n c zs w hr h256 (by omega) hv
      have hnn : ¬ zs = [] := fun e => by rw [e] at hl; simp at hl; omega
      rw [ntext, if_neg hnn]
      obtain ⟨S, hS⟩ : ∃ S : ByteArray, S = ⟨(Lib.join (zs.map hx8) [44]).toArray⟩ := ⟨_, rfl⟩
      rw [← hS] at HT ⊢
      have HT' := Lib.hid HT
      clear HT hS hr hl hnn hv
      go_enter Tryd.func24, Tryd.ntmps24
      go_wp2_with (first | (go_at_call 46; (with_reducible refine (HF.out _).mono ?_); rintro e w' ⟨rfl, rfl⟩) | (go_at_call 47; (with_reducible refine (HT'.out).mono ?_); rintro e w' ⟨rfl, hb⟩))
      go_ret2
      exact ⟨rfl, hb⟩
  · rw [hl, if_neg h256, decide_eq_false h256]
    have HF := Lib.hid fun w => l01Few_of ao n c w false (decide_eq_false h256).symm
    clear hr hl
    go_enter Tryd.func24, Tryd.ntmps24
    go_wp2_with (first | (go_at_call 46; (with_reducible refine (HF.out _).mono ?_); rintro e w' ⟨rfl, rfl⟩))
    go_ret2
    exact ⟨rfl, Below.refl _ _⟩
end Go.Proofs.YtnfmfiomemcfdacDoor
