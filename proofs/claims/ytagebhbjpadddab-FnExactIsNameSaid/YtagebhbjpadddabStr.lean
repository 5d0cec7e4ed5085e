/- Contracts of the functions on strings of chapter 1: check numbers and names. Every string. -/
import Derived.Test.YtagebhbjpadddabBits
import Derived.Lib.Hide
namespace Go.Proofs.Ytagebhbjpadddab
open Go.RowKit Fl

theorem take_snoc (s : ByteArray) (k : Nat) (h : k < s.size) : s.data.toList.take (k + 1) = s.data.toList.take k ++ [s[k]] := by
  rw [List.take_succ_eq_append_getElem (by simpa using h)]; rfl

theorem ret_int {k : IntKind} {a b : Int} (h : a = b) : Ending.returned (.int k a) = .returned (.int k b) := by rw [h]


/-- A letter: 'a' to 'z'. -/
def letter (c : UInt8) : Bool := decide (97 ≤ c.toNat) && decide (c.toNat ≤ 122)
/-- IsName -/
def nameB (s : ByteArray) : Bool := decide (1 ≤ s.size) && decide (s.size ≤ 8) && s.data.toList.all letter

theorem all_step (s : ByteArray) (k : Nat) (h : k < s.size) (ha : (s.data.toList.take k).all letter = true) (hl : 97 ≤ s[k].toNat ∧ s[k].toNat ≤ 122) : (s.data.toList.take (k + 1)).all letter = true := by
  rw [take_snoc s k h, List.all_append, ha]
  simp [letter, hl.1, hl.2]
theorem name_no (s : ByteArray) (k : Nat) (h : k < s.size) (hl : ¬ (97 ≤ s[k].toNat ∧ s[k].toNat ≤ 122)) : nameB s = false := by
  have hm : s[k] ∈ s.data.toList := by rw [Array.mem_toList_iff]; exact Array.getElem_mem _
  have hn : s.data.toList.all letter = false := by
    rw [Bool.eq_false_iff]
    intro hc
    have := List.all_eq_true.1 hc _ hm
    simp [letter] at this
    exact hl this
  simp [nameB, hn]
theorem name_all (s : ByteArray) (k : Nat) (h : s.size ≤ k) (ha : (s.data.toList.take k).all letter = true) : nameB s = (decide (1 ≤ s.size) && decide (s.size ≤ 8)) := by
  rw [List.take_of_length_le (by simp; omega)] at ha
  simp [nameB, ha]

set_option maxHeartbeats 400000 in
theorem specIsName_any (s : ByteArray) (w : World) (hs : s.size ≤ maxLen) :
    Calls Try.prog 15 #[.string s] w fun e w' => e = .returned (.bool (nameB s)) ∧ w = w' := by
  unfold maxLen at hs
  go_enter Try.func15, Try.ntmps15
  go_wp2
  go_loop [3] (fun i => ∃ k : Nat, k ≤ s.size ∧ i = .int .i64 k ∧ Hid ((s.data.toList.take k).all letter = true)) (fun i => s.size - (intOf i).toNat)
  case atStart => exact ⟨0, Nat.zero_le _, rfl, rfl⟩
  case round =>
    obtain ⟨k, hk, rfl, hall⟩ := hrel
    by_cases hlt : k < s.size
    · have HS := all_step s k hlt
      by_cases h1 : (s[k].toNat : Int) < 97
      · have hno := Lib.hid (name_no s k hlt (by omega))
        go_wp2
        go_ret
        exact ⟨by rw [hno.out]; rfl, rfl⟩
      · by_cases h2 : 122 < (s[k].toNat : Int)
        · have hno := Lib.hid (name_no s k hlt (by omega))
          go_wp2
          go_ret
          exact ⟨by rw [hno.out]; rfl, rfl⟩
        · have hyes : Hid ((s.data.toList.take (k + 1)).all letter = true) := HS hall.out (by omega)
          clear HS
          go_wp2
          all_goals
            go_round
            case rel => exact ⟨k + 1, by omega, by go_num, hyes⟩
            case measure => simp [intOf]; omega
    · have hyes := Lib.hid (name_all s k (by omega) hall.out)
      clear hall
      by_cases g1 : 1 ≤ s.size
      · by_cases g2 : s.size ≤ 8
        · have hv : Hid (nameB s = true) := by show _ = _; rw [hyes.out]; simp [g1, g2]
          clear hyes
          go_wp2
          go_ret
          exact ⟨by rw [hv.out]; first | rfl | (simp; omega), rfl⟩
        · have hv : Hid (nameB s = false) := by show _ = _; rw [hyes.out]; simp [g1, g2]
          clear hyes
          go_wp2
          go_ret
          exact ⟨by rw [hv.out]; first | rfl | (simp; omega), rfl⟩
      · have hv : Hid (nameB s = false) := by show _ = _; rw [hyes.out]; simp [g1]
        clear hyes
        go_wp2
        go_ret
        exact ⟨by rw [hv.out]; first | rfl | (simp; omega), rfl⟩
set_option maxHeartbeats 400000 in
theorem isName_any (s : ByteArray) (w : World) (hs : s.size ≤ maxLen) :
    Calls Try.prog 16 #[.string s] w fun e w' => e = .returned (.bool (nameB s)) ∧ w = w' := by
  unfold maxLen at hs
  by_cases g1 : 1 ≤ s.size
  · by_cases g2 : s.size ≤ 8
    · go_enter Try.func16, Try.ntmps16
      go_wp2
      go_loop [14] (fun i => ∃ k : Nat, k ≤ s.size ∧ i = .int .i64 k ∧ Hid ((s.data.toList.take k).all letter = true)) (fun i => s.size - (intOf i).toNat)
      case atStart => exact ⟨0, Nat.zero_le _, rfl, rfl⟩
      case round =>
        obtain ⟨k, hk, rfl, hall⟩ := hrel
        by_cases hlt : k < s.size
        · have HS := all_step s k hlt
          by_cases h1 : (s[k].toNat : Int) < 97
          · have hno := Lib.hid (name_no s k hlt (by omega))
            go_wp2
            go_ret
            exact ⟨by rw [hno.out]; rfl, rfl⟩
          · by_cases h2 : 122 < (s[k].toNat : Int)
            · have hno := Lib.hid (name_no s k hlt (by omega))
              go_wp2
              go_ret
              exact ⟨by rw [hno.out]; rfl, rfl⟩
            · have hyes : Hid ((s.data.toList.take (k + 1)).all letter = true) := HS hall.out (by omega)
              clear HS
              go_wp2
              all_goals
                go_round
                case rel => exact ⟨k + 1, by omega, by go_num, hyes⟩
                case measure => simp [intOf]; omega
        · have hyes := Lib.hid (name_all s k (by omega) hall.out)
          clear hall
          have hv : Hid (nameB s = true) := by show _ = _; rw [hyes.out]; simp [g1, g2]
          clear hyes
          go_wp2
          go_ret
          exact ⟨by rw [hv.out]; rfl, rfl⟩
    · have hv : Hid (nameB s = false) := by show _ = _; simp [nameB, g2]
      go_enter Try.func16, Try.ntmps16
      go_wp2
      go_ret
      exact ⟨by rw [hv.out]; rfl, rfl⟩
  · have hv : Hid (nameB s = false) := by show _ = _; simp [nameB, g1]
    go_enter Try.func16, Try.ntmps16
    go_wp2
    go_ret
    exact ⟨by rw [hv.out]; rfl, rfl⟩

end Go.Proofs.Ytagebhbjpadddab
