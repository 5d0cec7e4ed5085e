/- Contracts of the functions on strings of chapter 1: check numbers and names. Every string. -/
import Derived.Test.YtokllkngikcoiaaDoorBits
import Derived.Lib.Hide
namespace Go.Proofs.YtokllkngikcoiaaDoor
open Go.RowKit Fl

theorem take_snoc (s : ByteArray) (k : Nat) (h : k < s.size) : s.data.toList.take (k + 1) = s.data.toList.take k ++ [s[k]] := by
  rw [List.take_succ_eq_append_getElem (by simpa using h)]; rfl

theorem ret_int {k : IntKind} {a b : Int} (h : a = b) : Ending.returned (.int k a) = .returned (.int k b) := by rw [h]

def chk (n : Int) (l : List UInt8) : Int := l.foldl (fun n c => (773 * n + (c.toNat : Int) + 89) % 65003) n
theorem chk_snoc (n : Int) (l : List UInt8) (c : UInt8) : chk n (l ++ [c]) = (773 * chk n l + (c.toNat : Int) + 89) % 65003 := by
  simp [chk, List.foldl_append]
theorem chk_bd (n : Int) (l : List UInt8) (h0 : 0 ≤ n) (h1 : n ≤ 65002) : 0 ≤ chk n l ∧ chk n l ≤ 65002 := by
  induction l generalizing n with
  | nil => exact ⟨h0, h1⟩
  | cons c l ih =>
    have hc : (c.toNat : Int) ≥ 0 := by omega
    exact ih _ (by show 0 ≤ (773 * n + (c.toNat : Int) + 89) % 65003; omega) (by show (773 * n + (c.toNat : Int) + 89) % 65003 ≤ 65002; omega)

set_option maxHeartbeats 400000 in
theorem l01Check_any (n : Int) (s : ByteArray) (w : World) (hs : s.size ≤ maxLen) (h0 : 0 ≤ n) (h1 : n ≤ 65002) :
    Calls Tryd.prog 32 #[.int .i64 n, .string s] w fun e w' => e = .returned (.int .i64 (chk n s.data.toList)) ∧ w = w' := by
  unfold maxLen at hs
  go_enter Tryd.func32, Tryd.ntmps32
  go_wp2
  go_loop [0, 5] (fun n' i => ∃ k : Nat, k ≤ s.size ∧ i = .int .i64 k ∧ n' = .int .i64 (chk n (s.data.toList.take k))) (fun _ i => s.size - (intOf i).toNat)
  case atStart => exact ⟨0, Nat.zero_le _, rfl, rfl⟩
  case round =>
    obtain ⟨k, hk, rfl, rfl⟩ := hrel
    have hd := chk_bd n (s.data.toList.take k) h0 h1
    by_cases hlt : k < s.size
    · have HS : Hid (chk n (s.data.toList.take (k + 1)) = (773 * chk n (s.data.toList.take k) + (s[k].toNat : Int) + 89) % 65003) := by rw [take_snoc s k hlt]; exact chk_snoc _ _ _
      obtain ⟨hd0, hd1⟩ := hd
      have hb : s[k].toNat < 256 := s[k].toNat_lt
      go_wp2
      all_goals
        go_round
        case rel => exact ⟨k + 1, by omega, by go_num, by rw [HS.out]⟩
        case measure => simp [intOf]; omega
    · go_wp2
      go_ret
      exact ⟨ret_int (by rw [List.take_of_length_le (by simp; omega)]), rfl⟩
set_option maxHeartbeats 400000 in
theorem checkOf_in (n : Int) (s : ByteArray) (w : World) (hs : s.size ≤ maxLen) (h0 : 0 ≤ n) (h1 : n ≤ 65002) :
    Calls Tryd.prog 35 #[.int .i64 n, .string s] w fun e w' => e = .returned (.tuple #[.int .i64 (chk n s.data.toList), .bool true]) ∧ w = w' := by
  unfold maxLen at hs
  go_enter Tryd.func35, Tryd.ntmps35
  go_wp2
  go_loop [6, 17] (fun n' i => ∃ k : Nat, k ≤ s.size ∧ i = .int .i64 k ∧ n' = .int .i64 (chk n (s.data.toList.take k))) (fun _ i => s.size - (intOf i).toNat)
  case atStart => exact ⟨0, Nat.zero_le _, rfl, rfl⟩
  case round =>
    obtain ⟨k, hk, rfl, rfl⟩ := hrel
    have hd := chk_bd n (s.data.toList.take k) h0 h1
    by_cases hlt : k < s.size
    · have HS : Hid (chk n (s.data.toList.take (k + 1)) = (773 * chk n (s.data.toList.take k) + (s[k].toNat : Int) + 89) % 65003) := by rw [take_snoc s k hlt]; exact chk_snoc _ _ _
      obtain ⟨hd0, hd1⟩ := hd
      have hb : s[k].toNat < 256 := s[k].toNat_lt
      go_wp2
      all_goals
        go_round
        case rel => exact ⟨k + 1, by omega, by go_num, by rw [HS.out]⟩
        case measure => simp [intOf]; omega
    · go_wp2
      go_ret2
      exact ⟨by rw [List.take_of_length_le (by simp; omega)]; rfl, rfl⟩

set_option maxHeartbeats 400000 in
theorem checkOf_out (n : Int) (s : ByteArray) (w : World) (h : ¬ (0 ≤ n ∧ n ≤ 65002)) :
    Calls Tryd.prog 35 #[.int .i64 n, .string s] w fun e w' => e = .returned (.tuple #[.int .i64 0, .bool false]) ∧ w = w' := by
  by_cases h0 : n < 0
  · clear h
    go_enter Tryd.func35, Tryd.ntmps35
    go_wp2
    go_ret2
    exact ⟨rfl, rfl⟩
  · have h1 : 65003 ≤ n := by omega
    clear h
    go_enter Tryd.func35, Tryd.ntmps35
    go_wp2
    go_ret2
    exact ⟨rfl, rfl⟩


end Go.Proofs.YtokllkngikcoiaaDoor
