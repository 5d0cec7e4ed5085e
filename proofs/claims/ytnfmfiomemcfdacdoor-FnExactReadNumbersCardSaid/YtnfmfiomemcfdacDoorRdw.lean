/- Contracts of ReadDecimal on the spec's side: what a text spells, if it is the decimal text of a number within the limits. -/
import Derived.Test.YtnfmfiomemcfdacDoorRdf
import Derived.Test.YtnfmfiomemcfdacDoorDecw
import Derived.Test.YtnfmfiomemcfdacDoorBits
namespace Go.Proofs.YtnfmfiomemcfdacDoor
open Go.RowKit

theorem take_snocB (s : ByteArray) (k : Nat) (h : k < s.size) : s.data.toList.take (k + 1) = s.data.toList.take k ++ [s[k]] := by
  rw [List.take_succ_eq_append_getElem (by simpa using h)]; rfl
theorem scan_dig {c : UInt8} (l : List UInt8) (h1 : 48 ≤ (c.toNat : Int)) (h2 : (c.toNat : Int) ≤ 57) : (scan 0 (l ++ [c]) : Int) = 10 * (scan 0 l : Int) + ((c.toNat : Int) - 48) := by
  rw [scan_snoc, if_pos (by simp only [isDig, Bool.and_eq_true, decide_eq_true_eq]; omega)]; omega
theorem scan_other {c : UInt8} (l : List UInt8) (h : ¬ (48 ≤ (c.toNat : Int) ∧ (c.toNat : Int) ≤ 57)) : scan 0 (l ++ [c]) = scan 0 l := by
  rw [scan_snoc, if_neg (by simp only [isDig, Bool.and_eq_true, decide_eq_true_eq]; omega)]
theorem scan_small (l : List UInt8) (h : l.length ≤ 17) : scan 0 l < 100000000000000000 := by
  have h1 := scan_lt l 0 0 (by decide)
  have h2 : 10 ^ (0 + l.length) ≤ 10 ^ 17 := Nat.pow_le_pow_right (by decide) (by omega)
  have : (10 : Nat) ^ 17 = 100000000000000000 := by decide
  omega

/-- the answer of both sides -/
def rdAns (l : List UInt8) : Ending := .returned (.tuple #[.int .i64 (if rdOk l then rdN l else 0), .bool (rdOk l)])
theorem rdAns_no {l : List UInt8} (h : rdOk l = false) : Ending.returned (.tuple #[.int .i64 0, .bool false]) = rdAns l := by simp [rdAns, h]
theorem rdAns_yes {l : List UInt8} {n : Int} (h : rdOk l = true) (hn : rdN l = n) : Ending.returned (.tuple #[.int .i64 n, .bool true]) = rdAns l := by simp [rdAns, h, hn]

theorem str_ne {S s : ByteArray} {l : List UInt8} (h : (!S.toList == s.toList) = true) (hS : S = ⟨l.toArray⟩) : l ≠ s.data.toList := by
  subst hS; rw [ByteArray.toList_mk, ByteArray.toList_eq s] at h; simpa using h
theorem str_eq {S s : ByteArray} {l : List UInt8} (h : (!S.toList == s.toList) = false) (hS : S = ⟨l.toArray⟩) : l = s.data.toList := by
  subst hS; rw [ByteArray.toList_mk, ByteArray.toList_eq s] at h; simpa using h
theorem not_true {b : Bool} (h : ¬ b = true) : b = false := by cases b <;> simp_all

set_option maxHeartbeats 1600000 in
theorem l01Value_of (s : ByteArray) (w : World) (hs : s.size ≤ 9223372036854775807) :
    Calls Tryd.prog 36 #[.string s] w fun e w' => e = rdAns s.data.toList ∧ Below w.heap.size w w' := by
  have hlen : s.data.toList.length = s.size := by simp
  by_cases h1 : s.size < 1
  · have hno : rdOk s.data.toList = false := by simp only [rdOk, hlen]; rw [decide_eq_false (by omega)]; rfl
    have HN := Lib.hid hno
    clear hno hlen
    go_enter Tryd.func36, Tryd.ntmps36
    go_wp2
    go_ret2
    exact ⟨rdAns_no HN.out, Below.refl _ _⟩
  by_cases h2 : 17 < s.size
  · have hno : rdOk s.data.toList = false := by simp only [rdOk, hlen]; rw [decide_eq_false (by omega : ¬ s.size ≤ 17)]; simp
    have HN := Lib.hid hno
    clear hno hlen
    go_enter Tryd.func36, Tryd.ntmps36
    go_wp2
    go_ret2
    exact ⟨rdAns_no HN.out, Below.refl _ _⟩
  have HL := Lib.hid hlen
  clear hlen
  go_enter Tryd.func36, Tryd.ntmps36
  go_wp2
  go_loop [4, 5] (fun n i => ∃ k : Nat, k ≤ s.size ∧ i = .int .i64 k ∧ n = .int .i64 (scan 0 (s.data.toList.take k))) (fun _ i => s.size - (intOf i).toNat)
  case atStart => exact ⟨0, Nat.zero_le _, rfl, rfl⟩
  case round =>
    obtain ⟨k, hk, rfl, rfl⟩ := hrel
    have hsm := scan_small (s.data.toList.take k) (by rw [List.length_take]; omega)
    by_cases hlt : k < s.size
    · have hD := Lib.hid (scan_dig (c := s[k]) (s.data.toList.take k))
      have hO := Lib.hid (scan_other (c := s[k]) (s.data.toList.take k))
      have hT := Lib.hid (take_snocB s k hlt)
      have hc : (s[k].toNat : Int) ≤ 255 := by have := s[k].toNat_lt; omega
      generalize scan 0 (s.data.toList.take k) = N at hsm hD hO
      go_wp2
      all_goals
        go_round
        case rel => exact ⟨k + 1, by omega, by go_num, by rw [hT.out]; first | (rw [hO.out (by omega)]) | (rw [hD.out (by omega) (by omega)])⟩
        case measure => simp [intOf]; omega
    · obtain rfl : k = s.size := by omega
      have h0 : 0 < s.size := by omega
      have hTk : s.data.toList.take s.size = s.data.toList := List.take_of_length_le (by rw [HL.out]; omega)
      have hhd : s.data.toList.head? = some s[0] := by
        rw [List.head?_eq_getElem?, List.getElem?_eq_getElem (by rw [HL.out]; omega)]; rfl
      have HR : Hid (rdN s.data.toList = if ((s[0].toNat : Int) == 45) = true then -(scan 0 s.data.toList : Int) else (scan 0 s.data.toList : Int)) := by
        show _ = _
        unfold rdN; rw [hhd]
        by_cases h : ((s[0].toNat : Int) == 45) = true
        · rw [if_pos h, if_pos (by
            have : s[0].toNat = 45 := by have := beq_iff_eq.1 h; omega
            rw [show s[0] = 45 from UInt8.toNat_inj.1 this])]
        · rw [if_neg h, if_neg (by intro e; injection e with e; rw [e] at h; exact h rfl)]
      rw [hTk] at hsm ⊢
      clear hTk hhd
      have HO : Hid (∀ n : Int, rdN s.data.toList = n → (rdOk s.data.toList = true ↔ -1000000000000000 ≤ n ∧ n ≤ 1000000000000000 ∧ Lib.itoa n = s.data.toList)) := by
        intro n hn
        subst hn
        simp only [rdOk, Bool.and_eq_true, decide_eq_true_eq, HL.out]
        constructor
        · rintro ⟨⟨⟨_, a⟩, b⟩, c⟩; exact ⟨a, b, c⟩
        · rintro ⟨a, b, c⟩; exact ⟨⟨⟨⟨by omega, by omega⟩, a⟩, b⟩, c⟩
      generalize scan 0 s.data.toList = N at hsm HR ⊢
      by_cases h45 : ((s[0].toNat : Int) == 45) = true
      · have HN := Lib.hid (HO.out _ (by rw [HR.out, if_pos h45]))
        have HRn : Hid (rdN s.data.toList = (-(N : Int))) := by show _ = _; rw [HR.out, if_pos h45]
        by_cases hin : N ≤ 1000000000000000
        · have hib : inB (-(N : Int)) (-1000000000000000) 1000000000000000 = true := inB_yes (by omega)
          obtain ⟨S, hS⟩ : ∃ S : ByteArray, S = ⟨(Lib.itoa (-(N : Int))).toArray⟩ := ⟨_, rfl⟩
          have HD := fun w => l01Dec_of (-(N : Int)) w (by omega) (by omega)
          rw [← hS] at HD
          have HD' := Lib.hid HD
          have HS := Lib.hid hS
          clear HD hS
          go_wp2_with (first | (go_at_call 58; (with_reducible refine (l00In_any _ _ _ _).mono ?_); rintro e w' ⟨rfl, rfl⟩) | (go_at_call 59; (with_reducible refine (HD'.out _).mono ?_); rintro e w' ⟨rfl, hb⟩))
          · go_ret2
            exact ⟨rdAns_no (not_true fun h => str_ne (by assumption) HS.out (HN.out.1 h).2.2), hb⟩
          · go_ret2
            exact ⟨rdAns_yes (HN.out.2 ⟨by omega, by omega, str_eq (by assumption) HS.out⟩) HRn.out, hb⟩
        · have hib : inB (-(N : Int)) (-1000000000000000) 1000000000000000 = false := inB_no (by omega)
          go_wp2_with (first | (go_at_call 58; (with_reducible refine (l00In_any _ _ _ _).mono ?_); rintro e w' ⟨rfl, rfl⟩))
          go_ret2
          exact ⟨rdAns_no (not_true fun h => by have := HN.out.1 h; omega), Below.refl _ _⟩
      · have HN := Lib.hid (HO.out _ (by rw [HR.out, if_neg h45]))
        have h45' : ((s[0].toNat : Int) == 45) = false := not_true h45
        have HRn : Hid (rdN s.data.toList = (N : Int)) := by show _ = _; rw [HR.out, if_neg h45]
        by_cases hin : N ≤ 1000000000000000
        · have hib : inB (N : Int) (-1000000000000000) 1000000000000000 = true := inB_yes (by omega)
          obtain ⟨S, hS⟩ : ∃ S : ByteArray, S = ⟨(Lib.itoa (N : Int)).toArray⟩ := ⟨_, rfl⟩
          have HD := fun w => l01Dec_of (N : Int) w (by omega) (by omega)
          rw [← hS] at HD
          have HD' := Lib.hid HD
          have HS := Lib.hid hS
          clear HD hS
          go_wp2_with (first | (go_at_call 58; (with_reducible refine (l00In_any _ _ _ _).mono ?_); rintro e w' ⟨rfl, rfl⟩) | (go_at_call 59; (with_reducible refine (HD'.out _).mono ?_); rintro e w' ⟨rfl, hb⟩))
          · go_ret2
            exact ⟨rdAns_no (not_true fun h => str_ne (by assumption) HS.out (HN.out.1 h).2.2), hb⟩
          · go_ret2
            exact ⟨rdAns_yes (HN.out.2 ⟨by omega, by omega, str_eq (by assumption) HS.out⟩) HRn.out, hb⟩
        · have hib : inB (N : Int) (-1000000000000000) 1000000000000000 = false := inB_no (by omega)
          go_wp2_with (first | (go_at_call 58; (with_reducible refine (l00In_any _ _ _ _).mono ?_); rintro e w' ⟨rfl, rfl⟩))
          go_ret2
          exact ⟨rdAns_no (not_true fun h => by have := HN.out.1 h; omega), Below.refl _ _⟩
end Go.Proofs.YtnfmfiomemcfdacDoor
