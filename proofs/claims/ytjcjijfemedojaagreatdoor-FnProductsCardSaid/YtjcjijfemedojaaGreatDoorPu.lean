/- strconv.ParseUint to the base of 16, at 32 bits. -/
import Derived.Test.YtjcjijfemedojaaGreatDoorHxw
import Derived.Lib.ConvBytes
import Derived.Lib.AtoiErrMem
import Derived.Lib.Strings
import Derived.Lib.Walk
import Derived.Laws.Strings3
namespace Go.Proofs.YtjcjijfemedojaaGreatDoor
open Go.RowKit

def lw (c : UInt8) : UInt8 := c ||| 32
/-- what a byte is worth as a digit -/
def dv (c : UInt8) : Option Nat := if 48 ≤ c.toNat ∧ c.toNat ≤ 57 then some (c.toNat - 48) else if 97 ≤ (lw c).toNat ∧ (lw c).toNat ≤ 102 then some ((lw c).toNat - 87) else none
inductive Pu
  | ok (n : Nat)
  | bad
  | over
def pu : Nat → List UInt8 → Pu
  | n, [] => .ok n
  | n, c :: r => match dv c with
    | none => .bad
    | some d => if 16 * n + d ≤ 4294967295 then pu (16 * n + d) r else .over

theorem lw_all : ∀ n : Fin 256, bits .or .u8 (n.val : Int) 32 = ((lw (UInt8.ofNat n.val)).toNat : Int) := by decide +kernel
theorem lw_bits (c : UInt8) : bits .or .u8 (c.toNat : Int) 32 = ((lw c).toNat : Int) := by
  have h := lw_all ⟨c.toNat, c.toNat_lt⟩
  simpa using h
theorem pu_none {c : UInt8} {n : Nat} {r : List UInt8} (h : dv c = none) : pu n (c :: r) = .bad := by rw [pu, h]
theorem pu_over {c : UInt8} {n d : Nat} {r : List UInt8} (h : dv c = some d) (hd : ¬ 16 * n + d ≤ 4294967295) : pu n (c :: r) = .over := by
  rw [pu, h]; exact if_neg hd
theorem pu_step {c : UInt8} {n d : Nat} {r : List UInt8} (h : dv c = some d) (hd : 16 * n + d ≤ 4294967295) : pu n (c :: r) = pu (16 * n + d) r := by
  rw [pu, h]; exact if_pos hd
def puEnd : Pu → Ending
  | .ok n => .returned (.tuple #[.int .u64 n, .nilIface])
  | .bad => .returned (.tuple #[.int .u64 0, .iface 127 (.int .i64 2)])
  | .over => .returned (.tuple #[.int .u64 4294967295, .iface 127 (.int .i64 1)])
theorem lower_of (c : Int) (w : World) : Calls Tryz.prog 102 #[.int .u8 c] w fun e w' => e = .returned (.int .u8 (bits .or .u8 c 32)) ∧ w = w' := by
  go_enter Tryz.func102, Tryz.ntmps102
  go_wp2
  go_ret
  exact ⟨rfl, rfl⟩

set_option maxRecDepth 100000 in
set_option maxHeartbeats 3200000 in
theorem parseUint_in (t : ByteArray) (w : World) (hmax : t.size ≤ 1048576) (hne : 0 < t.size) :
    Calls Tryz.prog 85 #[.string t, .int .i64 16, .int .i64 32] w fun e w' => e = puEnd (pu 0 t.data.toList) ∧ Below w.heap.size w w' := by
  have hemp : t.toList.isEmpty = false := by
    rw [← decide_eq_emptyBytes]
    exact decide_eq_false (fun h => by rw [h] at hne; exact absurd hne (by decide))
  have hcv := Lib.run_convert_string_bytes (P := Tryz.prog) w 9 22 5 t (u := .string) Tryz.underlying9 Tryz.underlying22 Tryz.underlying5
  have hB : ∀ j, j < t.size → (Lib.bytesWorld w 5 t).cell? ⟨w.heap.size, j, none⟩ = some (.int .u8 (t.data.toList.getD j 0).toNat) := fun j hj => Lib.bytesWorld_cell w 5 t j hj
  have hbel : Below w.heap.size w (Lib.bytesWorld w 5 t) := Lib.bytesWorld_below w 5 t
  obtain ⟨W1, hW1⟩ : ∃ W1, W1 = Lib.bytesWorld w 5 t := ⟨_, rfl⟩
  rw [← hW1] at hcv hB hbel
  clear hW1
  obtain ⟨bs, hL⟩ : ∃ bs, bs = t.data.toList := ⟨_, rfl⟩
  have hLn : bs.length = t.size := by rw [hL, Lib.size_eq]
  have HBel := Lib.hid hbel
  rw [← hL]
  rw [← hL] at hB
  clear hL hbel
  go_enter Tryz.func85, Tryz.ntmps85
  go_wp2
  go_loop [12, 13, 101] (fun vu vn vi => ∃ (k acc : Nat) (a : Int), vu = .bool false ∧ vn = .int .u64 a ∧ vi = .int .i64 k ∧ k ≤ t.size ∧ Hid (a = (acc : Int) ∧ acc ≤ 4294967295 ∧ pu 0 bs = pu acc (bs.drop k)))
    (fun _ _ vi => t.size - (intOf vi).toNat)
  case atStart => exact ⟨0, 0, 0, rfl, rfl, rfl, by omega, rfl, by omega, rfl⟩
  case round =>
    obtain ⟨k, acc, a, rfl, rfl, rfl, hk, hh⟩ := hrel
    obtain ⟨ha, hacc, hh2⟩ := hh.out
    clear hh
    have a0 : 0 ≤ a := by omega
    have a1 : a ≤ 4294967295 := by omega
    by_cases hkn : k < t.size
    · have hc := hB k hkn
      have hdrop : bs.drop k = bs[k]'(by omega) :: bs.drop (k + 1) := List.drop_eq_getElem_cons (by omega)
      have hget : bs.getD k 0 = bs[k]'(by omega) := by simp [List.getD, List.getElem?_eq_getElem (show k < bs.length by omega)]
      have hdec := hh2
      rw [hdrop] at hdec
      rw [hget] at hc
      generalize bs[k]'(by omega) = c at hc hdec
      have hc256 : c.toNat < 256 := c.toNat_lt
      have hlw := lw_bits c
      have hl256 : (lw c).toNat < 256 := (lw c).toNat_lt
      have hdv : dv c = if 48 ≤ c.toNat ∧ c.toNat ≤ 57 then some (c.toNat - 48) else if 97 ≤ (lw c).toNat ∧ (lw c).toNat ≤ 102 then some ((lw c).toNat - 87) else none := rfl
      generalize (lw c).toNat = l at hlw hl256 hdv
      clear hB hdrop hget hh2
      cases hd : dv c with
      | none =>
        rw [pu_none hd] at hdec
        have HD := Lib.hid hdec
        rw [hd] at hdv
        clear hdec hd ha hacc
        by_cases hdig : 48 ≤ c.toNat ∧ c.toNat ≤ 57
        · rw [if_pos hdig] at hdv; cases hdv
        · rw [if_neg hdig] at hdv
          by_cases hlet : 97 ≤ l ∧ l ≤ 102
          · rw [if_pos hlet] at hdv; cases hdv
          · clear hdv
            go_wp2_with (go_at_call 102; (with_reducible refine (lower_of _ _).mono ?_); rintro e w' ⟨rfl, rfl⟩)
            all_goals go_ret2
            all_goals exact ⟨by rw [HD.out]; rfl, HBel.out⟩
      | some d =>
        by_cases hov : 16 * acc + d ≤ 4294967295
        · have HN := Lib.hid (hdec.trans (pu_step hd hov))
          rw [hd] at hdv
          clear hdec hd
          by_cases hdig : 48 ≤ c.toNat ∧ c.toNat ≤ 57
          · rw [if_pos hdig] at hdv
            have hdv' := Lib.hid (Option.some.inj hdv)
            have hd2 : (d : Int) = (c.toNat : Int) - 48 := by have := hdv'.out; omega
            obtain ⟨hd0, hd1⟩ := hdig
            have hov' : a * 16 + ((c.toNat : Int) - 48) ≤ 4294967295 := by omega
            have HV := Lib.hid (show a * 16 + ((c.toNat : Int) - 48) = ((16 * acc + d : Nat) : Int) by omega)
            have HX := Lib.hid (show a * 16 + ((c.toNat : Int) - 48) = ((16 * acc + d : Nat) : Int) ∧ 16 * acc + d ≤ 4294967295 ∧ pu 0 bs = pu (16 * acc + d) (bs.drop (k + 1)) from ⟨HV.out, hov, HN.out⟩)
            clear hdv hlw hl256 hov hd2 ha hacc
            go_wp2
            refine ⟨⟨k + 1, 16 * acc + d, _, rfl, rfl, by go_num, by omega, HX.out⟩, by simp [intOf]; omega⟩
          · rw [if_neg hdig] at hdv
            by_cases hlet : 97 ≤ l ∧ l ≤ 102
            · rw [if_pos hlet] at hdv
              have hdv' := Lib.hid (Option.some.inj hdv)
              have hd2 : (d : Int) = (l : Int) - 87 := by have := hdv'.out; omega
              obtain ⟨hd0, hd1⟩ := hlet
              have hc95 : ¬ c.toNat = 95 := fun e => by
                rw [e] at hlw
                have : bits .or .u8 ((95 : Nat) : Int) 32 = 127 := by decide
                omega
              have hov' : a * 16 + ((l : Int) - 97 + 10) ≤ 4294967295 := by omega
              have HV := Lib.hid (show a * 16 + ((l : Int) - 97 + 10) = ((16 * acc + d : Nat) : Int) by omega)
              have HX := Lib.hid (show a * 16 + ((l : Int) - 97 + 10) = ((16 * acc + d : Nat) : Int) ∧ 16 * acc + d ≤ 4294967295 ∧ pu 0 bs = pu (16 * acc + d) (bs.drop (k + 1)) from ⟨HV.out, hov, HN.out⟩)
              clear hdv hov hd2 ha hacc
              go_wp2_with (go_at_call 102; (with_reducible refine (lower_of _ _).mono ?_); rintro e w' ⟨rfl, rfl⟩)
              all_goals refine ⟨⟨k + 1, 16 * acc + d, _, rfl, rfl, by go_num, by omega, HX.out⟩, by simp [intOf]; omega⟩
            · rw [if_neg hlet] at hdv; cases hdv
        · have hdec2 := hdec.trans (pu_over hd hov)
          have HD := Lib.hid hdec2
          rw [hd] at hdv
          clear hdec hd hdec2
          by_cases hdig : 48 ≤ c.toNat ∧ c.toNat ≤ 57
          · rw [if_pos hdig] at hdv
            have hd2 : (d : Int) = (c.toNat : Int) - 48 := by have := Option.some.inj hdv; omega
            obtain ⟨hd0, hd1⟩ := hdig
            have hov' : 4294967295 < a * 16 + ((c.toNat : Int) - 48) := by omega
            clear hdv hlw hl256 hov hd2 ha hacc
            go_wp2
            all_goals go_ret2
            all_goals exact ⟨by rw [HD.out]; rfl, HBel.out⟩
          · rw [if_neg hdig] at hdv
            by_cases hlet : 97 ≤ l ∧ l ≤ 102
            · rw [if_pos hlet] at hdv
              have hd2 : (d : Int) = (l : Int) - 87 := by have := Option.some.inj hdv; omega
              obtain ⟨hd0, hd1⟩ := hlet
              have hc95 : ¬ c.toNat = 95 := fun e => by
                rw [e] at hlw
                have : bits .or .u8 ((95 : Nat) : Int) 32 = 127 := by decide
                omega
              have hov' : 4294967295 < a * 16 + ((l : Int) - 97 + 10) := by omega
              clear hdv hov hd2 ha hacc
              go_wp2_with (go_at_call 102; (with_reducible refine (lower_of _ _).mono ?_); rintro e w' ⟨rfl, rfl⟩)
              all_goals go_ret2
              all_goals exact ⟨by rw [HD.out]; rfl, HBel.out⟩
            · rw [if_neg hlet] at hdv; cases hdv
    · obtain rfl : k = t.size := by omega
      have hF : pu 0 bs = .ok acc := by rw [hh2, List.drop_eq_nil_of_le (by omega)]; rfl
      have HD := Lib.hid hF
      subst ha
      clear hF hh2 hB
      go_wp2
      go_ret2
      exact ⟨by rw [HD.out]; rfl, HBel.out⟩
end Go.Proofs.YtjcjijfemedojaaGreatDoor
