/- Contracts of the small functions on numbers: bits, not-a-numbers, finiteness, sameness. Every 32-bit or 64-bit number; the world may have drawn. -/
import Derived.Test.YtnfmfiomemcfdacDoorFw
namespace Go.Proofs.YtnfmfiomemcfdacDoor
open Go.RowKit Fl

def Quiet (w w' : World) : Prop := ∃ n, w' = w.drewN n
theorem Quiet.refl (w : World) : Quiet w w := ⟨0, rfl⟩
theorem Quiet.drew {w w' : World} (h : Quiet w w') : Quiet w w'.drew := by obtain ⟨n, rfl⟩ := h; exact ⟨n + 1, rfl⟩
theorem Quiet.one (w : World) : Quiet w w.drew := ⟨1, rfl⟩
theorem Quiet.trans {a b c : World} (h : Quiet a b) (h' : Quiet b c) : Quiet a c := by
  obtain ⟨n, rfl⟩ := h; obtain ⟨m, rfl⟩ := h'; exact ⟨n + m, by simp [World.drewN, Nat.add_assoc]⟩

theorem Quiet.alike {w w' : World} (h : Quiet w w') : w'.Alike w := by obtain ⟨n, rfl⟩ := h; exact ⟨rfl, rfl, rfl⟩

/-- BitsOf -/
def bitsOf (a : Nat) : Int := if nan32 a then 2143289344 else a

theorem ord32 (a : Nat) : FloatKind.f32.format.order a a = if nan32 a then none else some .eq := order_self _ a
theorem ord64 (a : Nat) : FloatKind.f64.format.order a a = if nan64 a then none else some .eq := order_self _ a

theorem call_bits32 (a : Nat) (w : World) : (callFunc 85 #[.float .f32 a]).run Tryd.prog w = .ok (.value (.int .u32 a)) w :=
  (run_callFunc_extern (e := Extern.MathFloatBits.float32bits) Tryd.func85 (by kernel_rfl) (by kernel_rfl) (by kernel_rfl) (by kernel_rfl) _ w).trans rfl
theorem call_from32 (n : Nat) (w : World) : (callFunc 70 #[.int .u32 n]).run Tryd.prog w = .ok (.value (.float .f32 n)) w :=
  (run_callFunc_extern (e := Extern.MathFloatBits.float32frombits) Tryd.func70 (by kernel_rfl) (by kernel_rfl) (by kernel_rfl) (by kernel_rfl) _ w).trans rfl

set_option maxHeartbeats 400000 in
theorem l01Bits_any (a : Nat) (w : World) (ha : a < 4294967296) :
    Calls Tryd.prog 68 #[.float .f32 a] w fun e w' => e = .returned (.int .i64 (bitsOf a)) ∧ w = w' := by
  have ho := ord32 a
  have hb := call_bits32 a
  cases hn : nan32 a
  all_goals
    simp only [hn, if_true, Bool.false_eq_true, if_false] at ho
    go_enter Tryd.func68, Tryd.ntmps68
    go_wp2
    go_ret
    exact ⟨by simp [bitsOf, hn], rfl⟩

set_option maxHeartbeats 400000 in
theorem isNaN_any (a : Nat) (w : World) :
    Calls Tryd.prog 84 #[.float .f64 a] w fun e w' => e = .returned (.bool (nan64 a)) ∧ w = w' := by
  have ho := ord64 a
  cases hn : nan64 a
  all_goals
    simp only [hn, if_true, Bool.false_eq_true, if_false] at ho
    go_enter Tryd.func84, Tryd.ntmps84
    go_wp2
    go_ret
    exact ⟨rfl, rfl⟩

set_option maxHeartbeats 400000 in
theorem bitsOf_any (a : Nat) (w : World) (ha : a < 4294967296) :
    Calls Tryd.prog 65 #[.float .f32 a] w fun e w' => e = .returned (.int .i64 (bitsOf a)) ∧ Quiet w w' := by
  have hb := call_bits32 a
  cases hn : nan32 a
  · have hc := fun w => run_convert_float_float (P := Tryd.prog) w 64 52 .f32 .f64 a (wide a) (by kernel_rfl) Tryd.underlying52 (wide_conv a hn)
    have hw := nan_wide a hn
    go_enter Tryd.func65, Tryd.ntmps65
    go_wp2_with (go_at_call 84; go_loud (refine (isNaN_any _ _).mono ?_); rintro e w' ⟨rfl, rfl⟩)
    go_ret
    exact ⟨by simp [bitsOf, hn], Quiet.refl _⟩
  · have hc := fun w => run_widen_nan (P := Tryd.prog) 64 52 a w (by kernel_rfl) Tryd.underlying52 hn
    have hw := nanc64_nan a
    go_enter Tryd.func65, Tryd.ntmps65
    go_wp2_with (go_at_call 84; go_loud (refine (isNaN_any _ _).mono ?_); rintro e w' ⟨rfl, rfl⟩)
    go_ret
    exact ⟨by simp [bitsOf, hn], Quiet.one _⟩




theorem nanc64_lt (a : Nat) (w : World) : nanc .f64 a w < 18446744073709551616 := by
  show (w.tape w.drawn (.nanConv .f64 a)) % 2 * 2 ^ 63 + 0x7ff0000000000000 + 1 + (w.tape w.drawn (.nanConv .f64 a)) / 2 % (2 ^ 52 - 1) < _
  omega
theorem wide_lt (a : Nat) : wide a < 18446744073709551616 := Ieee.double.write_lt _



set_option maxHeartbeats 400000 in
theorem sameFloat_self (a : Nat) (w : World) (hn : nan64 a = false) :
    Calls Tryd.prog 50 #[.float .f64 a, .float .f64 a] w fun e w' => e = .returned (.bool true) ∧ w = w' := by
  have ho := ord64 a
  simp only [hn, Bool.false_eq_true, if_false] at ho
  cases hz : (FloatKind.f64.format.order a 0 == some .eq)
  · go_enter Tryd.func50, Tryd.ntmps50
    go_wp2
    all_goals (go_ret; exact ⟨rfl, rfl⟩)
  · obtain ⟨r, hr⟩ := one_over_zero a hz
    have hq := fun w => run_float_arith (P := Tryd.prog) w .quo 52 .f64 _ _ _ hr
    go_enter Tryd.func50, Tryd.ntmps50
    go_wp2
    all_goals (go_ret; exact ⟨by simp, rfl⟩)

set_option maxHeartbeats 400000 in
theorem sameFloat_nan (a b : Nat) (w : World) (hn : nan64 a = true) (hm : nan64 b = true) :
    Calls Tryd.prog 50 #[.float .f64 a, .float .f64 b] w fun e w' => e = .returned (.bool true) ∧ w = w' := by
  have ho := ord64 a
  have hp := ord64 b
  simp only [hn, hm, if_true] at ho hp
  go_enter Tryd.func50, Tryd.ntmps50
  go_wp2
  all_goals (go_ret; exact ⟨rfl, rfl⟩)


set_option maxHeartbeats 400000 in
theorem l01From_any (n : Nat) (w : World) (h : n < 4294967296) :
    Calls Tryd.prog 67 #[.int .i64 n] w fun e w' => e = .returned (.float .f32 n) ∧ w = w' := by
  have hfrom := call_from32
  go_enter Tryd.func67, Tryd.ntmps67
  go_wp2
  go_ret
  exact ⟨rfl, rfl⟩
def inB (n a b : Int) : Bool := decide (a ≤ n) && decide (n ≤ b)
theorem inB_yes {n a b : Int} (h : a ≤ n ∧ n ≤ b) : inB n a b = true := by simp [inB, h.1, h.2]
theorem inB_no {n a b : Int} (h : ¬ (a ≤ n ∧ n ≤ b)) : inB n a b = false := by simp only [inB, ← Bool.decide_and, h, decide_false]
theorem l00In_any (n a b : Int) (w : World) :
    Calls Tryd.prog 58 #[.int .i64 n, .int .i64 a, .int .i64 b] w fun e w' => e = .returned (.bool (inB n a b)) ∧ w = w' := by
  by_cases h1 : a ≤ n <;> by_cases h2 : n ≤ b
  all_goals
    go_enter Tryd.func58, Tryd.ntmps58
    go_wp2
    go_ret
    exact ⟨by simp [inB, h1, h2], rfl⟩

end Go.Proofs.YtnfmfiomemcfdacDoor
