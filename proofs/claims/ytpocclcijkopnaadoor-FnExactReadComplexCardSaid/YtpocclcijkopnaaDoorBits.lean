/- Contracts of the small functions on numbers: bits, not-a-numbers, finiteness, sameness. Every 32-bit or 64-bit number; the world may have drawn. -/
import Derived.Test.YtpocclcijkopnaaDoorFw
namespace Go.Proofs.YtpocclcijkopnaaDoor
open Go.RowKit Fl

def Quiet (w w' : World) : Prop := ∃ n, w' = w.drewN n
theorem Quiet.refl (w : World) : Quiet w w := ⟨0, rfl⟩
theorem Quiet.drew {w w' : World} (h : Quiet w w') : Quiet w w'.drew := by obtain ⟨n, rfl⟩ := h; exact ⟨n + 1, rfl⟩
theorem Quiet.one (w : World) : Quiet w w.drew := ⟨1, rfl⟩
theorem Quiet.trans {a b c : World} (h : Quiet a b) (h' : Quiet b c) : Quiet a c := by
  obtain ⟨n, rfl⟩ := h; obtain ⟨m, rfl⟩ := h'; exact ⟨n + m, by simp [World.drewN, Nat.add_assoc]⟩

theorem Quiet.alike {w w' : World} (h : Quiet w w') : w'.Alike w := by obtain ⟨n, rfl⟩ := h; exact ⟨rfl, rfl, rfl⟩

/-- BitsOf -/
def bitsOf (a : Nat) : Int := if nan32 a then 2143289344 else a

theorem ord32 (a : Nat) : FloatKind.f32.format.order a a = if nan32 a then none else some .eq := order_self _ a
theorem ord64 (a : Nat) : FloatKind.f64.format.order a a = if nan64 a then none else some .eq := order_self _ a

theorem call_bits32 (a : Nat) (w : World) : (callFunc 28 #[.float .f32 a]).run Tryd.prog w = .ok (.value (.int .u32 a)) w :=
  (run_callFunc_extern (e := Extern.MathFloatBits.float32bits) Tryd.func28 (by kernel_rfl) (by kernel_rfl) (by kernel_rfl) (by kernel_rfl) _ w).trans rfl
theorem call_from32 (n : Nat) (w : World) : (callFunc 26 #[.int .u32 n]).run Tryd.prog w = .ok (.value (.float .f32 n)) w :=
  (run_callFunc_extern (e := Extern.MathFloatBits.float32frombits) Tryd.func26 (by kernel_rfl) (by kernel_rfl) (by kernel_rfl) (by kernel_rfl) _ w).trans rfl

set_option maxHeartbeats 400000 in
theorem l01Bits_any (a : Nat) (w : World) (ha : a < 4294967296) :
    Calls Tryd.prog 20 #[.float .f32 a] w fun e w' => e = .returned (.int .i64 (bitsOf a)) ∧ w = w' := by
  have ho := ord32 a
  have hb := call_bits32 a
  cases hn : nan32 a
  all_goals
    simp only [hn, if_true, Bool.false_eq_true, if_false] at ho
    go_enter Tryd.func20, Tryd.ntmps20
    go_wp2
    go_ret
    exact ⟨by simp [bitsOf, hn], rfl⟩

set_option maxHeartbeats 400000 in
theorem isNaN_any (a : Nat) (w : World) :
    Calls Tryd.prog 48 #[.float .f64 a] w fun e w' => e = .returned (.bool (nan64 a)) ∧ w = w' := by
  have ho := ord64 a
  cases hn : nan64 a
  all_goals
    simp only [hn, if_true, Bool.false_eq_true, if_false] at ho
    go_enter Tryd.func48, Tryd.ntmps48
    go_wp2
    go_ret
    exact ⟨rfl, rfl⟩

set_option maxHeartbeats 400000 in
theorem bitsOf_any (a : Nat) (w : World) (ha : a < 4294967296) :
    Calls Tryd.prog 34 #[.float .f32 a] w fun e w' => e = .returned (.int .i64 (bitsOf a)) ∧ Quiet w w' := by
  have hb := call_bits32 a
  cases hn : nan32 a
  · have hc := fun w => run_convert_float_float (P := Tryd.prog) w 36 33 .f32 .f64 a (wide a) (by kernel_rfl) Tryd.underlying33 (wide_conv a hn)
    have hw := nan_wide a hn
    go_enter Tryd.func34, Tryd.ntmps34
    go_wp2_with (go_at_call 48; go_loud (refine (isNaN_any _ _).mono ?_); rintro e w' ⟨rfl, rfl⟩)
    go_ret
    exact ⟨by simp [bitsOf, hn], Quiet.refl _⟩
  · have hc := fun w => run_widen_nan (P := Tryd.prog) 36 33 a w (by kernel_rfl) Tryd.underlying33 hn
    have hw := nanc64_nan a
    go_enter Tryd.func34, Tryd.ntmps34
    go_wp2_with (go_at_call 48; go_loud (refine (isNaN_any _ _).mono ?_); rintro e w' ⟨rfl, rfl⟩)
    go_ret
    exact ⟨by simp [bitsOf, hn], Quiet.one _⟩




theorem nanc64_lt (a : Nat) (w : World) : nanc .f64 a w < 18446744073709551616 := by
  show (w.tape w.drawn (.nanConv .f64 a)) % 2 * 2 ^ 63 + 0x7ff0000000000000 + 1 + (w.tape w.drawn (.nanConv .f64 a)) / 2 % (2 ^ 52 - 1) < _
  omega
theorem wide_lt (a : Nat) : wide a < 18446744073709551616 := Ieee.double.write_lt _



set_option maxHeartbeats 400000 in
theorem sameFloat_self (a : Nat) (w : World) (hn : nan64 a = false) :
    Calls Tryd.prog 18 #[.float .f64 a, .float .f64 a] w fun e w' => e = .returned (.bool true) ∧ w = w' := by
  have ho := ord64 a
  simp only [hn, Bool.false_eq_true, if_false] at ho
  cases hz : (FloatKind.f64.format.order a 0 == some .eq)
  · go_enter Tryd.func18, Tryd.ntmps18
    go_wp2
    all_goals (go_ret; exact ⟨rfl, rfl⟩)
  · obtain ⟨r, hr⟩ := one_over_zero a hz
    have hq := fun w => run_float_arith (P := Tryd.prog) w .quo 33 .f64 _ _ _ hr
    go_enter Tryd.func18, Tryd.ntmps18
    go_wp2
    all_goals (go_ret; exact ⟨by simp, rfl⟩)

set_option maxHeartbeats 400000 in
theorem sameFloat_nan (a b : Nat) (w : World) (hn : nan64 a = true) (hm : nan64 b = true) :
    Calls Tryd.prog 18 #[.float .f64 a, .float .f64 b] w fun e w' => e = .returned (.bool true) ∧ w = w' := by
  have ho := ord64 a
  have hp := ord64 b
  simp only [hn, hm, if_true] at ho hp
  go_enter Tryd.func18, Tryd.ntmps18
  go_wp2
  all_goals (go_ret; exact ⟨rfl, rfl⟩)


set_option maxHeartbeats 400000 in
theorem l01From_any (n : Nat) (w : World) (h : n < 4294967296) :
    Calls Tryd.prog 19 #[.int .i64 n] w fun e w' => e = .returned (.float .f32 n) ∧ w = w' := by
  have hfrom := call_from32
  go_enter Tryd.func19, Tryd.ntmps19
  go_wp2
  go_ret
  exact ⟨rfl, rfl⟩

end Go.Proofs.YtpocclcijkopnaaDoor
