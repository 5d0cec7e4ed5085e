/- Contracts of the small functions on numbers: bits, not-a-numbers, finiteness, sameness. Every 32-bit or 64-bit number; the world may have drawn. -/
import Derived.Test.YtpocclcijkopnabFw
namespace Go.Proofs.Ytpocclcijkopnab
open Go.RowKit Fl

def Quiet (w w' : World) : Prop := ∃ n, w' = w.drewN n
theorem Quiet.refl (w : World) : Quiet w w := ⟨0, rfl⟩
theorem Quiet.drew {w w' : World} (h : Quiet w w') : Quiet w w'.drew := by obtain ⟨n, rfl⟩ := h; exact ⟨n + 1, rfl⟩
theorem Quiet.one (w : World) : Quiet w w.drew := ⟨1, rfl⟩
theorem Quiet.trans {a b c : World} (h : Quiet a b) (h' : Quiet b c) : Quiet a c := by
  obtain ⟨n, rfl⟩ := h; obtain ⟨m, rfl⟩ := h'; exact ⟨n + m, by simp [World.drewN, Nat.add_assoc]⟩

theorem Quiet.alike {w w' : World} (h : Quiet w w') : w'.Alike w := by obtain ⟨n, rfl⟩ := h; exact ⟨rfl, rfl, rfl⟩

/-- BitsOf -/
def bitsOf (a : Nat) : Int := if nan32 a then 2143289344 else a

theorem ord32 (a : Nat) : FloatKind.f32.format.order a a = if nan32 a then none else some .eq := order_self _ a
theorem ord64 (a : Nat) : FloatKind.f64.format.order a a = if nan64 a then none else some .eq := order_self _ a

theorem call_bits32 (a : Nat) (w : World) : (callFunc 24 #[.float .f32 a]).run Try.prog w = .ok (.value (.int .u32 a)) w :=
  (run_callFunc_extern (e := Extern.MathFloatBits.float32bits) Try.func24 (by kernel_rfl) (by kernel_rfl) (by kernel_rfl) (by kernel_rfl) _ w).trans rfl

set_option maxHeartbeats 400000 in
theorem l01Bits_any (a : Nat) (w : World) (ha : a < 4294967296) :
    Calls Try.prog 20 #[.float .f32 a] w fun e w' => e = .returned (.int .i64 (bitsOf a)) ∧ w = w' := by
  have ho := ord32 a
  have hb := call_bits32 a
  cases hn : nan32 a
  all_goals
    simp only [hn, if_true, Bool.false_eq_true, if_false] at ho
    go_enter Try.func20, Try.ntmps20
    go_wp2
    go_ret
    exact ⟨by simp [bitsOf, hn], rfl⟩

set_option maxHeartbeats 400000 in
theorem isNaN_any (a : Nat) (w : World) :
    Calls Try.prog 25 #[.float .f64 a] w fun e w' => e = .returned (.bool (nan64 a)) ∧ w = w' := by
  have ho := ord64 a
  cases hn : nan64 a
  all_goals
    simp only [hn, if_true, Bool.false_eq_true, if_false] at ho
    go_enter Try.func25, Try.ntmps25
    go_wp2
    go_ret
    exact ⟨rfl, rfl⟩

set_option maxHeartbeats 400000 in
theorem bitsOf_any (a : Nat) (w : World) (ha : a < 4294967296) :
    Calls Try.prog 21 #[.float .f32 a] w fun e w' => e = .returned (.int .i64 (bitsOf a)) ∧ Quiet w w' := by
  have hb := call_bits32 a
  cases hn : nan32 a
  · have hc := fun w => run_convert_float_float (P := Try.prog) w 22 52 .f32 .f64 a (wide a) (by kernel_rfl) Try.underlying52 (wide_conv a hn)
    have hw := nan_wide a hn
    go_enter Try.func21, Try.ntmps21
    go_wp2_with (go_at_call 25; go_loud (refine (isNaN_any _ _).mono ?_); rintro e w' ⟨rfl, rfl⟩)
    go_ret
    exact ⟨by simp [bitsOf, hn], Quiet.refl _⟩
  · have hc := fun w => run_widen_nan (P := Try.prog) 22 52 a w (by kernel_rfl) Try.underlying52 hn
    have hw := nanc64_nan a
    go_enter Try.func21, Try.ntmps21
    go_wp2_with (go_at_call 25; go_loud (refine (isNaN_any _ _).mono ?_); rintro e w' ⟨rfl, rfl⟩)
    go_ret
    exact ⟨by simp [bitsOf, hn], Quiet.one _⟩




theorem nanc64_lt (a : Nat) (w : World) : nanc .f64 a w < 18446744073709551616 := by
  show (w.tape w.drawn (.nanConv .f64 a)) % 2 * 2 ^ 63 + 0x7ff0000000000000 + 1 + (w.tape w.drawn (.nanConv .f64 a)) / 2 % (2 ^ 52 - 1) < _
  omega
theorem wide_lt (a : Nat) : wide a < 18446744073709551616 := Ieee.double.write_lt _



set_option maxHeartbeats 400000 in
theorem sameFloat_self (a : Nat) (w : World) (hn : nan64 a = false) :
    Calls Try.prog 23 #[.float .f64 a, .float .f64 a] w fun e w' => e = .returned (.bool true) ∧ w = w' := by
  have ho := ord64 a
  simp only [hn, Bool.false_eq_true, if_false] at ho
  cases hz : (FloatKind.f64.format.order a 0 == some .eq)
  · go_enter Try.func23, Try.ntmps23
    go_wp2
    all_goals (go_ret; exact ⟨rfl, rfl⟩)
  · obtain ⟨r, hr⟩ := one_over_zero a hz
    have hq := fun w => run_float_arith (P := Try.prog) w .quo 52 .f64 _ _ _ hr
    go_enter Try.func23, Try.ntmps23
    go_wp2
    all_goals (go_ret; exact ⟨by simp, rfl⟩)

set_option maxHeartbeats 400000 in
theorem sameFloat_nan (a b : Nat) (w : World) (hn : nan64 a = true) (hm : nan64 b = true) :
    Calls Try.prog 23 #[.float .f64 a, .float .f64 b] w fun e w' => e = .returned (.bool true) ∧ w = w' := by
  have ho := ord64 a
  have hp := ord64 b
  simp only [hn, hm, if_true] at ho hp
  go_enter Try.func23, Try.ntmps23
  go_wp2
  all_goals (go_ret; exact ⟨rfl, rfl⟩)

set_option maxHeartbeats 400000 in
theorem l01Same_any (a b : Nat) (w : World) (ha : a < 4294967296) (hb : b < 4294967296) :
    Calls Try.prog 13 #[.float .f32 a, .float .f32 b] w fun e w' => e = .returned (.bool (bitsOf a == bitsOf b)) ∧ w = w' := by
  go_enter Try.func13, Try.ntmps13
  go_wp2_with (first | (go_at_call 20; go_loud (refine (l01Bits_any _ _ (by assumption)).mono ?_); rintro e w' ⟨rfl, rfl⟩))
  go_ret
  exact ⟨rfl, rfl⟩


end Go.Proofs.Ytpocclcijkopnab
