/- Contracts of the small functions on numbers: bits, not-a-numbers, finiteness, sameness. Every 32-bit or 64-bit number; the world may have drawn. -/
import Derived.Test.YtljcgfgkfkoeeaaGreatDoorFw
namespace Go.Proofs.YtljcgfgkfkoeeaaGreatDoor
open Go.RowKit Fl

def Quiet (w w' : World) : Prop := ∃ n, w' = w.drewN n
theorem Quiet.refl (w : World) : Quiet w w := ⟨0, rfl⟩
theorem Quiet.drew {w w' : World} (h : Quiet w w') : Quiet w w'.drew := by obtain ⟨n, rfl⟩ := h; exact ⟨n + 1, rfl⟩
theorem Quiet.one (w : World) : Quiet w w.drew := ⟨1, rfl⟩
theorem Quiet.trans {a b c : World} (h : Quiet a b) (h' : Quiet b c) : Quiet a c := by
  obtain ⟨n, rfl⟩ := h; obtain ⟨m, rfl⟩ := h'; exact ⟨n + m, by simp [World.drewN, Nat.add_assoc]⟩

theorem Quiet.alike {w w' : World} (h : Quiet w w') : w'.Alike w := by obtain ⟨n, rfl⟩ := h; exact ⟨rfl, rfl, rfl⟩

/-- BitsOf -/
def bitsOf (a : Nat) : Int := if nan32 a then 2143289344 else a

theorem ord32 (a : Nat) : FloatKind.f32.format.order a a = if nan32 a then none else some .eq := order_self _ a
theorem ord64 (a : Nat) : FloatKind.f64.format.order a a = if nan64 a then none else some .eq := order_self _ a

theorem call_bits32 (a : Nat) (w : World) : (callFunc 56 #[.float .f32 a]).run Tryz.prog w = .ok (.value (.int .u32 a)) w :=
  (run_callFunc_extern (e := Extern.MathFloatBits.float32bits) Tryz.func56 (by kernel_rfl) (by kernel_rfl) (by kernel_rfl) (by kernel_rfl) _ w).trans rfl
theorem call_from32 (n : Nat) (w : World) : (callFunc 55 #[.int .u32 n]).run Tryz.prog w = .ok (.value (.float .f32 n)) w :=
  (run_callFunc_extern (e := Extern.MathFloatBits.float32frombits) Tryz.func55 (by kernel_rfl) (by kernel_rfl) (by kernel_rfl) (by kernel_rfl) _ w).trans rfl
theorem call_bits64 (a : Nat) (w : World) : (callFunc 118 #[.float .f64 a]).run Tryz.prog w = .ok (.value (.int .u64 a)) w :=
  (run_callFunc_extern (e := Extern.MathFloatBits.float64bits) Tryz.func118 (by kernel_rfl) (by kernel_rfl) (by kernel_rfl) (by kernel_rfl) _ w).trans rfl
theorem call_from64 (n : Int) (w : World) : (callFunc 117 #[.int .u64 n]).run Tryz.prog w = .ok (.value (.float .f64 n.toNat)) w :=
  (run_callFunc_extern (e := Extern.MathFloatBits.float64frombits) Tryz.func117 (by kernel_rfl) (by kernel_rfl) (by kernel_rfl) (by kernel_rfl) _ w).trans rfl

set_option maxHeartbeats 400000 in
theorem l01Bits_any (a : Nat) (w : World) (ha : a < 4294967296) :
    Calls Tryz.prog 42 #[.float .f32 a] w fun e w' => e = .returned (.int .i64 (bitsOf a)) ∧ w = w' := by
  have ho := ord32 a
  have hb := call_bits32 a
  cases hn : nan32 a
  all_goals
    simp only [hn, if_true, Bool.false_eq_true, if_false] at ho
    go_enter Tryz.func42, Tryz.ntmps42
    go_wp2
    go_ret
    exact ⟨by simp [bitsOf, hn], rfl⟩

set_option maxHeartbeats 400000 in
theorem isNaN_any (a : Nat) (w : World) :
    Calls Tryz.prog 86 #[.float .f64 a] w fun e w' => e = .returned (.bool (nan64 a)) ∧ w = w' := by
  have ho := ord64 a
  cases hn : nan64 a
  all_goals
    simp only [hn, if_true, Bool.false_eq_true, if_false] at ho
    go_enter Tryz.func86, Tryz.ntmps86
    go_wp2
    go_ret
    exact ⟨rfl, rfl⟩

set_option maxHeartbeats 400000 in
theorem bitsOf_any (a : Nat) (w : World) (ha : a < 4294967296) :
    Calls Tryz.prog 71 #[.float .f32 a] w fun e w' => e = .returned (.int .i64 (bitsOf a)) ∧ Quiet w w' := by
  have hb := call_bits32 a
  cases hn : nan32 a
  · have hc := fun w => run_convert_float_float (P := Tryz.prog) w 37 53 .f32 .f64 a (wide a) (by kernel_rfl) Tryz.underlying53 (wide_conv a hn)
    have hw := nan_wide a hn
    go_enter Tryz.func71, Tryz.ntmps71
    go_wp2_with (go_at_call 86; go_loud (refine (isNaN_any _ _).mono ?_); rintro e w' ⟨rfl, rfl⟩)
    go_ret
    exact ⟨by simp [bitsOf, hn], Quiet.refl _⟩
  · have hc := fun w => run_widen_nan (P := Tryz.prog) 37 53 a w (by kernel_rfl) Tryz.underlying53 hn
    have hw := nanc64_nan a
    go_enter Tryz.func71, Tryz.ntmps71
    go_wp2_with (go_at_call 86; go_loud (refine (isNaN_any _ _).mono ?_); rintro e w' ⟨rfl, rfl⟩)
    go_ret
    exact ⟨by simp [bitsOf, hn], Quiet.one _⟩

theorem andNot_sign (a : Nat) (h : a < 18446744073709551616) : bits .andNot .u64 a 9223372036854775808 = (a % 2 ^ 63 : Nat) := by
  have := u64_andNot_nat a 9223372036854775808 h (by omega)
  rw [show (9223372036854775808 : Int) = ((9223372036854775808 : Nat) : Int) from rfl, this]
  congr 1
  exact Nat.and_two_pow_sub_one_eq_mod a 63

set_option maxHeartbeats 400000 in
theorem abs_any (a : Nat) (w : World) (ha : a < 18446744073709551616) :
    Calls Tryz.prog 108 #[.float .f64 a] w fun e w' => e = .returned (.float .f64 (a % 2 ^ 63)) ∧ w = w' := by
  have h1 := call_bits64 a
  have h2 := call_from64
  have h3 : (bits .andNot .u64 a 9223372036854775808).toNat = a % 2 ^ 63 := by rw [andNot_sign a ha]; exact Int.toNat_natCast _
  go_enter Tryz.func108, Tryz.ntmps108
  go_wp2
  go_ret
  exact ⟨rfl, rfl⟩

set_option maxHeartbeats 400000 in
theorem isInf_any (a : Nat) (w : World) (ha : a < 18446744073709551616) :
    Calls Tryz.prog 93 #[.float .f64 a, .int .i64 0] w fun e w' => e = .returned (.bool (inf64 a)) ∧ w = w' := by
  have hi : (FloatKind.f64.format.order (a % 2 ^ 63) 9218868437227405311 == some .gt) = inf64 a := abs_gt_max a
  go_enter Tryz.func93, Tryz.ntmps93
  go_wp2_with (go_at_call 108; go_loud (refine (abs_any _ _ ha).mono ?_); rintro e w' ⟨rfl, rfl⟩)
  go_ret
  exact ⟨by rw [← hi]; rfl, rfl⟩

set_option maxHeartbeats 400000 in
theorem isFiniteLong_any (a : Nat) (w : World) (ha : a < 18446744073709551616) :
    Calls Tryz.prog 73 #[.float .f64 a] w fun e w' => e = .returned (.bool (fin64 a)) ∧ w = w' := by
  cases hn : nan64 a
  · go_enter Tryz.func73, Tryz.ntmps73
    go_wp2_with (first | (go_at_call 86; go_loud (refine (isNaN_any _ _).mono ?_); rintro e w' ⟨rfl, rfl⟩) | (go_at_call 93; go_loud (refine (isInf_any _ _ ha).mono ?_); rintro e w' ⟨rfl, rfl⟩))
    go_ret
    exact ⟨by simp [fin64, hn], rfl⟩
  · go_enter Tryz.func73, Tryz.ntmps73
    go_wp2_with (first | (go_at_call 86; go_loud (refine (isNaN_any _ _).mono ?_); rintro e w' ⟨rfl, rfl⟩) | (go_at_call 93; go_loud (refine (isInf_any _ _ ha).mono ?_); rintro e w' ⟨rfl, rfl⟩))
    go_ret
    exact ⟨by simp [fin64, hn], rfl⟩

theorem nanc64_lt (a : Nat) (w : World) : nanc .f64 a w < 18446744073709551616 := by
  show (w.tape w.drawn (.nanConv .f64 a)) % 2 * 2 ^ 63 + 0x7ff0000000000000 + 1 + (w.tape w.drawn (.nanConv .f64 a)) / 2 % (2 ^ 52 - 1) < _
  omega
theorem wide_lt (a : Nat) : wide a < 18446744073709551616 := Ieee.double.write_lt _

set_option maxHeartbeats 400000 in
theorem isFinite_any (a : Nat) (w : World) :
    Calls Tryz.prog 63 #[.float .f32 a] w fun e w' => e = .returned (.bool (fin32 a)) ∧ Quiet w w' := by
  cases hn : nan32 a
  · have hc := fun w => run_convert_float_float (P := Tryz.prog) w 37 53 .f32 .f64 a (wide a) (by kernel_rfl) Tryz.underlying53 (wide_conv a hn)
    have hw := nan_wide a hn
    have hi := inf_wide a hn
    go_enter Tryz.func63, Tryz.ntmps63
    go_wp2_with (go_at_call 73; go_loud (refine (isFiniteLong_any _ _ (wide_lt _)).mono ?_); rintro e w' ⟨rfl, rfl⟩)
    go_ret
    exact ⟨by simp [fin64, fin32, hn, hw, hi], Quiet.refl _⟩
  · have hc := fun w => run_widen_nan (P := Tryz.prog) 37 53 a w (by kernel_rfl) Tryz.underlying53 hn
    have hw := nanc64_nan a
    go_enter Tryz.func63, Tryz.ntmps63
    go_wp2_with (go_at_call 73; go_loud (refine (isFiniteLong_any _ _ (nanc64_lt _ _)).mono ?_); rintro e w' ⟨rfl, rfl⟩)
    go_ret
    exact ⟨by simp [fin64, fin32, hn, hw], Quiet.one _⟩

theorem sub_fin32 (a : Nat) (h : fin32 a = true) : floatBits .sub .f32 a a = some 0 := by
  obtain ⟨s, m, e, hx⟩ := fin32_number h
  exact (sub_self_fin _ a s m e hx).trans rfl
theorem sub_notfin32 (a : Nat) (h : fin32 a = false) : floatBits .sub .f32 a a = none := by
  refine sub_self_none _ a ?_
  simp only [fin32, nan32, inf32, Bool.and_eq_false_iff, Bool.not_eq_false'] at h
  exact h

set_option maxHeartbeats 400000 in
theorem l01Finite_any (a : Nat) (w : World) :
    Calls Tryz.prog 45 #[.float .f32 a] w fun e w' => e = .returned (.bool (fin32 a)) ∧ Quiet w w' := by
  cases hf : fin32 a
  · have hs := fun w => run_arith_nan (P := Tryz.prog) .sub 37 .f32 a a w (by simp) (sub_notfin32 a hf)
    have ho := fun w => order_nan_left Ieee.single (nanb .f32 a a w) 0 (nanb32_nan a a w)
    go_enter Tryz.func45, Tryz.ntmps45
    go_wp2
    go_ret
    exact ⟨by have := ho w; simp [FloatKind.format, this], Quiet.one _⟩
  · have hs := fun w => run_float_arith (P := Tryz.prog) w .sub 37 .f32 _ _ _ (sub_fin32 a hf)
    go_enter Tryz.func45, Tryz.ntmps45
    go_wp2
    go_ret
    exact ⟨by rfl, Quiet.refl _⟩

set_option maxHeartbeats 400000 in
theorem sameFloat_self (a : Nat) (w : World) (hn : nan64 a = false) :
    Calls Tryz.prog 39 #[.float .f64 a, .float .f64 a] w fun e w' => e = .returned (.bool true) ∧ w = w' := by
  have ho := ord64 a
  simp only [hn, Bool.false_eq_true, if_false] at ho
  cases hz : (FloatKind.f64.format.order a 0 == some .eq)
  · go_enter Tryz.func39, Tryz.ntmps39
    go_wp2
    all_goals (go_ret; exact ⟨rfl, rfl⟩)
  · obtain ⟨r, hr⟩ := one_over_zero a hz
    have hq := fun w => run_float_arith (P := Tryz.prog) w .quo 53 .f64 _ _ _ hr
    go_enter Tryz.func39, Tryz.ntmps39
    go_wp2
    all_goals (go_ret; exact ⟨by simp, rfl⟩)

set_option maxHeartbeats 400000 in
theorem sameFloat_nan (a b : Nat) (w : World) (hn : nan64 a = true) (hm : nan64 b = true) :
    Calls Tryz.prog 39 #[.float .f64 a, .float .f64 b] w fun e w' => e = .returned (.bool true) ∧ w = w' := by
  have ho := ord64 a
  have hp := ord64 b
  simp only [hn, hm, if_true] at ho hp
  go_enter Tryz.func39, Tryz.ntmps39
  go_wp2
  all_goals (go_ret; exact ⟨rfl, rfl⟩)


set_option maxHeartbeats 400000 in
theorem l01From_any (n : Nat) (w : World) (h : n < 4294967296) :
    Calls Tryz.prog 41 #[.int .i64 n] w fun e w' => e = .returned (.float .f32 n) ∧ w = w' := by
  have hfrom := call_from32
  go_enter Tryz.func41, Tryz.ntmps41
  go_wp2
  go_ret
  exact ⟨rfl, rfl⟩

end Go.Proofs.YtljcgfgkfkoeeaaGreatDoor
