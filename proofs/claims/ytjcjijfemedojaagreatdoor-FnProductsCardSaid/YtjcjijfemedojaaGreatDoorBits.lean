/- Contracts of the small functions on numbers: bits, not-a-numbers, finiteness, sameness. Every 32-bit or 64-bit number; the world may have drawn. -/
import Derived.Test.YtjcjijfemedojaaGreatDoorFw
namespace Go.Proofs.YtjcjijfemedojaaGreatDoor
open Go.RowKit Fl

def Quiet (w w' : World) : Prop := ∃ n, w' = w.drewN n
theorem Quiet.refl (w : World) : Quiet w w := ⟨0, rfl⟩
theorem Quiet.drew {w w' : World} (h : Quiet w w') : Quiet w w'.drew := by obtain ⟨n, rfl⟩ := h; exact ⟨n + 1, rfl⟩
theorem Quiet.one (w : World) : Quiet w w.drew := ⟨1, rfl⟩
theorem Quiet.trans {a b c : World} (h : Quiet a b) (h' : Quiet b c) : Quiet a c := by
  obtain ⟨n, rfl⟩ := h; obtain ⟨m, rfl⟩ := h'; exact ⟨n + m, by simp [World.drewN, Nat.add_assoc]⟩

theorem Quiet.alike {w w' : World} (h : Quiet w w') : w'.Alike w := by obtain ⟨n, rfl⟩ := h; exact ⟨rfl, rfl, rfl⟩

/-- BitsOf -/
def bitsOf (a : Nat) : Int := if nan32 a then 2143289344 else a

theorem ord32 (a : Nat) : FloatKind.f32.format.order a a = if nan32 a then none else some .eq := order_self _ a
theorem ord64 (a : Nat) : FloatKind.f64.format.order a a = if nan64 a then none else some .eq := order_self _ a

theorem call_bits32 (a : Nat) (w : World) : (callFunc 46 #[.float .f32 a]).run Tryz.prog w = .ok (.value (.int .u32 a)) w :=
  (run_callFunc_extern (e := Extern.MathFloatBits.float32bits) Tryz.func46 (by kernel_rfl) (by kernel_rfl) (by kernel_rfl) (by kernel_rfl) _ w).trans rfl
theorem call_from32 (n : Nat) (w : World) : (callFunc 44 #[.int .u32 n]).run Tryz.prog w = .ok (.value (.float .f32 n)) w :=
  (run_callFunc_extern (e := Extern.MathFloatBits.float32frombits) Tryz.func44 (by kernel_rfl) (by kernel_rfl) (by kernel_rfl) (by kernel_rfl) _ w).trans rfl
theorem call_bits64 (a : Nat) (w : World) : (callFunc 109 #[.float .f64 a]).run Tryz.prog w = .ok (.value (.int .u64 a)) w :=
  (run_callFunc_extern (e := Extern.MathFloatBits.float64bits) Tryz.func109 (by kernel_rfl) (by kernel_rfl) (by kernel_rfl) (by kernel_rfl) _ w).trans rfl
theorem call_from64 (n : Int) (w : World) : (callFunc 108 #[.int .u64 n]).run Tryz.prog w = .ok (.value (.float .f64 n.toNat)) w :=
  (run_callFunc_extern (e := Extern.MathFloatBits.float64frombits) Tryz.func108 (by kernel_rfl) (by kernel_rfl) (by kernel_rfl) (by kernel_rfl) _ w).trans rfl

set_option maxHeartbeats 400000 in
theorem l01Bits_any (a : Nat) (w : World) (ha : a < 4294967296) :
    Calls Tryz.prog 54 #[.float .f32 a] w fun e w' => e = .returned (.int .i64 (bitsOf a)) ∧ w = w' := by
  have ho := ord32 a
  have hb := call_bits32 a
  cases hn : nan32 a
  all_goals
    simp only [hn, if_true, Bool.false_eq_true, if_false] at ho
    go_enter Tryz.func54, Tryz.ntmps54
    go_wp2
    go_ret
    exact ⟨by simp [bitsOf, hn], rfl⟩

set_option maxHeartbeats 400000 in
theorem isNaN_any (a : Nat) (w : World) :
    Calls Tryz.prog 45 #[.float .f64 a] w fun e w' => e = .returned (.bool (nan64 a)) ∧ w = w' := by
  have ho := ord64 a
  cases hn : nan64 a
  all_goals
    simp only [hn, if_true, Bool.false_eq_true, if_false] at ho
    go_enter Tryz.func45, Tryz.ntmps45
    go_wp2
    go_ret
    exact ⟨rfl, rfl⟩

set_option maxHeartbeats 400000 in
theorem bitsOf_any (a : Nat) (w : World) (ha : a < 4294967296) :
    Calls Tryz.prog 20 #[.float .f32 a] w fun e w' => e = .returned (.int .i64 (bitsOf a)) ∧ Quiet w w' := by
  have hb := call_bits32 a
  cases hn : nan32 a
  · have hc := fun w => run_convert_float_float (P := Tryz.prog) w 28 46 .f32 .f64 a (wide a) (by kernel_rfl) Tryz.underlying46 (wide_conv a hn)
    have hw := nan_wide a hn
    go_enter Tryz.func20, Tryz.ntmps20
    go_wp2_with (go_at_call 45; go_loud (refine (isNaN_any _ _).mono ?_); rintro e w' ⟨rfl, rfl⟩)
    go_ret
    exact ⟨by simp [bitsOf, hn], Quiet.refl _⟩
  · have hc := fun w => run_widen_nan (P := Tryz.prog) 28 46 a w (by kernel_rfl) Tryz.underlying46 hn
    have hw := nanc64_nan a
    go_enter Tryz.func20, Tryz.ntmps20
    go_wp2_with (go_at_call 45; go_loud (refine (isNaN_any _ _).mono ?_); rintro e w' ⟨rfl, rfl⟩)
    go_ret
    exact ⟨by simp [bitsOf, hn], Quiet.one _⟩

theorem andNot_sign (a : Nat) (h : a < 18446744073709551616) : bits .andNot .u64 a 9223372036854775808 = (a % 2 ^ 63 : Nat) := by
  have := u64_andNot_nat a 9223372036854775808 h (by omega)
  rw [show (9223372036854775808 : Int) = ((9223372036854775808 : Nat) : Int) from rfl, this]
  congr 1
  exact Nat.and_two_pow_sub_one_eq_mod a 63

set_option maxHeartbeats 400000 in
theorem abs_any (a : Nat) (w : World) (ha : a < 18446744073709551616) :
    Calls Tryz.prog 87 #[.float .f64 a] w fun e w' => e = .returned (.float .f64 (a % 2 ^ 63)) ∧ w = w' := by
  have h1 := call_bits64 a
  have h2 := call_from64
  have h3 : (bits .andNot .u64 a 9223372036854775808).toNat = a % 2 ^ 63 := by rw [andNot_sign a ha]; exact Int.toNat_natCast _
  go_enter Tryz.func87, Tryz.ntmps87
  go_wp2
  go_ret
  exact ⟨rfl, rfl⟩

set_option maxHeartbeats 400000 in
theorem isInf_any (a : Nat) (w : World) (ha : a < 18446744073709551616) :
    Calls Tryz.prog 76 #[.float .f64 a, .int .i64 0] w fun e w' => e = .returned (.bool (inf64 a)) ∧ w = w' := by
  have hi : (FloatKind.f64.format.order (a % 2 ^ 63) 9218868437227405311 == some .gt) = inf64 a := abs_gt_max a
  go_enter Tryz.func76, Tryz.ntmps76
  go_wp2_with (go_at_call 87; go_loud (refine (abs_any _ _ ha).mono ?_); rintro e w' ⟨rfl, rfl⟩)
  go_ret
  exact ⟨by rw [← hi]; rfl, rfl⟩

set_option maxHeartbeats 400000 in
theorem isFiniteLong_any (a : Nat) (w : World) (ha : a < 18446744073709551616) :
    Calls Tryz.prog 65 #[.float .f64 a] w fun e w' => e = .returned (.bool (fin64 a)) ∧ w = w' := by
  cases hn : nan64 a
  · go_enter Tryz.func65, Tryz.ntmps65
    go_wp2_with (first | (go_at_call 45; go_loud (refine (isNaN_any _ _).mono ?_); rintro e w' ⟨rfl, rfl⟩) | (go_at_call 76; go_loud (refine (isInf_any _ _ ha).mono ?_); rintro e w' ⟨rfl, rfl⟩))
    go_ret
    exact ⟨by simp [fin64, hn], rfl⟩
  · go_enter Tryz.func65, Tryz.ntmps65
    go_wp2_with (first | (go_at_call 45; go_loud (refine (isNaN_any _ _).mono ?_); rintro e w' ⟨rfl, rfl⟩) | (go_at_call 76; go_loud (refine (isInf_any _ _ ha).mono ?_); rintro e w' ⟨rfl, rfl⟩))
    go_ret
    exact ⟨by simp [fin64, hn], rfl⟩

theorem nanc64_lt (a : Nat) (w : World) : nanc .f64 a w < 18446744073709551616 := by
  show (w.tape w.drawn (.nanConv .f64 a)) % 2 * 2 ^ 63 + 0x7ff0000000000000 + 1 + (w.tape w.drawn (.nanConv .f64 a)) / 2 % (2 ^ 52 - 1) < _
  omega
theorem wide_lt (a : Nat) : wide a < 18446744073709551616 := Ieee.double.write_lt _

set_option maxHeartbeats 400000 in
theorem isFinite_any (a : Nat) (w : World) :
    Calls Tryz.prog 51 #[.float .f32 a] w fun e w' => e = .returned (.bool (fin32 a)) ∧ Quiet w w' := by
  cases hn : nan32 a
  · have hc := fun w => run_convert_float_float (P := Tryz.prog) w 28 46 .f32 .f64 a (wide a) (by kernel_rfl) Tryz.underlying46 (wide_conv a hn)
    have hw := nan_wide a hn
    have hi := inf_wide a hn
    go_enter Tryz.func51, Tryz.ntmps51
    go_wp2_with (go_at_call 65; go_loud (refine (isFiniteLong_any _ _ (wide_lt _)).mono ?_); rintro e w' ⟨rfl, rfl⟩)
    go_ret
    exact ⟨by simp [fin64, fin32, hn, hw, hi], Quiet.refl _⟩
  · have hc := fun w => run_widen_nan (P := Tryz.prog) 28 46 a w (by kernel_rfl) Tryz.underlying46 hn
    have hw := nanc64_nan a
    go_enter Tryz.func51, Tryz.ntmps51
    go_wp2_with (go_at_call 65; go_loud (refine (isFiniteLong_any _ _ (nanc64_lt _ _)).mono ?_); rintro e w' ⟨rfl, rfl⟩)
    go_ret
    exact ⟨by simp [fin64, fin32, hn, hw], Quiet.one _⟩

theorem sub_fin32 (a : Nat) (h : fin32 a = true) : floatBits .sub .f32 a a = some 0 := by
  obtain ⟨s, m, e, hx⟩ := fin32_number h
  exact (sub_self_fin _ a s m e hx).trans rfl
theorem sub_notfin32 (a : Nat) (h : fin32 a = false) : floatBits .sub .f32 a a = none := by
  refine sub_self_none _ a ?_
  simp only [fin32, nan32, inf32, Bool.and_eq_false_iff, Bool.not_eq_false'] at h
  exact h

set_option maxHeartbeats 400000 in
theorem l01Finite_any (a : Nat) (w : World) :
    Calls Tryz.prog 52 #[.float .f32 a] w fun e w' => e = .returned (.bool (fin32 a)) ∧ Quiet w w' := by
  cases hf : fin32 a
  · have hs := fun w => run_arith_nan (P := Tryz.prog) .sub 28 .f32 a a w (by simp) (sub_notfin32 a hf)
    have ho := fun w => order_nan_left Ieee.single (nanb .f32 a a w) 0 (nanb32_nan a a w)
    go_enter Tryz.func52, Tryz.ntmps52
    go_wp2
    go_ret
    exact ⟨by have := ho w; simp [FloatKind.format, this], Quiet.one _⟩
  · have hs := fun w => run_float_arith (P := Tryz.prog) w .sub 28 .f32 _ _ _ (sub_fin32 a hf)
    go_enter Tryz.func52, Tryz.ntmps52
    go_wp2
    go_ret
    exact ⟨by rfl, Quiet.refl _⟩


set_option maxHeartbeats 400000 in
theorem specIsFinite_any (a : Nat) (w : World) :
    Calls Tryz.prog 26 #[.float .f32 a] w fun e w' => e = .returned (.bool (fin32 a)) ∧ Quiet w w' := by
  go_enter Tryz.func26, Tryz.ntmps26
  go_wp2_with (go_at_call 52; go_loud (refine (l01Finite_any _ _).mono ?_); rintro e w' ⟨rfl, hq⟩)
  go_ret
  exact ⟨rfl, hq⟩
set_option maxHeartbeats 400000 in
theorem l01Same_any (a b : Nat) (w : World) (ha : a < 4294967296) (hb : b < 4294967296) :
    Calls Tryz.prog 32 #[.float .f32 a, .float .f32 b] w fun e w' => e = .returned (.bool (bitsOf a == bitsOf b)) ∧ w = w' := by
  go_enter Tryz.func32, Tryz.ntmps32
  go_wp2_with (first | (go_at_call 54; go_loud (refine (l01Bits_any _ _ (by assumption)).mono ?_); rintro e w' ⟨rfl, rfl⟩))
  go_ret
  exact ⟨rfl, rfl⟩
set_option maxHeartbeats 400000 in
theorem specSameNumber_any (a b : Nat) (w : World) (ha : a < 4294967296) (hb : b < 4294967296) :
    Calls Tryz.prog 9 #[.float .f32 a, .float .f32 b] w fun e w' => e = .returned (.bool (bitsOf a == bitsOf b)) ∧ w = w' := by
  go_enter Tryz.func9, Tryz.ntmps9
  go_wp2_with (go_at_call 32; go_loud (refine (l01Same_any _ _ _ ha hb).mono ?_); rintro e w' ⟨rfl, rfl⟩)
  go_ret
  exact ⟨rfl, rfl⟩
set_option maxHeartbeats 400000 in
theorem sameNumber_any (a b : Nat) (w : World) (ha : a < 4294967296) (hb : b < 4294967296) :
    Calls Tryz.prog 50 #[.float .f32 a, .float .f32 b] w fun e w' => e = .returned (.bool (bitsOf a == bitsOf b)) ∧ Quiet w w' := by
  go_enter Tryz.func50, Tryz.ntmps50
  go_wp2_with (go_at_call 20; go_loud (refine (bitsOf_any _ _ (by assumption)).mono ?_); rintro e w' ⟨rfl, hq⟩)
  go_ret
  exact ⟨rfl, Quiet.trans (by assumption) (by assumption)⟩

set_option maxHeartbeats 400000 in
theorem l01From_any (n : Nat) (w : World) (h : n < 4294967296) :
    Calls Tryz.prog 42 #[.int .i64 n] w fun e w' => e = .returned (.float .f32 n) ∧ w = w' := by
  have hfrom := call_from32
  go_enter Tryz.func42, Tryz.ntmps42
  go_wp2
  go_ret
  exact ⟨rfl, rfl⟩
set_option maxHeartbeats 400000 in
theorem fromBits_in (n : Nat) (w : World) (h : n < 4294967296) :
    Calls Tryz.prog 19 #[.int .i64 n] w fun e w' => e = .returned (.tuple #[.float .f32 n, .bool true]) ∧ w = w' := by
  have hfrom := call_from32
  go_enter Tryz.func19, Tryz.ntmps19
  go_wp2
  go_ret2
  exact ⟨rfl, rfl⟩
set_option maxHeartbeats 400000 in
theorem fromBits_out (n : Int) (w : World) (h : ¬ (0 ≤ n ∧ n ≤ 4294967295)) :
    Calls Tryz.prog 19 #[.int .i64 n] w fun e w' => e = .returned (.tuple #[.float .f32 0, .bool false]) ∧ w = w' := by
  by_cases h0 : n < 0
  · clear h
    go_enter Tryz.func19, Tryz.ntmps19
    go_wp2
    go_ret2
    exact ⟨rfl, rfl⟩
  · have h1 : 4294967295 < n := by omega
    clear h
    go_enter Tryz.func19, Tryz.ntmps19
    go_wp2
    go_ret2
    exact ⟨rfl, rfl⟩

end Go.Proofs.YtjcjijfemedojaaGreatDoor
