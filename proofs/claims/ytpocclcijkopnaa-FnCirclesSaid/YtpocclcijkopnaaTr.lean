/- The tenths of the law's numbers: the program's answer by what the kernel worked out. -/
import Derived.Test.YtpocclcijkopnaaTq
import Derived.Test.YtpocclcijkopnaaTens
import Derived.Test.YtpocclcijkopnaaBits
import Derived.Lib.Hide
namespace Go.Proofs.Ytpocclcijkopnaa
open Go.RowKit Fl
open Ieee (Datum Toward)

/-- the whole number at most a number -/
def floorW (s : Bool) (y : Nat) : Nat := Nat.add (Nat.div (sg y) (Nat.pow 2 (Nat.sub 1075 (xp y)))) (cond s (cond (Nat.beq (Nat.mod (sg y) (Nat.pow 2 (Nat.sub 1075 (xp y)))) 0) 0 1) 0)
theorem floorW_def (s : Bool) (y : Nat) : floorW s y = sg y / 2 ^ (1075 - xp y) + cond s (cond (Nat.beq (sg y % 2 ^ (1075 - xp y)) 0) 0 1) 0 := by
  unfold floorW
  rfl
theorem floorW_le (s : Bool) {y : Nat} : floorW s y ≤ sg y + 1 := by
  rw [floorW_def]
  have h1 := Nat.div_le_self (sg y) (2 ^ (1075 - xp y))
  have h2 : cond s (cond (Nat.beq (sg y % 2 ^ (1075 - xp y)) 0) 0 1) 0 ≤ 1 := by
    cases s
    · exact Nat.zero_le _
    · cases Nat.beq (sg y % 2 ^ (1075 - xp y)) 0
      · exact Nat.le_refl _
      · exact Nat.zero_le _
  omega
theorem floorW_small (s : Bool) {y : Nat} (h : mid y = true) (h2 : xp y ≤ 1046) : floorW s y ≤ 2 ^ 52 := by
  obtain ⟨a1, a2, a5, a3, a4⟩ := mid_bounds h
  rw [floorW_def]
  have h1 : sg y / 2 ^ (1075 - xp y) ≤ sg y / 2 := by
    refine Nat.div_le_div_left ?_ (by decide)
    exact Nat.le_trans (by decide) (Nat.pow_le_pow_right (n := 2) (i := 1) (by decide) (show 1 ≤ 1075 - xp y by omega))
  have h3 : cond s (cond (Nat.beq (sg y % 2 ^ (1075 - xp y)) 0) 0 1) 0 ≤ 1 := by
    cases s
    · exact Nat.zero_le _
    · cases Nat.beq (sg y % 2 ^ (1075 - xp y)) 0
      · exact Nat.le_refl _
      · exact Nat.zero_le _
  have : (2 : Nat) ^ 52 = 4503599627370496 := by decide
  have h4 : sg y / 2 ^ (1075 - xp y) ≤ sg y / 4 := by
    refine Nat.div_le_div_left ?_ (by decide)
    exact Nat.le_trans (by decide) (Nat.pow_le_pow_right (n := 2) (i := 2) (by decide) (show 2 ≤ 1075 - xp y by omega))
  omega
theorem floorOf_wd (s : Bool) {y : Nat} (h : mid y = true) (h1 : 1021 ≤ xp y) (h2 : xp y ≤ 1046) : floorOf (wd (s, y)) = Ieee.double.nearest s (floorW s y) 0 := by
  unfold floorOf
  show Ieee.double.write ((Ieee.double.read _).integral .down) = _
  rw [read_wd s h]
  show Ieee.double.nearest s (Toward.down.cut s (sg y <<< ((xp y : Int) - 1075).toNat) (-((xp y : Int) - 1075)).toNat) 0 = _
  rw [show ((xp y : Int) - 1075).toNat = 0 by omega, show (-((xp y : Int) - 1075)).toNat = 1075 - xp y by omega, Nat.shiftLeft_zero]
  refine congrArg (fun c => Ieee.double.nearest s c 0) ?_
  rw [floorW_def]
  unfold Toward.cut
  dsimp only
  rw [log2_sg h, Nat.min_eq_left (by omega), Nat.shiftLeft_eq, Nat.one_mul]
  congr 1
  generalize sg y % 2 ^ (1075 - xp y) = z
  cases s
  · rfl
  · cases z with
    | zero => rfl
    | succ n => rfl
theorem floorW_eq (s : Bool) {y : Nat} (h : mid y = true) (h1 : 1021 ≤ xp y) (h2 : xp y ≤ 1046) : floatToIntVal .f64 (floorOf (wd (s, y))) .i64 = some (Ieee.signed s (floorW s y) 0) := by
  have hq := floorW_small s h h2
  rw [floorOf_wd s h h1 h2]
  generalize floorW s y = C at *
  obtain ⟨m, e, c1, c2, c3⟩ := read_whole s C hq
  have hC : (m <<< e.toNat) / 2 ^ (-e).toNat = C := by
    rw [shl_eq]
    have hU := Nat.two_pow_pos U
    have e1 : 2 ^ e.toNat * 2 ^ U = 2 ^ (e + 1074).toNat * 2 ^ (-e).toNat := by
      rw [← Nat.pow_add, ← Nat.pow_add, show e.toNat + U = (e + 1074).toNat + (-e).toNat by rw [U_eq]; omega]
    have e2 : m * 2 ^ e.toNat * 2 ^ U = C * 2 ^ (-e).toNat * 2 ^ U := by
      rw [Nat.mul_assoc, e1, ← Nat.mul_assoc, c3, Nat.mul_assoc, Nat.mul_assoc, Nat.mul_comm (2 ^ U)]
    have e3 := Nat.eq_of_mul_eq_mul_right hU e2
    rw [e3]
    exact Nat.mul_div_cancel C (Nat.two_pow_pos _)
  unfold floatToIntVal
  have : (FloatKind.f64.decode (Ieee.double.nearest s C 0)).toInt .zero = some (Ieee.signed s C 0) := by
    show (Ieee.double.read _).toInt .zero = _
    rw [c1]
    show some (Ieee.signed s (Toward.zero.cut s (m <<< e.toNat) (-e).toNat) 0) = _
    rw [cut_zero_way, hC]
  rw [this]
  simp only []
  rw [if_pos]
  have hb : (Ieee.signed s C 0).natAbs ≤ 2 ^ 52 := by rw [signed_abs]; simpa using hq
  have h5 : (2 : Nat) ^ 52 = 4503599627370496 := by decide
  rw [h5] at hb
  simp only [IntKind.min, IntKind.max, IntKind.signed, IntKind.bits]
  constructor <;> simp <;> omega
theorem bd_wd (s : Bool) {y : Nat} (h : mid y = true) (h2 : xp y ≤ 1046) : Bd (wd (s, y)) 1099 := by
  obtain ⟨a1, a2, a5, a3, a4⟩ := mid_bounds h
  exact bd_of_read s (sg y) ((xp y : Int) - 1075) (read_wd s h) (by omega) 53 (by rw [show (2 : Nat) ^ 53 = 9007199254740992 by decide]; exact a4) (by omega)
def bdOk (r : Nat) : Bool := match Ieee.double.read r with
  | .number _ m e => decide (-1074 ≤ e) && decide (m * 2 ^ (e + 1074).toNat ≤ 2 ^ 1099)
  | _ => false
theorem bdOk_bd {r : Nat} (h : bdOk r = true) : Bd r 1099 := by
  unfold bdOk at h
  cases hr : Ieee.double.read r with
  | number s m e =>
    rw [hr] at h
    simp only [Bool.and_eq_true, decide_eq_true_eq] at h
    exact ⟨s, m, e, hr, h.1, h.2⟩
  | infinity s => rw [hr] at h; cases h
  | nan s m => rw [hr] at h; cases h

def slowN (N : Nat) : Bool := (Nat.ble 48 N && Nat.ble N 95) || Nat.beq N (Nat.pow 2 (lg5 N))
/-- the tenths of N / 64 are t - 200 -/
def tenOk (N t : Nat) : Bool :=
  cond (slowN N)
    (match tenS (nrW N (Nat.sub 4000 (efOf N))) ((efOf N : Int) - 6) with | some r => bdOk r && floatToIntVal .f64 (floorOf r) .i64 == some ((t : Int) - 200) | none => false)
    (match tenQ N with | some r => mid r.2 && Nat.ble 1021 (xp r.2) && Nat.ble (xp r.2) 1046 && cond r.1 (Nat.beq (Nat.add (floorW r.1 r.2) t) 200) (Nat.beq (Nat.add (floorW r.1 r.2) 200) t) | none => false)
theorem tenOk_rel (N t : Nat) (h : tenOk N t = true) : ∃ r, LastRel (nrW N (4000 - efOf N)) ((efOf N : Int) - 6) r ∧ Bd r 1099 ∧ floatToIntVal .f64 (floorOf r) .i64 = some ((t : Int) - 200) := by
  unfold tenOk at h
  cases hs : slowN N
  · rw [hs, cond_false] at h
    cases hq : tenQ N with
    | none => rw [hq] at h; cases h
    | some r =>
      rw [hq] at h
      obtain ⟨s, y⟩ := r
      simp only [Bool.and_eq_true, Nat.ble_eq] at h
      obtain ⟨⟨⟨hm, h1⟩, h2⟩, h3⟩ := h
      refine ⟨_, tenQ_rel N _ hq, bd_wd s hm h2, ?_⟩
      rw [floorW_eq s hm h1 h2, signed_cond, Nat.pow_zero, Nat.mul_one]
      refine congrArg some ?_
      cases s
      · have h4 := Nat.eq_of_beq_eq_true h3
        have h5 : floorW false y + 200 = t := h4
        show (floorW false y : Int) = _
        omega
      · have h4 := Nat.eq_of_beq_eq_true h3
        have h5 : floorW true y + t = 200 := h4
        show -(floorW true y : Int) = _
        omega
  · rw [hs, cond_true] at h
    cases hq : tenS (nrW N (Nat.sub 4000 (efOf N))) ((efOf N : Int) - 6) with
    | none => rw [hq] at h; cases h
    | some r =>
      rw [hq] at h
      simp only [Bool.and_eq_true, beq_iff_eq] at h
      exact ⟨r, tenS_rel _ _ _ hq, bdOk_bd h.1, h.2⟩

/-- the word of N / 64 -/
def w32 (N : Nat) : Nat := Ieee.single.nearest false N (-6)
theorem read_w32 (N : Nat) (h0 : N ≠ 0) (hL : N.log2 ≤ 23) : Ieee.single.read (w32 N) = .number false (N * 2 ^ (23 - N.log2)) (-6 + (N.log2 : Int) - 23) := by
  have h1 := read_nearest_exact Ieee.single false N (-6) h0 hL (by rw [lp32]; omega) (by rw [lp32]; show (-6 + (N.log2 : Int) - 23 - -149).toNat + 2 ≤ 255; omega)
  have h2 : lastPlace Ieee.single N (-6) = -6 + (N.log2 : Int) - 23 := by unfold lastPlace; rw [lp32]; show max (-6 + (N.log2 : Int) - 23) (-149) = _; omega
  have h3 : (-6 - (-6 + (N.log2 : Int) - 23)).toNat = 23 - N.log2 := by omega
  rw [h2, h3, shl_eq] at h1
  exact h1
theorem wide_w32 (N : Nat) (h0 : N ≠ 0) (hL : N.log2 ≤ 23) : wide (w32 N) = XX N (-6) := by
  unfold wide
  rw [read_w32 N h0 hL]
  show Ieee.double.nearest false (N * 2 ^ (23 - N.log2)) (-6 + (N.log2 : Int) - 23) = _
  rw [nearest_shift Ieee.double false N _ _ h0 (show N.log2 ≤ 52 by omega) (by rw [lp64]; omega)]
  unfold XX
  exact congrArg (fun p => Ieee.double.nearest false N p) (by omega)
theorem fin_w32 (N : Nat) (h0 : N ≠ 0) (hL : N.log2 ≤ 23) : fin32 (w32 N) = true := by
  unfold fin32 nan32 inf32
  rw [read_w32 N h0 hL]
  rfl
theorem pos_w32 (N : Nat) (h0 : N ≠ 0) (hL : N.log2 ≤ 23) : (FloatKind.f32.format.order (w32 N) 0 == some .lt || FloatKind.f32.format.order (w32 N) 0 == some .eq) = false := by
  have hr := read_w32 N h0 hL
  have hz : Ieee.single.read 0 = .number false 0 (-149) := by decide
  have hp : 0 < N * 2 ^ (23 - N.log2) := Nat.mul_pos (Nat.pos_of_ne_zero h0) (Nat.two_pow_pos _)
  generalize N * 2 ^ (23 - N.log2) = m at *
  have ho : FloatKind.f32.format.order (w32 N) 0 = some .gt := by
    show Ieee.single.order _ _ = _
    unfold Ieee.Format.order
    rw [hr, hz]
    simp only [Datum.order, Ieee.signed, Bool.false_eq_true, if_false, shl_eq, Nat.zero_mul]
    have hq : 0 < m * 2 ^ ((-6 + (N.log2 : Int) - 23) - min (-6 + (N.log2 : Int) - 23) (-149)).toNat := Nat.mul_pos hp (Nat.two_pow_pos _)
    generalize m * 2 ^ ((-6 + (N.log2 : Int) - 23) - min (-6 + (N.log2 : Int) - 23) (-149)).toNat = B at *
    refine congrArg some ?_
    simp only [compare, compareOfLessAndEq]
    rw [if_neg (by simp), if_neg (by omega)]
  rw [ho]
  rfl
/-- where the loops end -/
theorem efOf_facts (N : Nat) (h0 : N ≠ 0) (hL : N.log2 ≤ 23) : efOf N ≤ 24 ∧ CC ≤ VV N (-(efOf N : Int)) ∧ VV N (-(efOf N : Int)) < 2 * CC := by
  have h1 := two_log_le N h0
  have h2 := lt_two_log N
  have hlg : lg5 N = N.log2 := lg5_ok N h0 (Nat.lt_of_lt_of_le h2 (Nat.pow_le_pow_right (by decide) (by omega)))
  have hC : CC = 3 * 2 ^ (51 + CE) := by unfold CC; rw [Nat.mul_assoc, ← Nat.pow_add]
  rw [Nat.pow_succ] at h2
  unfold efOf
  rw [hlg]
  by_cases h : 3 * 2 ^ N.log2 ≤ 2 * N
  · have hb : Nat.ble (Nat.mul 3 (Nat.pow 2 N.log2)) (Nat.mul 2 N) = true := by rw [Nat.ble_eq]; exact h
    rw [hb, cond_true]
    obtain ⟨K, n1, n2⟩ : ∃ K, (-((Nat.succ N.log2 : Nat) : Int) + 1074).toNat = 1 + K ∧ 51 + CE = N.log2 + K := ⟨(-((Nat.succ N.log2 : Nat) : Int) + 1074).toNat - 1, by omega, by rw [CE_eq]; omega⟩
    have hp := Nat.two_pow_pos K
    refine ⟨by omega, ?_, ?_⟩
    · unfold VV
      rw [hC, n1, n2, Nat.pow_add, Nat.pow_add 2 1, ← Nat.mul_assoc, ← Nat.mul_assoc]
      exact Nat.mul_le_mul_right _ (by omega)
    · unfold VV
      rw [hC, n1, n2, Nat.pow_add, Nat.pow_add 2 N.log2, ← Nat.mul_assoc, ← Nat.mul_assoc, ← Nat.mul_assoc]
      exact Nat.mul_lt_mul_of_pos_right (by omega) hp
  · have hb : Nat.ble (Nat.mul 3 (Nat.pow 2 N.log2)) (Nat.mul 2 N) = false := by rw [← Bool.not_eq_true, Nat.ble_eq]; exact h
    rw [hb, cond_false]
    obtain ⟨K, n1, n2⟩ : ∃ K, (-(N.log2 : Int) + 1074).toNat = 2 + K ∧ 51 + CE = N.log2 + K := ⟨(-(N.log2 : Int) + 1074).toNat - 2, by omega, by rw [CE_eq]; omega⟩
    have hp := Nat.two_pow_pos K
    refine ⟨by omega, ?_, ?_⟩
    · unfold VV
      rw [hC, n1, n2, Nat.pow_add, Nat.pow_add 2 2, ← Nat.mul_assoc, ← Nat.mul_assoc]
      exact Nat.mul_le_mul_right _ (by omega)
    · unfold VV
      rw [hC, n1, n2, Nat.pow_add, Nat.pow_add 2 N.log2, ← Nat.mul_assoc, ← Nat.mul_assoc, ← Nat.mul_assoc]
      exact Nat.mul_lt_mul_of_pos_right (by omega) hp
set_option maxHeartbeats 800000 in
theorem tenthsOf_of (N t : Nat) (h0 : N ≠ 0) (hL : N.log2 ≤ 23) (h : tenOk N t = true) (w : World) :
    Calls Try.prog 47 #[.float .f32 (w32 N)] w fun e w' => e = .returned (.tuple #[.int .i64 ((t : Int) - 200), .bool true]) ∧ Quiet w w' := by
  obtain ⟨r, ⟨l, v, k1, k2, k3⟩, hb, hn⟩ := tenOk_rel N t h
  obtain ⟨f1, f3, f4⟩ := efOf_facts N h0 hL
  have hx : XX N (-(efOf N : Int)) = nrW N (4000 - efOf N) := by
    unfold XX
    exact nearest_nrW N (4000 - efOf N) h0 (by omega) (by omega) (by omega) _ (by omega)
  rw [← hx] at k1
  have hl : Hid (∀ w, Calls Try.prog 120 #[.float .f64 (wide (w32 N))] w fun e w' => e = .returned (.float .f64 l) ∧ w = w') := by
    intro w
    rw [wide_w32 N h0 hL]
    exact logOf_of N (-6) (-(efOf N : Int)) l w h0 (by omega) (by omega) (by omega) (by omega) (by omega) f3 f4 (by rw [show (-6 : Int) - -(efOf N : Int) = (efOf N : Int) - 6 by omega]; exact k1)
  have hf := fin_w32 N h0 hL
  have hle := pos_w32 N h0 hL
  have hnn : nan32 (w32 N) = false := by unfold nan32; rw [read_w32 N h0 hL]; rfl
  have hc := fun w => run_convert_float_float (P := Try.prog) w 35 47 .f32 .f64 (w32 N) (wide (w32 N)) (by kernel_rfl) Try.underlying47 (wide_conv (w32 N) hnn)
  have ev := fun w => run_float_arith (P := Try.prog) w .mul 47 .f64 _ _ _ k2
  have er := fun w => run_float_arith (P := Try.prog) w .add 47 .f64 _ _ _ k3
  have en := fun w => run_convert_float_int (P := Try.prog) w 47 2 .f64 .i64 (floorOf r) _ (by kernel_rfl) Try.underlying2 hn
  have K5 := Lib.hid fun w => floor_of r hb w
  clear k1 k2 k3 hn hb h h0 hL f1 f3 f4 hx hnn
  go_enter Try.func47, Try.ntmps47
  go_wp2_with (first | (go_at_call 91; go_loud (refine (isFinite_any _ _).mono ?_); rintro e w' ⟨rfl, hq⟩) | (go_at_call 120; (with_reducible refine (hl.out _).mono ?_); rintro e w' ⟨rfl, rfl⟩) | (go_at_call 121; (with_reducible refine (K5.out _).mono ?_); rintro e w' ⟨rfl, rfl⟩))
  go_ret2
  exact ⟨rfl, hq⟩
end Go.Proofs.Ytpocclcijkopnaa
