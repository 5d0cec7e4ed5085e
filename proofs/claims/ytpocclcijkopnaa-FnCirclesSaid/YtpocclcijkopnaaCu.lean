/- What the law FnCircles asks at each of its bytes: found by the kernel; and the calls' answers. -/
import Derived.Test.YtpocclcijkopnaaCm0
import Derived.Test.YtpocclcijkopnaaCm1
import Derived.Test.YtpocclcijkopnaaCm2
import Derived.Test.YtpocclcijkopnaaCm3
import Derived.Test.YtpocclcijkopnaaTu0
import Derived.Test.YtpocclcijkopnaaTu1
import Derived.Test.YtpocclcijkopnaaTu2
import Derived.Test.YtpocclcijkopnaaTp
namespace Go.Proofs.Ytpocclcijkopnaa
open Go.RowKit Fl
open Ieee (Datum Toward)

def kOf (a : Int) : Nat := ((a + 256) % 64).toNat
theorem kOf_lt (a : Int) : kOf a < 64 := by unfold kOf; omega
theorem phasor_at (a : Int) (h1 : -256 ≤ a) (h2 : a < 255) : ∃ y, floatBits .quo .f64 (floatOfInt .f64 a) 4634204016564240384 = some y ∧ plainF y = true ∧ phF y = some (pt (kOf a)) := by
  have h := allTo_at _ _ allY (a + 256).toNat (by omega)
  unfold oneY at h
  rw [show (((a + 256).toNat : Nat) : Int) - 256 = a by omega] at h
  cases hy : yOf a with
  | none => rw [hy] at h; cases h
  | some y =>
    rw [hy] at h
    simp only [Bool.and_eq_true] at h
    obtain ⟨hp, h⟩ := h
    refine ⟨y, hy, hp, ?_⟩
    cases hf : partF y with
    | none => rw [hf] at h; cases h
    | some f =>
      have hk : (a + 256).toNat % 64 = kOf a := by unfold kOf; omega
      rw [hf, hk] at h
      cases hg : yOf ((kOf a : Nat) : Int) with
      | none => rw [hg] at h; cases h
      | some g =>
        rw [hg] at h
        have hfg : f = g := eq_of_beq h
        subst hfg
        have h3 := allTo_at _ _ allPh (kOf a) (kOf_lt a)
        unfold onePh at h3
        rw [hg] at h3
        rw [phF_eq, hf]
        exact eq_of_beq h3
theorem phasor_call (a : Int) (h1 : -256 ≤ a) (h2 : a < 255) : ∃ y, floatBits .quo .f64 (floatOfInt .f64 a) 4634204016564240384 = some y ∧ Hid (∀ w, Calls Try.prog 41 #[.float .f64 y] w fun e w' => e = .returned (.complex .f32 (pt (kOf a)).1 (pt (kOf a)).2) ∧ w = w') := by
  obtain ⟨y, k1, k2, k3⟩ := phasor_at a h1 h2
  exact ⟨y, k1, fun w => phF_of y _ k2 k3 w⟩
theorem ang_at (k : Nat) (hk : k < 64) : nan32 (pt k).1 = false ∧ nan32 (pt k).2 = false ∧ angOk (pt k).2 (pt k).1 = true ∧ angF (pt k).2 (pt k).1 = some (AT.getD k 0) ∧ powF (pt k) = some (WT.getD k 0) := by
  have h := allTo_at _ _ allAng k hk
  unfold oneAng at h
  simp only [Bool.and_eq_true, Bool.not_eq_true'] at h
  obtain ⟨⟨⟨⟨a1, a2⟩, a3⟩, a4⟩, a5⟩ := h
  exact ⟨a1, a2, a3, eq_of_beq a4, eq_of_beq a5⟩
theorem mul_at (k l : Nat) (hk : k < 64) (hl : l < 64) : ∃ m, mulF (pt k) (pt l) = some m ∧ nan32 m.1 = false ∧ nan32 m.2 = false ∧ nearF m (pt ((k + l) % 64)) one4 = true := by
  have key : oneMul k l = true := by
    have hq : k / 16 = 0 ∨ k / 16 = 1 ∨ k / 16 = 2 ∨ k / 16 = 3 := by omega
    rcases hq with q | q | q | q
    · have := allTo_at _ _ (allTo_at _ _ allMul0 (k % 16) (by omega)) l hl
      rwa [show 16 * 0 + k % 16 = k by omega] at this
    · have := allTo_at _ _ (allTo_at _ _ allMul1 (k % 16) (by omega)) l hl
      rwa [show 16 * 1 + k % 16 = k by omega] at this
    · have := allTo_at _ _ (allTo_at _ _ allMul2 (k % 16) (by omega)) l hl
      rwa [show 16 * 2 + k % 16 = k by omega] at this
    · have := allTo_at _ _ (allTo_at _ _ allMul3 (k % 16) (by omega)) l hl
      rwa [show 16 * 3 + k % 16 = k by omega] at this
  unfold oneMul at key
  cases hm : mulF (pt k) (pt l) with
  | none => rw [hm] at key; cases key
  | some m =>
    rw [hm] at key
    simp only [Bool.and_eq_true, Bool.not_eq_true'] at key
    exact ⟨m, rfl, key.1.1, key.1.2, key.2⟩
theorem kOf_add (a b : Int) : kOf (a + b) = (kOf a + kOf b) % 64 := by unfold kOf; omega

/-- what is asked of the turn at the byte i -/
def oneTurn (i : Nat) : Bool :=
  match floatBits .mul .f64 (wide (AT.getD ((i + 128) % 64) 0)) 4634204016564240384 with
  | none => false
  | some g => match floatBits .sub .f64 g (floatOfInt .f64 ((i : Int) - 128)) with
    | none => false
    | some t => match floatBits .add .f64 t 4666723447345250304 with
      | none => false
      | some s => match floatToIntVal .f64 s .i64 with
        | none => false
        | some n => match gapF t (floatOfInt .f64 (n - 10000)) with
          | none => false
          | some d => !nan32 (AT.getD ((i + 128) % 64) 0) && decide (0 ≤ n) && decide (n ≤ 1000000) && decide ((n - 10000).tmod 64 = 0) && !(FloatKind.f64.format.order d 4562254508917369340 == some .gt)
def onePow (k : Nat) : Bool :=
  match gapF (wide (WT.getD k 0)) 4607182418800017408 with
  | none => false
  | some d => !nan32 (WT.getD k 0) && !(FloatKind.f64.format.order d one4 == some .gt)
def oneAxis (k : Nat) : Bool :=
  match gapF (wide (pt (16 * k)).1) 0 with
  | none => false
  | some d => (FloatKind.f64.format.order d 0 == some .eq) || ((FloatKind.f64.format.order d 0 == some .gt) && (FloatKind.f64.format.order d 4607182418800017408 == some .eq))
def oneX (i : Nat) : Bool := floatBits .quo .f32 (floatOfInt .f32 ((i : Int) + 1)) 1090519040 == some (w32 (8 * (i + 1)))
set_option maxRecDepth 1000000
theorem allTurn : allTo oneTurn 256 = true := by kernel_rfl
theorem allPow : allTo onePow 64 = true := by kernel_rfl
theorem allAxis : allTo oneAxis 4 = true := by kernel_rfl
theorem allX : allTo oneX 200 = true := by kernel_rfl
theorem turn_at (a : Int) (h1 : -128 ≤ a) (h2 : a < 128) : ∃ g t s n d, floatBits .mul .f64 (wide (AT.getD (kOf a) 0)) 4634204016564240384 = some g ∧ floatBits .sub .f64 g (floatOfInt .f64 a) = some t ∧ floatBits .add .f64 t 4666723447345250304 = some s ∧ floatToIntVal .f64 s .i64 = some n ∧
    gapF t (floatOfInt .f64 (n - 10000)) = some d ∧ nan32 (AT.getD (kOf a) 0) = false ∧ 0 ≤ n ∧ n ≤ 1000000 ∧ (n - 10000).tmod 64 = 0 ∧ (FloatKind.f64.format.order d 4562254508917369340 == some .gt) = false := by
  have h := allTo_at _ _ allTurn (a + 128).toNat (by omega)
  unfold oneTurn at h
  rw [show ((a + 128).toNat + 128) % 64 = kOf a by unfold kOf; omega, show (((a + 128).toNat : Nat) : Int) - 128 = a by omega] at h
  cases e1 : floatBits .mul .f64 (wide (AT.getD (kOf a) 0)) 4634204016564240384 with
  | none => rw [e1] at h; cases h
  | some g =>
    rw [e1] at h
    dsimp only at h
    cases e2 : floatBits .sub .f64 g (floatOfInt .f64 a) with
    | none => rw [e2] at h; cases h
    | some t =>
      rw [e2] at h
      dsimp only at h
      cases e3 : floatBits .add .f64 t 4666723447345250304 with
      | none => rw [e3] at h; cases h
      | some s =>
        rw [e3] at h
        dsimp only at h
        cases e4 : floatToIntVal .f64 s .i64 with
        | none => rw [e4] at h; cases h
        | some n =>
          rw [e4] at h
          dsimp only at h
          cases e5 : gapF t (floatOfInt .f64 (n - 10000)) with
          | none => rw [e5] at h; cases h
          | some d =>
            rw [e5] at h
            simp only [Bool.and_eq_true, Bool.not_eq_true', decide_eq_true_eq] at h
            exact ⟨g, t, s, n, d, rfl, e2, e3, e4, e5, h.1.1.1.1, h.1.1.1.2, h.1.1.2, h.1.2, h.2⟩
theorem pow_at (k : Nat) (hk : k < 64) : ∃ d, gapF (wide (WT.getD k 0)) 4607182418800017408 = some d ∧ nan32 (WT.getD k 0) = false ∧ (FloatKind.f64.format.order d one4 == some .gt) = false := by
  have h := allTo_at _ _ allPow k hk
  unfold onePow at h
  cases e1 : gapF (wide (WT.getD k 0)) 4607182418800017408 with
  | none => rw [e1] at h; cases h
  | some d =>
    rw [e1] at h
    simp only [Bool.and_eq_true, Bool.not_eq_true'] at h
    exact ⟨d, rfl, h.1, h.2⟩
theorem axis_at (a : Int) (h : a.tmod 16 = 0) : ∃ d, gapF (wide (pt (kOf a)).1) 0 = some d ∧ (FloatKind.f64.format.order d 0 = some .eq ∨ FloatKind.f64.format.order d 0 = some .gt ∧ FloatKind.f64.format.order d 4607182418800017408 = some .eq) := by
  have hk : kOf a = 16 * (kOf a / 16) := by
    have := Int.mul_tdiv_add_tmod a 16
    unfold kOf
    omega
  have h := allTo_at _ _ allAxis (kOf a / 16) (by have := kOf_lt a; omega)
  unfold oneAxis at h
  rw [← hk] at h
  cases e1 : gapF (wide (pt (kOf a)).1) 0 with
  | none => rw [e1] at h; cases h
  | some d =>
    rw [e1] at h
    refine ⟨d, rfl, ?_⟩
    simp only [Bool.or_eq_true, Bool.and_eq_true, beq_iff_eq] at h
    exact h
theorem x_at (i : Int) (h1 : 0 ≤ i) (h2 : i < 200) : floatBits .quo .f32 (floatOfInt .f32 (1 + i)) 1090519040 = some (w32 (8 * (i.toNat + 1))) := by
  have h := allTo_at _ _ allX i.toNat (by omega)
  unfold oneX at h
  rw [show ((i.toNat : Nat) : Int) + 1 = 1 + i by omega] at h
  exact eq_of_beq h

/-- the product of two of the law's numbers -/
theorem xy_at (i k : Nat) (hi : i ≠ 0) (hk : k ≠ 0) (hi2 : i ≤ 200) (hk2 : k ≤ 200) : floatBits .mul .f32 (w32 (8 * i)) (w32 (8 * k)) = some (w32 (i * k)) := by
  have hik0 : i * k ≠ 0 := by have := Nat.mul_pos (Nat.pos_of_ne_zero hi) (Nat.pos_of_ne_zero hk); omega
  have hik : i * k ≤ 40000 := Nat.mul_le_mul hi2 hk2
  have l1 : (8 * i).log2 ≤ 10 := log2_le _ 10 (show 8 * i < 2048 by omega)
  have l2 : (8 * k).log2 ≤ 10 := log2_le _ 10 (show 8 * k < 2048 by omega)
  have l3 : (i * k).log2 ≤ 15 := log2_le _ 15 (show i * k < 65536 by omega)
  have r1 := read_w32 (8 * i) (by omega) (by omega)
  have r2 := read_w32 (8 * k) (by omega) (by omega)
  show ((Ieee.single.read _).product (Ieee.single.read _)).map Ieee.single.write = _
  rw [r1, r2]
  show some (Ieee.single.nearest false (8 * i * 2 ^ (23 - (8 * i).log2) * (8 * k * 2 ^ (23 - (8 * k).log2))) _) = _
  have e : 8 * i * 2 ^ (23 - (8 * i).log2) * (8 * k * 2 ^ (23 - (8 * k).log2)) = i * k * 2 ^ (6 + (23 - (8 * i).log2) + (23 - (8 * k).log2)) := by
    rw [Nat.pow_add, Nat.pow_add, show (2 : Nat) ^ 6 = 64 from rfl]
    generalize 2 ^ (23 - (8 * i).log2) = p
    generalize 2 ^ (23 - (8 * k).log2) = q
    rw [Nat.mul_mul_mul_comm, Nat.mul_mul_mul_comm 8 i 8 k, Nat.mul_comm (8 * 8) (i * k), Nat.mul_assoc (i * k), Nat.mul_assoc 64 p q]
  rw [e, nearest_shift Ieee.single false (i * k) _ _ hik0 (show (i * k).log2 ≤ 23 by omega) (by rw [lp32]; omega)]
  unfold w32
  exact congrArg (fun p => some (Ieee.single.nearest false (i * k) p)) (by omega)
theorem tab_at (N : Nat) (hN : N < 40001) (h : 0 < tab N) : tenOk N (tab N) = true := by
  have hb : Nat.beq (tab N) 0 = false := by
    cases hq : Nat.beq (tab N) 0
    · rfl
    · have := Nat.eq_of_beq_eq_true hq; omega
  by_cases h1 : N < 4000
  · have := allTab0 N (by omega) h1
    unfold oneTab0 at this
    rwa [hb, cond_false] at this
  · by_cases h2 : N < 11000
    · have := allTab1 N (by omega) h2
      unfold oneTab1 at this
      rwa [hb, cond_false] at this
    · by_cases h3 : N < 40000
      · have := allTab2 N (by omega) h3
        unfold oneTab2 at this
        rwa [hb, cond_false] at this
      · obtain rfl : N = 40000 := by omega
        exact allTab3
theorem pair_le (i k : Nat) (hi : 0 < i) (hk : 0 < k) (hi2 : i ≤ 200) (hki : k ≤ i) : 0 < tab (8 * i) ∧ 0 < tab (8 * k) ∧ 0 < tab (i * k) ∧ tab (8 * i) + tab (8 * k) ≤ tab (i * k) + 201 ∧ tab (i * k) + 199 ≤ tab (8 * i) + tab (8 * k) := by
  have h := allUp_at _ _ (allUp_at _ _ allPairs (i - 1) (by omega)) (k - 1) (by show k - 1 < i - 1 + 1; omega)
  rw [show Nat.succ (i - 1) = i by omega, show Nat.succ (k - 1) = k by omega] at h
  unfold onePair at h
  simp only [Bool.and_eq_true, Nat.ble_eq, Nat.blt_eq] at h
  exact ⟨h.1.1.1.1, h.1.1.1.2, h.1.1.2, h.1.2, h.2⟩
theorem pair_at (i k : Nat) (hi : 0 < i) (hk : 0 < k) (hi2 : i ≤ 200) (hk2 : k ≤ 200) : 0 < tab (8 * i) ∧ 0 < tab (8 * k) ∧ 0 < tab (i * k) ∧ tab (8 * i) + tab (8 * k) ≤ tab (i * k) + 201 ∧ tab (i * k) + 199 ≤ tab (8 * i) + tab (8 * k) := by
  rcases Nat.le_total k i with h | h
  · exact pair_le i k hi hk hi2 h
  · obtain ⟨a, b, c, d, e⟩ := pair_le k i hk hi hk2 h
    rw [Nat.mul_comm k i] at c d e
    exact ⟨b, a, c, by omega, by omega⟩
theorem tab64 : tab 64 = 200 := by kernel_rfl
theorem tab_lt (N : Nat) : tab N < 1024 := Nat.mod_lt _ (by decide)
theorem w32_64 : w32 64 = 1065353216 := by kernel_rfl
end Go.Proofs.Ytpocclcijkopnaa
