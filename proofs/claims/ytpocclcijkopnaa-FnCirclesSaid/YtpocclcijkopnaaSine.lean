/- The sine of some turns: the chain of operations, that each is valid and none too great, and the contracts of both sides. -/
import Derived.Test.YtpocclcijkopnaaRoot
import Derived.Deep.Cut
import Derived.Deep.DeepCutAuto
namespace Go.Proofs.Ytpocclcijkopnaa
open Go.RowKit Fl

/-- '2 k (2 k + 1)' as a 64-bit number -/
def den (k : Nat) : Nat := floatOfInt .f64 (2 * (k : Int) * (2 * (k : Int) + 1))

/-- one round: p becomes 1 - (u p) / (2 k (2 k + 1)) -/
def SinStep (u p k p' : Nat) : Prop := ∃ a b, floatBits .mul .f64 u p = some a ∧ floatBits .quo .f64 a (den k) = some b ∧ floatBits .sub .f64 4607182418800017408 b = some p'

/-- the whole chain, from the number of turns y (finite, not too great) to the sine r -/
def SinRel (y r : Nat) : Prop := ∃ (n : Int) (f0 f1 f2 f3 z u q : Nat) (P : Nat → Nat) (b1 b2 b3 : Bool),
  floatToIntVal .f64 y .i64 = some n ∧ floatBits .sub .f64 y (floatOfInt .f64 n) = some f0 ∧
  (FloatKind.f64.format.order f0 0 == some .lt) = b1 ∧ (if b1 then floatBits .add .f64 f0 4607182418800017408 = some f1 else f1 = f0) ∧
  (FloatKind.f64.format.order f1 4602678819172646912 == some .gt || FloatKind.f64.format.order f1 4602678819172646912 == some .eq) = b2 ∧ (if b2 then floatBits .sub .f64 f1 4602678819172646912 = some f2 else f2 = f1) ∧
  (FloatKind.f64.format.order f2 4598175219545276416 == some .gt) = b3 ∧ (if b3 then floatBits .sub .f64 4602678819172646912 f2 = some f3 else f3 = f2) ∧
  floatBits .mul .f64 f3 4618760256179416344 = some z ∧ floatBits .mul .f64 z z = some u ∧
  P 8 = 4607182418800017408 ∧ (∀ k, 1 ≤ k → k ≤ 8 → SinStep u (P k) k (P (k - 1))) ∧
  floatBits .mul .f64 z (P 0) = some q ∧ r = if b2 then Op.negFloat .f64 q else q

set_option maxHeartbeats 3200000 in
theorem sineLong_of (y r f1' : Nat) (w : World) (hpart : ∀ w, Calls Try.prog 115 #[.float .f64 y] w fun e w' => e = .returned (.float .f64 f1') ∧ w = w')
    (h : ∃ (f2 f3 z u q : Nat) (P : Nat → Nat) (b2 b3 : Bool),
      (FloatKind.f64.format.order f1' 4602678819172646912 == some .gt || FloatKind.f64.format.order f1' 4602678819172646912 == some .eq) = b2 ∧ (if b2 then floatBits .sub .f64 f1' 4602678819172646912 = some f2 else f2 = f1') ∧
      (FloatKind.f64.format.order f2 4598175219545276416 == some .gt) = b3 ∧ (if b3 then floatBits .sub .f64 4602678819172646912 f2 = some f3 else f3 = f2) ∧
      floatBits .mul .f64 f3 4618760256179416344 = some z ∧ floatBits .mul .f64 z z = some u ∧
      P 8 = 4607182418800017408 ∧ (∀ k, 1 ≤ k → k ≤ 8 → SinStep u (P k) k (P (k - 1))) ∧
      floatBits .mul .f64 z (P 0) = some q ∧ r = if b2 then Op.negFloat .f64 q else q) :
    Calls Try.prog 116 #[.float .f64 y] w fun e w' => e = .returned (.float .f64 r) ∧ w = w' := by
  obtain ⟨f2, f3, z, u, q, P, b2, b3, hb2, h2, hb3, h3, hz, hu, hP, hstep, hq, hr⟩ := h
  have H2 := Lib.hid h2
  have H3 := Lib.hid h3
  have HP := Lib.hid hP
  have HS := Lib.hid hstep
  have HR := Lib.hid hr
  have ez := fun w => run_float_arith (P := Try.prog) w .mul 47 .f64 _ _ _ hz
  have eu := fun w => run_float_arith (P := Try.prog) w .mul 47 .f64 _ _ _ hu
  have eq := fun w => run_float_arith (P := Try.prog) w .mul 47 .f64 _ _ _ hq
  clear h2 h3 hz hu hP hstep hq hr
  have hneg : ∀ (b : Nat), Op.unary .neg (.float .f64 b) = pure (.float .f64 (Op.negFloat .f64 b)) := fun _ => rfl
  go_enter Try.func116, Try.ntmps116
  go_upto_if 13 with (go_at_call 115; refine (hpart _).mono ?_; rintro e w' ⟨rfl, rfl⟩)
  go_cut [3] (fun s3 wx => s3 = .float .f64 f2 ∧ w = wx)
  case first =>
    cases b2
    · have e2 : f2 = f1' := by have := H2.out; simpa using this
      subst e2
      go_wp2
      go_meet
      exact ⟨rfl, rfl⟩
    · have e2 := fun w => run_float_arith (P := Try.prog) w .sub 47 .f64 _ _ _ (by have := H2.out; simpa using this)
      go_wp2
      go_meet
      exact ⟨rfl, rfl⟩
  case rest =>
    obtain ⟨rfl, rfl⟩ := hcut
    go_upto_if 17 with fail
    go_cut [3] (fun s3 wx => s3 = .float .f64 f3 ∧ w = wx)
    case first =>
      cases b3
      · have e2 : f3 = f2 := by have := H3.out; simpa using this
        subst e2
        go_wp2
        go_meet
        exact ⟨rfl, rfl⟩
      · have e2 := fun w => run_float_arith (P := Try.prog) w .sub 47 .f64 _ _ _ (by have := H3.out; simpa using this)
        go_wp2
        go_meet
        exact ⟨rfl, rfl⟩
    case rest =>
      obtain ⟨rfl, rfl⟩ := hcut
      go_wp2
      go_loop [7, 8] (fun p i => ∃ k : Nat, k ≤ 8 ∧ i = .int .i64 k ∧ p = .float .f64 (P k)) (fun _ i => (intOf i).toNat)
      case atStart => exact ⟨8, Nat.le_refl _, rfl, by rw [HP.out]⟩
      case round =>
        obtain ⟨k, hk, rfl, rfl⟩ := hrel
        by_cases hk0 : 1 ≤ k
        · obtain ⟨a, b, s1, s2, s3⟩ := HS.out k hk0 hk
          have k1 := fun w => run_float_arith (P := Try.prog) w .mul 47 .f64 _ _ _ s1
          have k2 := fun w => run_float_arith (P := Try.prog) w .quo 47 .f64 _ _ _ s2
          have k3 := fun w => run_float_arith (P := Try.prog) w .sub 47 .f64 _ _ _ s3
          clear s1 s2 s3
          have hk8 : k = 1 ∨ k = 2 ∨ k = 3 ∨ k = 4 ∨ k = 5 ∨ k = 6 ∨ k = 7 ∨ k = 8 := by omega
          rcases hk8 with rfl | rfl | rfl | rfl | rfl | rfl | rfl | rfl
          all_goals
            first | rw [show den 1 = floatOfInt .f64 6 from rfl] at k2 | rw [show den 2 = floatOfInt .f64 20 from rfl] at k2 | rw [show den 3 = floatOfInt .f64 42 from rfl] at k2 | rw [show den 4 = floatOfInt .f64 72 from rfl] at k2 | rw [show den 5 = floatOfInt .f64 110 from rfl] at k2 | rw [show den 6 = floatOfInt .f64 156 from rfl] at k2 | rw [show den 7 = floatOfInt .f64 210 from rfl] at k2 | rw [show den 8 = floatOfInt .f64 272 from rfl] at k2
            clear hk hk0
            go_wp2
            go_round
            all_goals first | exact ⟨_, by decide, rfl, rfl⟩ | simp [intOf]
        · obtain rfl : k = 0 := by omega
          cases b2
          · have hr' : r = q := by have := HR.out; simpa using this
            subst hr'
            go_wp2
            go_ret
            exact ⟨rfl, rfl⟩
          · have hr' : Hid (r = Op.negFloat .f64 q) := by have := HR.out; show r = _; simpa using this
            go_wp2
            go_ret
            exact ⟨by rw [hr'.out]; rfl, rfl⟩
set_option maxHeartbeats 800000 in
theorem partOfTurn_of (y f0 f1 : Nat) (n : Int) (b1 : Bool) (w : World) (hn : floatToIntVal .f64 y .i64 = some n) (h0 : floatBits .sub .f64 y (floatOfInt .f64 n) = some f0)
    (hb : (FloatKind.f64.format.order f0 0 == some .lt) = b1) (h1 : if b1 then floatBits .add .f64 f0 4607182418800017408 = some f1 else f1 = f0) :
    Calls Try.prog 115 #[.float .f64 y] w fun e w' => e = .returned (.float .f64 f1) ∧ w = w' := by
  have en := fun w => run_convert_float_int (P := Try.prog) w 47 2 .f64 .i64 y n (by kernel_rfl) Try.underlying2 hn
  have e0 := fun w => run_float_arith (P := Try.prog) w .sub 47 .f64 _ _ _ h0
  have H1 := Lib.hid h1
  clear hn h0 h1
  cases b1
  · have e2 : f1 = f0 := by have := H1.out; simpa using this
    subst e2
    go_enter Try.func115, Try.ntmps115
    go_wp2
    go_ret
    exact ⟨rfl, rfl⟩
  · have e2 := fun w => run_float_arith (P := Try.prog) w .add 47 .f64 _ _ _ (by have := H1.out; simpa using this)
    go_enter Try.func115, Try.ntmps115
    go_wp2
    go_ret
    exact ⟨rfl, rfl⟩
end Go.Proofs.Ytpocclcijkopnaa
