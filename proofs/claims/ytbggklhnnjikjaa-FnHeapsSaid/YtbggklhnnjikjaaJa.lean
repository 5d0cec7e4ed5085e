/- The length of a small difference is small. -/
import Derived.Test.YtbggklhnnjikjaaMn
import Derived.Test.YtbggklhnnjikjaaMo
import Derived.Test.YtbggklhnnjikjaaLgf
import Derived.Test.YtbggklhnnjikjaaLo
import Derived.Test.YtbggklhnnjikjaaExa
import Derived.Test.YtbggklhnnjikjaaLg
namespace Go.Proofs.Ytbggklhnnjikjaa
open Go.RowKit Fl

/-- the greater of two 64-bit numbers, by their order -/
def maxD (x y : Nat) : Nat := match FloatKind.f64.format.order x y with
  | some .lt => y
  | some .gt => x
  | _ => if (FloatKind.f64.decode x).neg then y else x
theorem maxD_one (x y : Nat) : maxD x y = x ∨ maxD x y = y := by
  unfold maxD; split
  · exact .inr rfl
  · exact .inl rfl
  · split
    · exact .inr rfl
    · exact .inl rfl
theorem run_max_float64 {P : Program} (ts : Array TypeId) (t : TypeId) (x y : Nat) (w : World) (h : (FloatKind.f64.format.order x y).isSome = true) :
    (Builtin.max_ ts t #[.float .f64 x, .float .f64 y]).run P w = .ok (.float .f64 (maxD x y)) w := by
  obtain ⟨o, ho⟩ := Option.isSome_iff_exists.1 h
  unfold maxD
  cases o <;> simp [Builtin.max_, Builtin.max2, ho]
theorem r8Gap_of (a b d e : Nat) (w : World) (h1 : floatBits .sub .f64 a b = some d) (h2 : floatBits .sub .f64 b a = some e) (h : (FloatKind.f64.format.order d e).isSome = true) :
    Calls Try.prog 25 #[.float .f64 a, .float .f64 b] w fun x w' => x = .returned (.float .f64 (maxD d e)) ∧ w = w' := by
  have e1 := fun w => run_float_arith (P := Try.prog) w .sub 47 .f64 _ _ _ h1
  have e2 := fun w => run_float_arith (P := Try.prog) w .sub 47 .f64 _ _ _ h2
  have e3 := fun w ts t => run_max_float64 (P := Try.prog) ts t d e w h
  clear h1 h2 h
  go_enter Try.func25, Try.ntmps25
  go_wp2
  go_ret
  exact ⟨rfl, rfl⟩
end Go.Proofs.Ytbggklhnnjikjaa

namespace Go.Proofs.Ytbggklhnnjikjaa
open Go.RowKit Fl

theorem zero_word {p : Int} {x : Nat} (h : Exa Ieee.single p x 0) : x = 0 ∨ x = 2147483648 := by
  rcases h.2 rfl with rfl | rfl
  · left; decide
  · right; decide
set_option maxHeartbeats 1600000 in
theorem longOf_zero (a b : Nat) (w : World) (ha : a = 0 ∨ a = 2147483648) (hb : b = 0 ∨ b = 2147483648) :
    Calls Try.prog 71 #[.complex .f32 a b] w fun e w' => e = .returned (.float .f32 0) ∧ w = w' := by
  have hn : nan32 a = false ∧ nan32 b = false := by rcases ha with rfl | rfl <;> rcases hb with rfl | rfl <;> decide
  have hx : floatBits .mul .f64 (wide a) (wide a) = some 0 := by rcases ha with rfl | rfl <;> decide +kernel
  have hy : floatBits .mul .f64 (wide b) (wide b) = some 0 := by rcases hb with rfl | rfl <;> decide +kernel
  have hs : floatBits .add .f64 0 0 = some 0 := by decide +kernel
  have hq : Ieee.double.sqrt 0 = some 0 := by decide +kernel
  have hr : floatToFloatBits .f64 0 .f32 = some 0 := by decide +kernel
  have HN := Lib.hid fun w => narrowNumber_ok 0 0 w hr
  have HQ := Lib.hid fun w => sqrt_some 0 0 w hq
  have HL : Hid (∀ w, Calls Try.prog 101 #[.complex .f32 a b] w fun e w' => e = .returned (.float .f64 0) ∧ w = w') := by
    intro w
    have c1 := fun w => run_convert_float_float (P := Try.prog) w 35 47 .f32 .f64 a (wide a) (by kernel_rfl) Try.underlying47 (wide_conv a hn.1)
    have c2 := fun w => run_convert_float_float (P := Try.prog) w 35 47 .f32 .f64 b (wide b) (by kernel_rfl) Try.underlying47 (wide_conv b hn.2)
    have e1 := fun w => run_float_arith (P := Try.prog) w .mul 47 .f64 _ _ _ hx
    have e2 := fun w => run_float_arith (P := Try.prog) w .mul 47 .f64 _ _ _ hy
    have e5 := fun w => run_float_arith (P := Try.prog) w .add 47 .f64 _ _ _ hs
    clear HN HQ ha hb hn hx hy hs hq hr
    go_enter Try.func101, Try.ntmps101
    go_wp2
    go_ret
    exact ⟨rfl, rfl⟩
  clear ha hb hn hx hy hs hq hr
  go_enter Try.func71, Try.ntmps71
  go_wp2_with (first | (go_at_call 101; (with_reducible refine (HL.out _).mono ?_); rintro e w' ⟨rfl, rfl⟩) | (go_at_call 106; (with_reducible refine (HQ.out _).mono ?_); rintro e w' ⟨rfl, rfl⟩) | (go_at_call 105; (with_reducible refine (HN.out _).mono ?_); rintro e w' ⟨rfl, rfl⟩))
  go_ret
  exact ⟨rfl, rfl⟩
/-- two complex numbers whose difference is nothing are 0 apart -/
theorem apart_zero (a b c d x y : Nat) (w : World) (h1 : floatBits .sub .f32 a c = some x) (h2 : floatBits .sub .f32 b d = some y) (hx : x = 0 ∨ x = 2147483648) (hy : y = 0 ∨ y = 2147483648) :
    Calls Try.prog 24 #[.complex .f32 a b, .complex .f32 c d] w fun e w' => e = .returned (.float .f64 0) ∧ w = w' := by
  have hs := fun w => run_csum (P := Try.prog) .sub (Or.inr rfl) 31 a b c d x y h1 h2 w
  have HL := Lib.hid fun w => longOf_zero x y w hx hy
  have hc := fun w => run_convert_float_float (P := Try.prog) w 35 47 .f32 .f64 0 0 (by kernel_rfl) Try.underlying47 (by decide +kernel)
  clear h1 h2 hx hy
  go_enter Try.func24, Try.ntmps24
  go_wp2_with (go_at_call 71; (with_reducible refine (HL.out _).mono ?_); rintro e w' ⟨rfl, rfl⟩)
  go_ret
  exact ⟨rfl, rfl⟩
end Go.Proofs.Ytbggklhnnjikjaa

namespace Go.Proofs.Ytbggklhnnjikjaa
open Fl Ieee

theorem nearest_ge3 (f : Format) (s : Bool) (mag : Nat) (place : Int) (T D0 j : Nat) (hT : f.binade ≤ T) (hT2 : T < 2 * f.binade) (hj : 0 ≤ place - f.leastPlace + j)
    (h : T * 2 ^ (D0 + j) ≤ mag * 2 ^ (place - f.leastPlace + j).toNat) (hi : D0 * f.binade + T ≤ f.infRung) :
    ∃ rung, D0 * f.binade + T ≤ rung ∧ rung ≤ f.infRung ∧ f.nearest s mag place = f.word s rung := by
  have hb : f.binade = 2 ^ f.fractionBits := rfl
  have hbp := bin_pos f
  have hm : mag ≠ 0 := by
    intro h0; subst h0
    have := Nat.mul_pos (Nat.lt_of_lt_of_le hbp hT) (Nat.two_pow_pos (D0 + j))
    rw [Nat.zero_mul] at h
    omega
  unfold Format.nearest
  rw [if_neg hm]
  dsimp only
  refine ⟨_, ?_, Nat.min_le_right _ _, rfl⟩
  refine Nat.le_min.2 ⟨?_, hi⟩
  have hL : f.fractionBits + (D0 + j) < mag.log2 + 1 + (place - f.leastPlace + j).toNat := by
    apply (Nat.pow_lt_pow_iff_right (by decide : 1 < 2)).1
    rw [Nat.pow_add 2 (mag.log2 + 1), Nat.pow_add 2 f.fractionBits, ← hb]
    exact Nat.lt_of_le_of_lt (Nat.le_trans (Nat.mul_le_mul_right _ hT) h) (Nat.mul_lt_mul_of_pos_right (lt_two_log mag) (Nat.two_pow_pos _))
  generalize hlast : max (place + mag.log2 - f.fractionBits) f.leastPlace = last
  have hl1 : place + mag.log2 - f.fractionBits ≤ last := by omega
  have hl2 : f.leastPlace ≤ last := by omega
  have hl3 : D0 ≤ (last - f.leastPlace).toNat := by omega
  rcases Nat.lt_or_ge D0 (last - f.leastPlace).toNat with h1 | h1
  · have hk : f.binade ≤ Toward.even.cut s (mag <<< (place - last).toNat) (last - place).toNat := by
      rw [hb]
      apply cut_ge
      rw [shl_eq, ← Nat.pow_add]
      calc 2 ^ (f.fractionBits + (last - place).toNat) ≤ 2 ^ (mag.log2 + (place - last).toNat) := Nat.pow_le_pow_right (by decide) (by omega)
        _ = 2 ^ mag.log2 * 2 ^ (place - last).toNat := Nat.pow_add ..
        _ ≤ mag * 2 ^ (place - last).toNat := Nat.mul_le_mul_right _ (two_log_le mag hm)
    have h3 : (D0 + 1) * f.binade ≤ (last - f.leastPlace).toNat * f.binade := Nat.mul_le_mul_right _ h1
    rw [Nat.add_mul, Nat.one_mul] at h3
    omega
  · have h2 : (last - f.leastPlace).toNat = D0 := by omega
    have hk : T ≤ Toward.even.cut s (mag <<< (place - last).toNat) (last - place).toNat := by
      apply cut_ge
      rw [shl_eq]
      have hp : 0 < 2 ^ (j + D0) := Nat.two_pow_pos _
      refine Nat.le_of_mul_le_mul_right ?_ hp
      rw [Nat.mul_assoc, ← Nat.pow_add, Nat.mul_assoc, ← Nat.pow_add]
      have e1 : (place - last).toNat + (j + D0) = (place - f.leastPlace + j).toNat + (last - place).toNat := by omega
      have e2 : (last - place).toNat + (j + D0) = (D0 + j) + (last - place).toNat := by omega
      rw [e1, e2, Nat.pow_add, Nat.pow_add 2 (place - f.leastPlace + j).toNat, ← Nat.mul_assoc, ← Nat.mul_assoc]
      exact Nat.mul_le_mul_right _ h
    rw [h2]
    omega
theorem rung_ge3 (f : Format) (s : Bool) (T D0 rung : Nat) (hT : f.binade ≤ T) (hT2 : T < 2 * f.binade) (hr : D0 * f.binade + T ≤ rung) (hi : rung < f.infRung) :
    ∃ m e, f.read (f.word s rung) = .number s m e ∧ f.leastPlace ≤ e ∧ T * 2 ^ D0 ≤ m * 2 ^ (e - f.leastPlace).toNat := by
  have hbp := bin_pos f
  have h1 : ¬ rung < f.binade := by omega
  rw [read_word f s rung (Nat.lt_trans hi f.infRung_lt), if_neg h1, if_pos hi]
  refine ⟨_, _, rfl, by omega, ?_⟩
  have hmod := Nat.mod_lt rung hbp
  have hdm := Nat.div_add_mod rung f.binade
  have he : (f.leastPlace + ((rung / f.binade - 1 : Nat) : Int) - f.leastPlace).toNat = rung / f.binade - 1 := by omega
  rw [he]
  have hq : D0 + 1 ≤ rung / f.binade := by
    rw [Nat.le_div_iff_mul_le hbp, Nat.add_mul, Nat.one_mul]; omega
  rcases Nat.lt_or_ge (D0 + 1) (rung / f.binade) with h2 | h2
  · calc T * 2 ^ D0 ≤ 2 * f.binade * 2 ^ D0 := Nat.mul_le_mul_right _ (Nat.le_of_lt hT2)
      _ = f.binade * 2 ^ (D0 + 1) := by rw [Nat.pow_succ, Nat.mul_comm 2 f.binade, Nat.mul_assoc, Nat.mul_comm 2]
      _ ≤ (f.binade + rung % f.binade) * 2 ^ (rung / f.binade - 1) := Nat.mul_le_mul (Nat.le_add_right _ _) (Nat.pow_le_pow_right (by decide) (by omega))
  · have h3 : rung / f.binade = D0 + 1 := by omega
    rw [h3] at hdm
    rw [Nat.mul_add, Nat.mul_one, Nat.mul_comm f.binade] at hdm
    rw [h3]
    exact Nat.mul_le_mul (by omega) (Nat.le_refl _)
/-- a number that fits, with its first digit in its place -/
theorem normal (f : Format) (B : Nat) (h0 : B ≠ 0) (hB : B < f.binade) : ∃ k, k ≤ f.fractionBits ∧ f.binade ≤ B * 2 ^ k ∧ B * 2 ^ k < 2 * f.binade := by
  have hb : f.binade = 2 ^ f.fractionBits := rfl
  have h1 := two_log_le B h0
  have h2 := lt_two_log B
  have h3 : B.log2 < f.fractionBits := by
    apply (Nat.pow_lt_pow_iff_right (by decide : 1 < 2)).1
    rw [← hb]; omega
  refine ⟨f.fractionBits - B.log2, Nat.sub_le _ _, ?_, ?_⟩
  · calc f.binade = 2 ^ B.log2 * 2 ^ (f.fractionBits - B.log2) := by rw [hb, ← Nat.pow_add]; congr 1; omega
      _ ≤ _ := Nat.mul_le_mul_right _ h1
  · calc B * 2 ^ (f.fractionBits - B.log2) < 2 ^ (B.log2 + 1) * 2 ^ (f.fractionBits - B.log2) := Nat.mul_lt_mul_of_pos_right h2 (Nat.two_pow_pos _)
      _ = 2 * f.binade := by rw [hb, ← Nat.pow_add, show B.log2 + 1 + (f.fractionBits - B.log2) = f.fractionBits + 1 by omega, Nat.pow_succ, Nat.mul_comm]
theorem near_btw (f : Format) (s : Bool) (mag : Nat) (place : Int) (A B D j : Nat) (hAB : A < f.binade) (hBb : B < f.binade) (hD : f.fractionBits ≤ D) (hi : (D + 2) * f.binade ≤ f.infRung) (hj : 0 ≤ place - f.leastPlace + j)
    (hA : A * 2 ^ (D + j) ≤ mag * 2 ^ (place - f.leastPlace + j).toNat) (hB : mag * 2 ^ (place - f.leastPlace + j).toNat ≤ B * 2 ^ (D + j)) :
    ∃ m e, f.read (f.nearest s mag place) = .number s m e ∧ f.leastPlace ≤ e ∧ A * 2 ^ D ≤ m * 2 ^ (e - f.leastPlace).toNat ∧ m * 2 ^ (e - f.leastPlace).toNat ≤ B * 2 ^ D := by
  by_cases hm : mag = 0
  · subst hm
    rw [read_nearest_zero]
    refine ⟨_, _, rfl, Int.le_refl _, ?_, by rw [Nat.zero_mul]; exact Nat.zero_le _⟩
    rw [Nat.zero_mul] at hA ⊢
    have : A = 0 := by
      rcases Nat.eq_zero_or_pos A with h | h
      · exact h
      · have := Nat.mul_pos h (Nat.two_pow_pos (D + j)); omega
    rw [this, Nat.zero_mul]; exact Nat.le_refl _
  · have hB0 : B ≠ 0 := by
      intro h; subst h
      have := Nat.mul_pos (Nat.pos_of_ne_zero hm) (Nat.two_pow_pos (place - f.leastPlace + j).toNat)
      rw [Nat.zero_mul] at hB; omega
    have ev : ∀ (X k : Nat), k ≤ D → X * 2 ^ (D + j) = X * 2 ^ k * 2 ^ (D - k + j) := by
      intro X k hk
      rw [Nat.mul_assoc, ← Nat.pow_add]; congr 2; omega
    have ev' : ∀ (X k : Nat), k ≤ D → X * 2 ^ k * 2 ^ (D - k) = X * 2 ^ D := by
      intro X k hk
      rw [Nat.mul_assoc, ← Nat.pow_add]; congr 2; omega
    obtain ⟨k, k0, k1, k2⟩ := normal f B hB0 hBb
    obtain ⟨rung, g1, g2, g3⟩ := nearest_le3 f s mag place (B * 2 ^ k) (D - k) j k1 k2 hj (by rw [← ev B k (by omega)]; exact hB)
    have hrung : rung < f.infRung := by
      have : (D - k) * f.binade ≤ D * f.binade := Nat.mul_le_mul_right _ (Nat.sub_le _ _)
      rw [Nat.add_mul] at hi
      omega
    obtain ⟨m, e, r1, r2, r3⟩ := rung_value3 f s (B * 2 ^ k) (D - k) rung k1 g1 k2 hrung
    refine ⟨m, e, by rw [g3]; exact r1, r2, ?_, by rw [← ev' B k (by omega)]; exact r3⟩
    by_cases hA0 : A = 0
    · rw [hA0, Nat.zero_mul]; exact Nat.zero_le _
    · obtain ⟨l, l0, l1, l2⟩ := normal f A hA0 hAB
      obtain ⟨rung', u1, u2, u3⟩ := nearest_ge3 f s mag place (A * 2 ^ l) (D - l) j l1 l2 hj (by rw [← ev A l (by omega)]; exact hA) (by
        have : (D - l) * f.binade ≤ D * f.binade := Nat.mul_le_mul_right _ (Nat.sub_le _ _)
        rw [Nat.add_mul] at hi
        omega)
      have hrr : rung' < f.infRung := by
        rcases Nat.lt_or_ge rung' f.infRung with h | h
        · exact h
        · have h9 : rung' = f.infRung := by omega
          have : f.read (f.word s f.infRung) = .infinity s := read_word_inf f s (by
            have : 1 * f.binade ≤ (D + 2) * f.binade := Nat.mul_le_mul_right _ (by omega)
            omega)
          rw [g3] at u3
          rw [u3, h9, this] at r1
          cases r1
      obtain ⟨m', e', v1, v2, v3⟩ := rung_ge3 f s (A * 2 ^ l) (D - l) rung' l1 l2 u1 hrr
      rw [g3] at u3
      rw [u3, v1] at r1
      injection r1 with _ a1 a2
      subst a1; subst a2
      rw [← ev' A l (by omega)]; exact v3
/-- 'x is a finite number between L and U, in units of 2 ^ D times the least' -/
def Btw (f : Format) (x D : Nat) (L U : Int) : Prop := ∃ s m e, f.read x = .number s m e ∧ f.leastPlace ≤ e ∧ L * ((2 ^ D : Nat) : Int) ≤ signed s m (e - f.leastPlace).toNat ∧ signed s m (e - f.leastPlace).toNat ≤ U * ((2 ^ D : Nat) : Int)
theorem signed_true (m k : Nat) : signed true m k = -((m * 2 ^ k : Nat) : Int) := by unfold signed; rw [shl_eq]; rfl
theorem signed_false (m k : Nat) : signed false m k = ((m * 2 ^ k : Nat) : Int) := by unfold signed; rw [shl_eq]; rfl
theorem btw_nearest (f : Format) (s : Bool) (mag : Nat) (place : Int) (L U : Int) (D j : Nat) (hLU : 0 ≤ L ∨ U ≤ 0) (hLb : L.natAbs < f.binade) (hUb : U.natAbs < f.binade) (hD : f.fractionBits ≤ D) (hi : (D + 2) * f.binade ≤ f.infRung) (hj : 0 ≤ place - f.leastPlace + j)
    (hL : L * ((2 ^ (D + j) : Nat) : Int) ≤ signed s mag (place - f.leastPlace + j).toNat) (hU : signed s mag (place - f.leastPlace + j).toNat ≤ U * ((2 ^ (D + j) : Nat) : Int)) : Btw f (f.nearest s mag place) D L U := by
  have hp := pow_pos' (D + j)
  have hp2 := Nat.two_pow_pos (place - f.leastPlace + j).toNat
  by_cases hm : mag = 0
  · subst hm
    refine ⟨_, _, _, read_nearest_zero f s place, Int.le_refl _, ?_⟩
    have e0 : ∀ k, signed s 0 k = 0 := by intro k; cases s <;> simp [signed]
    rw [e0] at hL hU ⊢
    have hp3 := pow_pos' D
    have h1 : L ≤ 0 := by
      rcases Int.lt_or_le 0 L with h | h
      · have := Int.mul_pos h hp; omega
      · exact h
    have h2 : 0 ≤ U := by
      rcases Int.lt_or_le U 0 with h | h
      · have := Int.mul_neg_of_neg_of_pos h hp; omega
      · exact h
    exact ⟨Int.mul_nonpos_of_nonpos_of_nonneg h1 (Int.le_of_lt hp3), Int.mul_nonneg h2 (Int.le_of_lt hp3)⟩
  · have hmp := Nat.mul_pos (Nat.pos_of_ne_zero hm) hp2
    cases s
    · rw [signed_false] at hL hU
      have hU0 : 0 < U := by
        rcases Int.lt_or_le 0 U with h | h
        · exact h
        · have := Int.mul_nonpos_of_nonpos_of_nonneg h (Int.le_of_lt hp); omega
      have hL0 : 0 ≤ L := by omega
      obtain ⟨l, rfl⟩ := Int.eq_ofNat_of_zero_le hL0
      obtain ⟨u, rfl⟩ := Int.eq_ofNat_of_zero_le (Int.le_of_lt hU0)
      obtain ⟨m, e, r1, r2, r3, r4⟩ := near_btw f false mag place l u D j (by simpa using hLb) (by simpa using hUb) hD hi hj (by exact_mod_cast hL) (by exact_mod_cast hU)
      refine ⟨_, _, _, r1, r2, ?_⟩
      rw [signed_false]
      exact ⟨by exact_mod_cast r3, by exact_mod_cast r4⟩
    · rw [signed_true] at hL hU
      have hL0 : L < 0 := by
        rcases Int.lt_or_le L 0 with h | h
        · exact h
        · have := Int.mul_nonneg h (Int.le_of_lt hp); omega
      have hU0 : U ≤ 0 := by omega
      obtain ⟨l, hl⟩ := Int.eq_ofNat_of_zero_le (show 0 ≤ -L by omega)
      obtain ⟨u, hu⟩ := Int.eq_ofNat_of_zero_le (show 0 ≤ -U by omega)
      have eL : L = -(l : Int) := by omega
      have eU : U = -(u : Int) := by omega
      subst eL; subst eU
      rw [Int.neg_mul] at hL hU
      obtain ⟨m, e, r1, r2, r3, r4⟩ := near_btw f true mag place u l D j (by simpa using hUb) (by simpa using hLb) hD hi hj (by have := Int.neg_le_neg_iff.1 hU; exact_mod_cast this) (by have := Int.neg_le_neg_iff.1 hL; exact_mod_cast this)
      refine ⟨_, _, _, r1, r2, ?_⟩
      rw [signed_true, Int.neg_mul, Int.neg_mul]
      exact ⟨Int.neg_le_neg (by exact_mod_cast r4), Int.neg_le_neg (by exact_mod_cast r3)⟩
end Go.Proofs.Ytbggklhnnjikjaa

namespace Go.Proofs.Ytbggklhnnjikjaa
open Fl Ieee Go.RowKit

theorem sticky_le {dv n X : Nat} (hn : 0 < n) (h : 2 * dv ≤ X * n) : 2 * (dv / n) + (dv % n != 0).toNat ≤ X := by
  have h1 := Nat.div_add_mod dv n
  have h2 := Nat.mod_lt dv hn
  by_cases h3 : dv % n = 0
  · rw [h3] at h1 ⊢
    have : (2 * (dv / n)) * n ≤ X * n := by rw [Nat.mul_assoc, Nat.mul_comm (dv / n)]; omega
    have := Nat.le_of_mul_le_mul_right this hn
    simpa using this
  · have h4 : (dv % n != 0).toNat = 1 := by simp [h3]
    rw [h4]
    have : (2 * (dv / n)) * n < X * n := by rw [Nat.mul_assoc, Nat.mul_comm (dv / n)]; omega
    have := Nat.lt_of_mul_lt_mul_right this
    omega
theorem sticky_ge {dv n X : Nat} (hn : 0 < n) (h : X * n ≤ 2 * dv) : X ≤ 2 * (dv / n) + (dv % n != 0).toNat := by
  have h1 := Nat.div_add_mod dv n
  have h2 := Nat.mod_lt dv hn
  by_cases h3 : dv % n = 0
  · rw [h3] at h1 ⊢
    have : X * n ≤ (2 * (dv / n)) * n := by rw [Nat.mul_assoc, Nat.mul_comm (dv / n)]; omega
    have := Nat.le_of_mul_le_mul_right this hn
    simpa using this
  · have h4 : (dv % n != 0).toNat = 1 := by simp [h3]
    rw [h4]
    have : X * n < (2 * (dv / n) + 2) * n := by rw [Nat.add_mul, Nat.mul_assoc, Nat.mul_comm (dv / n)]; omega
    have := Nat.lt_of_mul_lt_mul_right this
    omega
theorem cast_le2 {A B C : Nat} (h : (A : Int) * (B : Int) ≤ (C : Int) * 2048) : A * B ≤ C * 2048 := by
  have : ((A * B : Nat) : Int) ≤ ((C * 2048 : Nat) : Int) := by rw [Int.natCast_mul, Int.natCast_mul]; exact h
  exact Int.ofNat_le.1 this
theorem cast_ge2 {A B C : Nat} (h : (C : Int) * 2048 ≤ (A : Int) * (B : Int)) : C * 2048 ≤ A * B := by
  have : ((C * 2048 : Nat) : Int) ≤ ((A * B : Nat) : Int) := by rw [Int.natCast_mul, Int.natCast_mul]; exact h
  exact Int.ofNat_le.1 this
theorem btw_quo {x y : Nat} {a b L U : Int} (D : Nat) (hD : D = 1061) (hx : Exa double (-6) x a) (hy : Exa double (-4) y b) (ha : a.natAbs < 1000000000) (hb0 : 0 < b) (hb : b < 1000000) (hLU : 0 ≤ L ∨ U ≤ 0) (hL : L * b ≤ a * 2048) (hU : a * 2048 ≤ U * b) (lL : L.natAbs < 100000000) (lU : U.natAbs < 100000000) :
    ∃ r, floatBits .quo .f64 x y = some r ∧ Btw double r D L U := by
  obtain ⟨s, m, k, h1, h2, h3, h4, h5⟩ := hx.read he64 (fits64 (by omega) (by omega) (by omega))
  obtain ⟨t, n, j, g1, g2, g3, g4, g5⟩ := hy.read he64 (fits64 (by omega) (by omega) (by omega))
  have hbn : b.natAbs ≠ 0 := by omega
  have hn0 : n ≠ 0 := by
    rw [g4]; have := Nat.mul_pos (Nat.pos_of_ne_zero hbn) (Nat.two_pow_pos j); omega
  have ht : t = false := by rw [g3 (by omega)]; simp; omega
  subst ht
  have hnl : n.log2 = b.natAbs.log2 + j := by rw [g4]; exact xlog2_scale _ _ hbn
  have h0 : floatBits .quo .f64 x y = ((Datum.number s m (-6 - k)).quotient 54 (.number false n (-4 - j))).map double.write := by
    show ((double.read x).quotient (52 + 2) (double.read y)).map double.write = _
    rw [h1, g1]
  rw [h0]
  simp only [Datum.quotient, if_neg hn0, Option.map_some, Bool.xor_false]
  refine ⟨_, rfl, ?_⟩
  obtain ⟨M, hM⟩ : ∃ M, 54 + n.log2 - m.log2 = M := ⟨_, rfl⟩
  rw [hM]
  have hf52 : double.fractionBits = 52 := rfl
  rw [hf52] at h5 g5
  have hml : m.log2 ≤ 31 + k := by
    by_cases ha0 : a.natAbs = 0
    · rw [h4, ha0]; simp
    · rw [h4, xlog2_scale _ _ ha0]
      have : a.natAbs.log2 < 31 := (Nat.log2_lt ha0).2 (by omega)
      omega
  have hN : j + 10 ≤ k + M := by omega
  show Btw double (double.nearest s (2 * (m <<< M / n) + (m <<< M % n != 0).toNat) (-6 - (k : Int) - (-4 - (j : Int)) - M - 1)) D L U
  have hbin : double.binade = 2 ^ 52 := rfl
  have hinf : double.infRung = 2047 * 2 ^ 52 := by decide
  obtain ⟨J, hJ⟩ : ∃ J, J = k + M + 3 := ⟨_, rfl⟩
  have ek : (-6 - (k : Int) - (-4 - (j : Int)) - M - 1 - double.leastPlace + J).toNat = 1074 + j := by rw [lp64]; omega
  obtain ⟨V, hV⟩ : ∃ V, V = 1074 := ⟨_, rfl⟩
  rw [← hV] at ek
  have hpos : 0 < n := Nat.pos_of_ne_zero hn0
  -- how great the quotient is
  have up : ∀ B : Nat, a.natAbs * 2048 ≤ B * b.natAbs → 2 * (m <<< M / n) + (m <<< M % n != 0).toNat ≤ B * 2 ^ (k + M - 10 - j) := by
    intro B hB
    refine sticky_le hpos ?_
    rw [shl_eq, h4, g4]
    calc 2 * (a.natAbs * 2 ^ k * 2 ^ M) = a.natAbs * 2048 * 2 ^ (k + M - 10) := by
          rw [Nat.mul_assoc, ← Nat.pow_add, Nat.mul_left_comm, show k + M = (k + M - 10) + 10 by omega, Nat.pow_add 2 (k + M - 10) 10, show k + M - 10 + 10 - 10 = k + M - 10 by omega]
          generalize 2 ^ (k + M - 10) = u
          rw [show (2 : Nat) ^ 10 = 1024 from rfl, Nat.mul_assoc, ← Nat.mul_assoc 2 u, Nat.mul_comm 2 u, Nat.mul_assoc u, Nat.mul_comm u]
      _ ≤ B * b.natAbs * 2 ^ (k + M - 10) := Nat.mul_le_mul_right _ hB
      _ = B * 2 ^ (k + M - 10 - j) * (b.natAbs * 2 ^ j) := by
          rw [Nat.mul_mul_mul_comm, ← Nat.pow_add, show k + M - 10 - j + j = k + M - 10 by omega]
  have lo : ∀ A : Nat, A * b.natAbs ≤ a.natAbs * 2048 → A * 2 ^ (k + M - 10 - j) ≤ 2 * (m <<< M / n) + (m <<< M % n != 0).toNat := by
    intro A hA
    refine sticky_ge hpos ?_
    rw [shl_eq, h4, g4]
    calc A * 2 ^ (k + M - 10 - j) * (b.natAbs * 2 ^ j) = A * b.natAbs * 2 ^ (k + M - 10) := by
          rw [Nat.mul_mul_mul_comm, ← Nat.pow_add, show k + M - 10 - j + j = k + M - 10 by omega]
      _ ≤ a.natAbs * 2048 * 2 ^ (k + M - 10) := Nat.mul_le_mul_right _ hA
      _ = 2 * (a.natAbs * 2 ^ k * 2 ^ M) := by
          rw [Nat.mul_assoc a.natAbs (2 ^ k), ← Nat.pow_add, Nat.mul_left_comm, show k + M = (k + M - 10) + 10 by omega, Nat.pow_add 2 (k + M - 10) 10, show k + M - 10 + 10 - 10 = k + M - 10 by omega]
          generalize 2 ^ (k + M - 10) = u
          rw [show (2 : Nat) ^ 10 = 1024 from rfl, Nat.mul_assoc, ← Nat.mul_assoc 2 u, Nat.mul_comm 2 u, Nat.mul_assoc u, Nat.mul_comm u]
  generalize 2 * (m <<< M / n) + (m <<< M % n != 0).toNat = mag at up lo
  have sc : ∀ B : Nat, B * 2 ^ (k + M - 10 - j) * 2 ^ (V + j) = B * 2 ^ (D + J) := by
    intro B
    rw [Nat.mul_assoc, ← Nat.pow_add]; congr 2; omega
  have up2 : ∀ B : Nat, a.natAbs * 2048 ≤ B * b.natAbs → mag * 2 ^ (V + j) ≤ B * 2 ^ (D + J) := fun B hB => by
    rw [← sc]; exact Nat.mul_le_mul_right _ (up B hB)
  have lo2 : ∀ A : Nat, A * b.natAbs ≤ a.natAbs * 2048 → A * 2 ^ (D + J) ≤ mag * 2 ^ (V + j) := fun A hA => by
    rw [← sc]; exact Nat.mul_le_mul_right _ (lo A hA)
  have eb : b = (b.natAbs : Int) := by omega
  have hs : signed s mag (V + j) = if a < 0 then -((mag * 2 ^ (V + j) : Nat) : Int) else ((mag * 2 ^ (V + j) : Nat) : Int) := by
    by_cases ha0 : a = 0
    · have hm0 : mag = 0 := by
        have := up 0 (by rw [ha0]; simp)
        rw [Nat.zero_mul] at this; omega
      rw [hm0]; cases s <;> simp [signed]
    · rw [h3 ha0]
      by_cases hneg : a < 0
      · rw [if_pos hneg, decide_eq_true hneg, signed_true]
      · rw [if_neg hneg, decide_eq_false hneg, signed_false]
  refine btw_nearest double s mag _ L U D J hLU (by rw [hbin]; omega) (by rw [hbin]; omega) (by rw [hf52]; omega) (by rw [hbin, hinf]; exact Nat.mul_le_mul_right _ (by omega)) (by rw [lp64]; omega) ?_ ?_
  · rw [ek, hs]
    by_cases hneg : a < 0
    · rw [if_pos hneg]
      have hl : L < 0 := by
        rcases Int.lt_or_le L 0 with h | h
        · exact h
        · have := Int.mul_nonneg h (Int.le_of_lt hb0); omega
      have := up2 L.natAbs (by
        have e : L = -(L.natAbs : Int) := by omega
        have e2 : a = -(a.natAbs : Int) := by omega
        rw [e, e2, eb, Int.neg_mul, Int.neg_mul] at hL
        exact cast_ge2 (Int.neg_le_neg_iff.1 hL))
      have e : L = -(L.natAbs : Int) := by omega
      rw [e, Int.neg_mul]
      refine Int.neg_le_neg ?_
      exact_mod_cast this
    · rw [if_neg hneg]
      rcases Int.lt_or_le L 0 with h | h
      · have h9 := Int.mul_neg_of_neg_of_pos h (pow_pos' (D + J))
        have : (0 : Int) ≤ ((mag * 2 ^ (V + j) : Nat) : Int) := Int.natCast_nonneg _
        omega
      · have := lo2 L.natAbs (by
          have e : L = (L.natAbs : Int) := by omega
          have e2 : a = (a.natAbs : Int) := by omega
          rw [e, e2, eb] at hL
          exact cast_le2 hL)
        have e : L = (L.natAbs : Int) := by omega
        rw [e]
        exact_mod_cast this
  · rw [ek, hs]
    by_cases hneg : a < 0
    · rw [if_pos hneg]
      rcases Int.lt_or_le 0 U with h | h
      · have h9 := Int.mul_pos h (pow_pos' (D + J))
        have : (0 : Int) ≤ ((mag * 2 ^ (V + j) : Nat) : Int) := Int.natCast_nonneg _
        omega
      · have := lo2 U.natAbs (by
          have e : U = -(U.natAbs : Int) := by omega
          have e2 : a = -(a.natAbs : Int) := by omega
          rw [e, e2, eb, Int.neg_mul, Int.neg_mul] at hU
          exact cast_le2 (Int.neg_le_neg_iff.1 hU))
        have e : U = -(U.natAbs : Int) := by omega
        rw [e, Int.neg_mul]
        refine Int.neg_le_neg ?_
        exact_mod_cast this
    · rw [if_neg hneg]
      have hu : 0 ≤ U := by
        rcases Int.lt_or_le U 0 with h | h
        · have := Int.mul_neg_of_neg_of_pos h hb0; omega
        · exact h
      have := up2 U.natAbs (by
        have e : U = (U.natAbs : Int) := by omega
        have e2 : a = (a.natAbs : Int) := by omega
        rw [e, e2, eb] at hU
        exact cast_ge2 hU)
      have e : U = (U.natAbs : Int) := by omega
      rw [e]
      exact_mod_cast this
end Go.Proofs.Ytbggklhnnjikjaa

namespace Go.Proofs.Ytbggklhnnjikjaa
open Fl Ieee Go.RowKit

theorem btw_narrow {x : Nat} {L U : Int} (D E : Nat) (hD : D = 1061) (hE : E = 136) (h : Btw double x D L U) (hLU : 0 ≤ L ∨ U ≤ 0) (lL : L.natAbs < 8388608) (lU : U.natAbs < 8388608) : ∃ r, floatToFloatBits .f64 x .f32 = some r ∧ Btw single r E L U := by
  obtain ⟨s, m, e, h1, h2, h3, h4⟩ := h
  rw [lp64] at h2 h3 h4
  obtain ⟨J, hJ⟩ : ∃ J, J = 925 := ⟨_, rfl⟩
  have ek : (e - single.leastPlace + J).toNat = (e - -1074).toNat := by rw [lp32]; omega
  have hb : single.binade = 8388608 := by decide
  have hi : single.infRung = 255 * 8388608 := by decide
  have hf : single.fractionBits = 23 := rfl
  have eD : D = E + J := by omega
  rw [eD] at h3 h4
  have hn := btw_nearest single s m e L U E J hLU (by rw [hb]; exact lL) (by rw [hb]; exact lU) (by rw [hf]; omega) (by rw [hb, hi]; omega) (by rw [lp32]; omega) (by rw [ek]; exact h3) (by rw [ek]; exact h4)
  refine ⟨single.nearest s m e, ?_, hn⟩
  obtain ⟨s', m', e', r1, _⟩ := hn
  unfold floatToFloatBits
  rw [if_neg (by decide)]
  show (match double.read x with | .nan _ _ => none | .infinity s => some (single.write (.infinity s)) | .number s m e => if (single.read (single.write (.number s m e))).isInfinity then none else some (single.write (.number s m e))) = some (single.nearest s m e)
  rw [h1]
  simp only []
  show (if (single.read (single.nearest s m e)).isInfinity then none else some (single.nearest s m e)) = _
  rw [r1]; rfl
theorem Btw.fin {x D : Nat} {L U : Int} (h : Btw single x D L U) : fin32 x = true := by
  obtain ⟨s, m, e, h1, _⟩ := h
  exact fin32_of h1
theorem exa_btw {y : Nat} {b : Int} (E : Nat) (hE : E = 136) (h : Exa single (-2) y b) (hb : b.natAbs < 1000000) : Btw single y E (b * 2048) (b * 2048) := by
  obtain ⟨s, m, k, h1, h2, h3, h4, h5⟩ := h.read he32 (fits32 (by omega) (by omega) (by omega))
  obtain ⟨_, g2, _, _⟩ := read_number single (by decide) y s m _ h1
  rw [lp32] at g2
  have e1 : (-2 - (k : Int) - single.leastPlace).toNat = 147 - k := by rw [lp32]; omega
  have hk : k ≤ 147 := by omega
  have hv : signed s m (-2 - (k : Int) - single.leastPlace).toNat = b * 2048 * ((2 ^ E : Nat) : Int) := by
    rw [e1, signed_up, h2, Int.mul_assoc, pow_split hk]
    obtain ⟨F, hF⟩ : ∃ F, F = 147 := ⟨_, rfl⟩
    rw [← hF, show F = 11 + E by omega, Nat.pow_add, Int.natCast_mul, Int.mul_assoc]
    rfl
  exact ⟨s, m, _, h1, by rw [lp32]; omega, by rw [hv]; exact Int.le_refl _, by rw [hv]; exact Int.le_refl _⟩
theorem nonneg_pow (k : Nat) : (0 : Int) ≤ ((2 ^ k : Nat) : Int) := Int.natCast_nonneg _
/-- what two numbers are together, in units of the least place -/
theorem sum_units {s t : Bool} {m n : Nat} {i j lp : Int} (hi : lp ≤ i) (hj : lp ≤ j) :
    (signed s m (i - min i j).toNat + signed t n (j - min i j).toNat) * ((2 ^ (min i j - lp).toNat : Nat) : Int) = signed s m (i - lp).toNat + signed t n (j - lp).toNat := by
  rw [Int.add_mul, signed_up s m (i - min i j).toNat, signed_up t n (j - min i j).toNat, signed_up s m (i - lp).toNat, signed_up t n (j - lp).toNat, Int.mul_assoc, Int.mul_assoc, ← Int.natCast_mul, ← Int.natCast_mul, ← Nat.pow_add, ← Nat.pow_add]
  have e1 : (i - min i j).toNat + (min i j - lp).toNat = (i - lp).toNat := by omega
  have e2 : (j - min i j).toNat + (min i j - lp).toNat = (j - lp).toNat := by omega
  rw [e1, e2]
theorem signed_total (T : Int) (b : Bool) (k : Nat) : signed (if T = 0 then b else decide (T < 0)) T.natAbs k = T * ((2 ^ k : Nat) : Int) := by
  by_cases h0 : T = 0
  · subst h0; rw [if_pos rfl]; cases b <;> simp [signed]
  · rw [if_neg h0]
    by_cases h : T < 0
    · rw [decide_eq_true h, signed_true, Int.natCast_mul, ← Int.neg_mul]; congr 1; omega
    · rw [decide_eq_false h, signed_false, Int.natCast_mul]; congr 1; omega
theorem btw_add {x y : Nat} {L U L' U' : Int} (E : Nat) (hE : E = 136) (hx : Btw single x E L U) (hy : Btw single y E L' U') (hLU : 0 ≤ L + L' ∨ U + U' ≤ 0) (lL : (L + L').natAbs < 8388608) (lU : (U + U').natAbs < 8388608) : ∃ r, floatBits .add .f32 x y = some r ∧ Btw single r E (L + L') (U + U') := by
  obtain ⟨s, m, i, h1, h2, h3, h4⟩ := hx
  obtain ⟨t, n, j, g1, g2, g3, g4⟩ := hy
  have h0 : floatBits .add .f32 x y = ((Datum.number s m i).sum (.number t n j)).map single.write := by
    show ((single.read x).sum (single.read y)).map single.write = _
    rw [h1, g1]
  rw [h0]
  refine ⟨_, rfl, ?_⟩
  have hb : single.binade = 8388608 := by decide
  have hi : single.infRung = 255 * 8388608 := by decide
  have hf : single.fractionBits = 23 := rfl
  have ht := sum_units (s := s) (t := t) (m := m) (n := n) h2 g2
  show Btw single (single.nearest _ (signed s m (i - min i j).toNat + signed t n (j - min i j).toNat).natAbs (min i j)) E (L + L') (U + U')
  generalize hT : signed s m (i - min i j).toNat + signed t n (j - min i j).toNat = T at ht
  have hp := nonneg_pow E
  refine btw_nearest single _ T.natAbs (min i j) (L + L') (U + U') E 0 hLU (by rw [hb]; exact lL) (by rw [hb]; exact lU) (by rw [hf]; omega) (by rw [hb, hi]; omega) (by omega) ?_ ?_
  · rw [signed_total, Nat.add_zero, show (min i j - single.leastPlace + ((0 : Nat) : Int)).toNat = (min i j - single.leastPlace).toNat by simp, ht, Int.add_mul]
    exact Int.add_le_add h3 g3
  · rw [signed_total, Nat.add_zero, show (min i j - single.leastPlace + ((0 : Nat) : Int)).toNat = (min i j - single.leastPlace).toNat by simp, ht, Int.add_mul]
    exact Int.add_le_add h4 g4
theorem signed_opposite (t : Bool) (n k : Nat) : signed (!t) n k = -signed t n k := by
  cases t
  · rw [Bool.not_false, signed_true, signed_false]
  · rw [Bool.not_true, signed_true, signed_false, Int.neg_neg]
/-- two numbers between the same neighbours are near one another -/
theorem btw_diff {x y : Nat} {L : Int} (E : Nat) (hE : E = 136) (hx : Btw single x E L (L + 1)) (hy : Btw single y E L (L + 1)) : ∃ r, floatBits .sub .f32 x y = some r ∧ Bd (wide r) 1061 ∧ nan32 r = false := by
  obtain ⟨s, m, i, h1, h2, h3, h4⟩ := hx
  obtain ⟨t, n, j, g1, g2, g3, g4⟩ := hy
  have h0 : floatBits .sub .f32 x y = ((Datum.number s m i).sum (.number (!t) n j)).map single.write := by
    show ((single.read x).sum (single.read y).opposite).map single.write = _
    rw [h1, g1]; rfl
  rw [h0]
  refine ⟨_, rfl, ?_⟩
  have hb : single.binade = 8388608 := by decide
  have hi : single.infRung = 255 * 8388608 := by decide
  have hf : single.fractionBits = 23 := rfl
  have ht := sum_units (s := s) (t := !t) (m := m) (n := n) h2 g2
  rw [signed_opposite t n (j - single.leastPlace).toNat] at ht
  show Bd (wide (single.nearest _ (signed s m (i - min i j).toNat + signed (!t) n (j - min i j).toNat).natAbs (min i j))) 1061 ∧ nan32 (single.nearest _ _ _) = false
  generalize hT : signed s m (i - min i j).toNat + signed (!t) n (j - min i j).toNat = T at ht
  have hp := nonneg_pow E
  have habs : (T * ((2 ^ (min i j - single.leastPlace).toNat : Nat) : Int)).natAbs ≤ 2 ^ E := by
    rw [ht]
    rw [Int.add_mul, Int.one_mul] at h4 g4
    generalize signed s m (i - single.leastPlace).toNat = A at *
    generalize signed t n (j - single.leastPlace).toNat = B at *
    generalize L * ((2 ^ E : Nat) : Int) = C at *
    generalize hq : 2 ^ E = q at *
    omega
  rw [Int.natAbs_mul, Int.natAbs_natCast] at habs
  obtain ⟨m', e', r1, r2, _, r3⟩ := near_btw single (if T = 0 then (s && !t) else decide (T < 0)) T.natAbs (min i j) 0 1 E 0 (by rw [hb]; decide) (by rw [hb]; decide) (by rw [hf]; omega) (by rw [hb, hi]; omega) (by omega)
    (by rw [Nat.zero_mul]; exact Nat.zero_le _) (by rw [show (min i j - single.leastPlace + ((0 : Nat) : Int)).toNat = (min i j - single.leastPlace).toNat by simp, Nat.one_mul, Nat.add_zero]; exact habs)
  rw [Nat.one_mul] at r3
  obtain ⟨m2, e2, q1, q2, q3⟩ := read_wide_number _ _ m' e' r1
  rw [lp32] at r2 r3
  refine ⟨⟨_, m2, e2, q1, q2, ?_⟩, fin_not_nan (fin32_of r1)⟩
  rw [← shl_eq, q3, shl_eq]
  obtain ⟨Z, hZ⟩ : ∃ Z, Z = 925 := ⟨_, rfl⟩
  obtain ⟨Y, hY⟩ : ∃ Y, Y = 1061 := ⟨_, rfl⟩
  have e3 : (e' + 1074).toNat = (e' - -149).toNat + Z := by omega
  rw [e3, ← hY, Nat.pow_add, ← Nat.mul_assoc]
  refine Nat.le_trans (Nat.mul_le_mul_right _ r3) ?_
  rw [← Nat.pow_add]
  exact Nat.pow_le_pow_right (by decide) (by omega)
end Go.Proofs.Ytbggklhnnjikjaa

namespace Go.Proofs.Ytbggklhnnjikjaa
open Go.RowKit Fl Ieee

theorem nn_sq {x K : Nat} (R : Nat) (hx : Bd x K) (hR : K + K ≤ R + 1074) (hR1 : 52 ≤ R) (hR2 : R ≤ 2096) : ∃ r, floatBits .mul .f64 x x = some r ∧ Nn r R := by
  obtain ⟨s, m, i, h1, h2, h3⟩ := hx
  have h0 : floatBits .mul .f64 x x = some (Ieee.double.nearest false (m * m) (i + i)) := by
    show ((Ieee.double.read x).product (Ieee.double.read x)).map Ieee.double.write = _
    rw [h1]
    show some (Ieee.double.nearest (s ^^ s) (m * m) (i + i)) = _
    rw [Bool.xor_self]
  refine ⟨_, h0, nn_nearest _ _ R 1074 hR1 hR2 (by omega) ?_⟩
  have e : (i + i + 1074 + (1074 : Nat)).toNat = (i + 1074).toNat + (i + 1074).toNat := by omega
  rw [e, Nat.pow_add]
  calc m * m * (2 ^ (i + 1074).toNat * 2 ^ (i + 1074).toNat) = (m * 2 ^ (i + 1074).toNat) * (m * 2 ^ (i + 1074).toNat) := Nat.mul_mul_mul_comm ..
    _ ≤ 2 ^ K * 2 ^ K := Nat.mul_le_mul h3 h3
    _ = 2 ^ (K + K) := (Nat.pow_add ..).symm
    _ ≤ 2 ^ (R + 1074) := Nat.pow_le_pow_right (by decide) hR
theorem nn_add {x y K : Nat} (hx : Nn x K) (hy : Nn y K) (hK : 51 ≤ K) (hK2 : K ≤ 2095) : ∃ r, floatBits .add .f64 x y = some r ∧ Nn r (K + 1) := by
  obtain ⟨m, i, h1, h2, h3⟩ := hx
  obtain ⟨n, j, g1, g2, g3⟩ := hy
  have h0 : floatBits .add .f64 x y = ((Datum.number false m i).sum (.number false n j)).map double.write := by
    show ((double.read x).sum (double.read y)).map double.write = _
    rw [h1, g1]
  rw [h0]
  refine ⟨_, rfl, ?_⟩
  show Nn (double.nearest (if signed false m (i - min i j).toNat + signed false n (j - min i j).toNat = 0 then (false && false) else decide (signed false m (i - min i j).toNat + signed false n (j - min i j).toNat < 0)) (signed false m (i - min i j).toNat + signed false n (j - min i j).toNat).natAbs (min i j)) (K + 1)
  rw [signed_false, signed_false, ← Int.natCast_add]
  have hs : (if ((m * 2 ^ (i - min i j).toNat + n * 2 ^ (j - min i j).toNat : Nat) : Int) = 0 then (false && false) else decide (((m * 2 ^ (i - min i j).toNat + n * 2 ^ (j - min i j).toNat : Nat) : Int) < 0)) = false := by
    split
    · rfl
    · exact decide_eq_false (by have := Int.natCast_nonneg (m * 2 ^ (i - min i j).toNat + n * 2 ^ (j - min i j).toNat); omega)
  rw [hs, Int.natAbs_natCast]
  refine nn_nearest _ _ (K + 1) 0 (by omega) (by omega) (by omega) ?_
  have e1 : (i + 1074).toNat = (i - min i j).toNat + (min i j + 1074).toNat := by omega
  have e2 : (j + 1074).toNat = (j - min i j).toNat + (min i j + 1074).toNat := by omega
  rw [show (min i j + 1074 + ((0 : Nat) : Int)).toNat = (min i j + 1074).toNat by simp, Nat.add_zero, Nat.add_mul, Nat.mul_assoc, Nat.mul_assoc, ← Nat.pow_add, ← Nat.pow_add, ← e1, ← e2, Nat.pow_succ]
  omega
theorem nn_sqrt {x K H : Nat} (hx : Nn x K) (hK : K + 1076 ≤ 2 * H) (hH : 52 ≤ H) (hH2 : H ≤ 2000) : ∃ r, double.sqrt x = some r ∧ Bd r H := by
  obtain ⟨m, i, h1, h2, h3⟩ := hx
  have h0 : double.sqrt x = ((Datum.number false m i).root 54).map double.write := by
    show ((double.read x).root (52 + 2)).map double.write = _
    rw [h1]
  rw [h0]
  simp only [Datum.root]
  by_cases hm : m = 0
  · rw [if_pos hm]
    refine ⟨_, rfl, ?_⟩
    show Bd (double.nearest false m i) _
    refine bd_nearest false m i _ 0 (by omega) (by omega) (by omega) ?_
    rw [hm]; simp
  · rw [if_neg hm, if_neg (by decide)]
    refine ⟨_, rfl, ?_⟩
    generalize hmore : 2 * 54 - m.log2 + ((i - ((2 * 54 - m.log2 : Nat) : Int)) % 2).toNat = more
    have heven : (i - (more : Int)) % 2 = 0 := by omega
    generalize hw : Datum.rootFrom (m <<< more) ((m <<< more).log2 / 2 + 1) 0 = whole
    have hsq : whole * whole ≤ m <<< more := by rw [← hw]; exact rootFrom_sq _ _ _ (Nat.zero_le _)
    show Bd (double.nearest false (2 * whole + (whole * whole != m <<< more).toNat) ((i - more) / 2 - 1)) _
    have hst : (whole * whole != m <<< more).toNat ≤ 1 := by cases (whole * whole != m <<< more) <;> decide
    generalize (whole * whole != m <<< more).toNat = st at hst
    rw [shl_eq] at hsq
    obtain ⟨V, hV⟩ : ∃ V, V = 1074 := ⟨_, rfl⟩
    refine bd_nearest _ _ _ _ (1074 + more) (by omega) (by omega) (by omega) ?_
    have hpos : 0 < m * 2 ^ more := Nat.mul_pos (by omega) (Nat.two_pow_pos _)
    have hq : (2 * whole + st) * (2 * whole + st) ≤ 16 * (m * 2 ^ more) := by
      rcases Nat.eq_zero_or_pos whole with h5 | h5
      · subst h5
        simp only [Nat.mul_zero, Nat.zero_add]
        have : st * st ≤ 1 * 1 := Nat.mul_le_mul hst hst
        omega
      · have h6 : 2 * whole + st ≤ 4 * whole := by omega
        have h7 := Nat.mul_le_mul h6 h6
        have h8 : 4 * whole * (4 * whole) = 16 * (whole * whole) := by rw [Nat.mul_mul_mul_comm]
        omega
    apply sq_le_sq
    generalize hF : ((i - (more : Int)) / 2 - 1 + 1074 + ((1074 + more : Nat) : Int)).toNat = F
    have hF2 : 2 * F + 2 = (i + 1074).toNat + more + (V + V + V) := by omega
    refine Nat.le_of_mul_le_mul_right ?_ (Nat.two_pow_pos 2)
    generalize 2 * whole + st = B at hq
    calc B * 2 ^ F * (B * 2 ^ F) * 2 ^ 2 = (B * B) * 2 ^ (2 * F + 2) := by
          rw [Nat.mul_mul_mul_comm, ← Nat.pow_add, Nat.mul_assoc, ← Nat.pow_add, show F + F + 2 = 2 * F + 2 by omega]
      _ ≤ (16 * (m * 2 ^ more)) * 2 ^ (2 * F + 2) := Nat.mul_le_mul_right _ hq
      _ = (m * 2 ^ (i + 1074).toNat) * 2 ^ (4 + more + more + (V + V + V)) := by
          rw [hF2, show (16 : Nat) = 2 ^ 4 from rfl]
          simp only [Nat.pow_add, Nat.mul_assoc, Nat.mul_comm, Nat.mul_left_comm]
      _ ≤ 2 ^ K * 2 ^ (4 + more + more + (V + V + V)) := Nat.mul_le_mul_right _ h3
      _ = 2 ^ (K + (4 + more + more + (V + V + V))) := (Nat.pow_add ..).symm
      _ ≤ 2 ^ ((H + (1074 + more)) + (H + (1074 + more)) + 2) := Nat.pow_le_pow_right (by decide) (by omega)
      _ = 2 ^ (H + (1074 + more)) * 2 ^ (H + (1074 + more)) * 2 ^ 2 := by rw [Nat.pow_add, Nat.pow_add]
/-- narrowing does not pass a power of two -/
theorem narrow_bd {x K : Nat} (h : Bd x K) (hK : 948 ≤ K) (hK2 : K ≤ 1201) : Bd (wide (narrow x)) K := by
  obtain ⟨s, m, e, h1, h2, h3⟩ := h
  have hfb : Ieee.single.fractionBits = 23 := rfl
  have hb : Ieee.single.binade = 2 ^ 23 := rfl
  have hi : Ieee.single.infRung = 255 * 2 ^ 23 := by decide
  obtain ⟨Z, hZ⟩ : ∃ Z, Z = 925 := ⟨_, rfl⟩
  obtain ⟨rung, g1, _, g3⟩ := nearest_le Ieee.single s m e (K - Z) Z (by rw [hfb]; omega) (by rw [lp32]; omega) (by
    have e1 : (e - Ieee.single.leastPlace + (Z : Nat)).toNat = (e + 1074).toNat := by rw [lp32]; omega
    have e2 : K - Z + Z = K := by omega
    rw [e1, e2]; exact h3)
  rw [hfb, hb] at g1
  have hr : rung < Ieee.single.infRung := by
    rw [hi]
    have : (K - Z - 23 + 1) * 2 ^ 23 ≤ 254 * 2 ^ 23 := Nat.mul_le_mul_right _ (by omega)
    omega
  obtain ⟨m', e', k1, k2, k3⟩ := rung_value Ieee.single s (K - Z) rung (by rw [hfb]; omega) (by rw [hfb, hb]; exact g1) hr
  rw [lp32] at k2 k3
  have hn : narrow x = Ieee.single.word s rung := by
    unfold narrow; rw [h1]; exact g3
  rw [← hn] at k1
  obtain ⟨m2, e2, q1, q2, q3⟩ := read_wide_number _ _ m' e' k1
  refine ⟨_, m2, e2, q1, q2, ?_⟩
  rw [← shl_eq, q3, shl_eq]
  have e3 : (e' + 1074).toNat = (e' - -149).toNat + Z := by omega
  rw [e3, Nat.pow_add, ← Nat.mul_assoc]
  refine Nat.le_trans (Nat.mul_le_mul_right _ k3) ?_
  rw [← Nat.pow_add]
  exact Nat.pow_le_pow_right (by decide) (by omega)
/-- the length of a complex number whose parts are at most 2 ^ -13 -/
theorem long_small {a b : Nat} (ha : Bd (wide a) 1061) (hb : Bd (wide b) 1061) : ∃ p q s v, LongW a b p q s (some v) ∧ nan32 v = false ∧ Bd (wide v) 1063 := by
  obtain ⟨p, hp, np⟩ := nn_sq 1048 ha (by omega) (by omega) (by omega)
  obtain ⟨q, hq, nq⟩ := nn_sq 1048 hb (by omega) (by omega) (by omega)
  obtain ⟨s, hs, ns⟩ := nn_add np nq (by omega) (by omega)
  obtain ⟨r, hr, br⟩ := nn_sqrt (H := 1063) ns (by omega) (by omega) (by omega)
  obtain ⟨n1, n2⟩ := narrow_ok br (by omega) (by omega)
  exact ⟨p, q, s, narrow r, ⟨hp, hq, hs, .inr ⟨r, _, hr, n1, rfl, n2⟩⟩, n2, narrow_bd br (by omega) (by omega)⟩
theorem read_milli : double.read 4562254508917369340 = .number false 4611686018427388 (-62) := by decide
/-- such a number is less than a thousandth -/
theorem lt_milli {x : Nat} (h : Bd x 1063) : FloatKind.f64.format.order x 4562254508917369340 = some .lt := by
  obtain ⟨s, m, e, h1, h2, h3⟩ := h
  show (double.read x).order (double.read 4562254508917369340) = _
  rw [h1, read_milli]
  simp only [Datum.order]
  congr 1
  -- in units of 2 ^ -1074
  obtain ⟨V, hV⟩ : ∃ V, V = 1012 := ⟨_, rfl⟩
  obtain ⟨Y, hY⟩ : ∃ Y, Y = 1063 := ⟨_, rfl⟩
  rw [← hY] at h3
  have hlt : signed s m (e - min e (-62)).toNat < signed false 4611686018427388 (-62 - min e (-62)).toNat := by
    refine Int.lt_of_mul_lt_mul_right (a := ((2 ^ (min e (-62) - -1074).toNat : Nat) : Int)) ?_ (nonneg_pow _)
    rw [signed_up s m, signed_up false, Int.mul_assoc, Int.mul_assoc, ← Int.natCast_mul, ← Int.natCast_mul, ← Nat.pow_add, ← Nat.pow_add]
    have e1 : (e - min e (-62)).toNat + (min e (-62) - -1074).toNat = (e + 1074).toNat := by omega
    have e2 : (-62 - min e (-62)).toNat + (min e (-62) - -1074).toNat = V := by omega
    rw [e1, e2, ← signed_up, ← signed_up, signed_false]
    have hb : (2 : Nat) ^ Y < 4611686018427388 * 2 ^ V := by
      rw [show Y = 51 + V by omega, Nat.pow_add]
      exact Nat.mul_lt_mul_of_pos_right (by decide) (Nat.two_pow_pos _)
    have hle : signed s m (e + 1074).toNat ≤ ((2 ^ Y : Nat) : Int) := by
      cases s
      · rw [signed_false]; exact Int.ofNat_le.2 h3
      · rw [signed_true]
        have := Int.natCast_nonneg (m * 2 ^ (e + 1074).toNat)
        have := nonneg_pow Y
        omega
    exact Int.lt_of_le_of_lt hle (Int.ofNat_lt.2 hb)
  simp only [compare, compareOfLessAndEq, if_pos hlt]
/-- two complex numbers that are near one another -/
theorem apart_small (a b c d x y p q s v : Nat) (w : World) (h1 : floatBits .sub .f32 a c = some x) (h2 : floatBits .sub .f32 b d = some y) (nx : nan32 x = false) (ny : nan32 y = false) (h : LongW x y p q s (some v)) (hn : nan32 v = false) :
    Calls Try.prog 24 #[.complex .f32 a b, .complex .f32 c d] w fun e w' => e = .returned (.float .f64 (wide v)) ∧ Quiet w w' := by
  have hs := fun w => run_csum (P := Try.prog) .sub (Or.inr rfl) 31 a b c d x y h1 h2 w
  have HL := Lib.hid fun w => longOf_w x y p q s (some v) w nx ny h
  have hc := fun w => run_convert_float_float (P := Try.prog) w 35 47 .f32 .f64 v (wide v) (by kernel_rfl) Try.underlying47 (wide_conv v hn)
  clear h1 h2 h nx ny
  go_enter Try.func24, Try.ntmps24
  go_wp2_with (go_at_call 71; (with_reducible refine (HL.out _).mono ?_); rintro e w' ⟨⟨v', rfl, rfl, _⟩, q⟩)
  go_ret
  exact ⟨rfl, q⟩
end Go.Proofs.Ytbggklhnnjikjaa
