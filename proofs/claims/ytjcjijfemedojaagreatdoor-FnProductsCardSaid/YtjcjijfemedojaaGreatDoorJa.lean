/- The length of a complex number whose parts are halves of 32-bit numbers: both sides give the same number. -/
import Derived.Test.YtjcjijfemedojaaGreatDoorExa
import Derived.Test.YtjcjijfemedojaaGreatDoorRoot
import Derived.Laws.ComplexArith
import Derived.Test.YtjcjijfemedojaaGreatDoorBd
import Derived.Test.YtjcjijfemedojaaGreatDoorSums
namespace Go.Proofs.YtjcjijfemedojaaGreatDoor
open Go.RowKit Fl

theorem neg_word (k : FloatKind) (s : Bool) (r : Nat) (h : r < k.format.signWeight) : Op.negFloat k (k.format.word s r) = k.format.word (!s) r := by
  have hn : Op.negFloat k (k.format.word s r) = k.format.word s r ^^^ k.format.signWeight := rfl
  obtain ⟨W, hW⟩ : ∃ W, k.format.signWeight = 2 ^ W := ⟨_, rfl⟩
  rw [hn]
  unfold Ieee.Format.word
  rw [hW] at h ⊢
  have hp := Nat.two_pow_pos W
  have key : ∀ x : Nat, (x ^^^ 2 ^ W) = 2 ^ W * (x / 2 ^ W ^^^ 1) + x % 2 ^ W := by
    intro x
    have h1 : (x ^^^ 2 ^ W) % 2 ^ W = x % 2 ^ W := by rw [Nat.xor_mod_two_pow, Nat.mod_self, Nat.xor_zero]
    have h2 : (x ^^^ 2 ^ W) / 2 ^ W = x / 2 ^ W ^^^ 1 := by rw [Nat.xor_div_two_pow, Nat.div_self hp]
    have := Nat.div_add_mod (x ^^^ 2 ^ W) (2 ^ W)
    rw [h1, h2] at this
    exact this.symm
  cases s
  · simp only [Bool.false_eq_true, if_false, Bool.not_false, if_true]
    rw [key, Nat.div_eq_of_lt h, Nat.mod_eq_of_lt h]
    simp
  · simp only [Bool.not_true, Bool.false_eq_true, if_false, if_true]
    rw [key, Nat.add_div_left _ hp, Nat.add_mod_left, Nat.div_eq_of_lt h, Nat.mod_eq_of_lt h]
    simp
theorem nearest_flip (f : Ieee.Format) (s : Bool) (m : Nat) (p : Int) : ∃ r, r ≤ f.infRung ∧ f.nearest s m p = f.word s r ∧ f.nearest (!s) m p = f.word (!s) r := by
  by_cases hm : m = 0
  · exact ⟨0, Nat.zero_le _, by unfold Ieee.Format.nearest; rw [if_pos hm], by unfold Ieee.Format.nearest; rw [if_pos hm]⟩
  · unfold Ieee.Format.nearest
    rw [if_neg hm, if_neg hm]
    refine ⟨_, Nat.min_le_right _ _, rfl, ?_⟩
    cases s <;> rfl
/-- the opposite of an exact number -/
theorem exa_neg (k : FloatKind) {p : Int} {x : Nat} {n : Int} (h : Ieee.Format.infRung k.format < k.format.signWeight) (hx : Exa k.format p x n) : Exa k.format p (Op.negFloat k x) (-n) := by
  constructor
  · intro h0
    have h0' : n ≠ 0 := by omega
    rw [hx.1 h0']
    obtain ⟨r, r1, r2, r3⟩ := nearest_flip k.format (decide (n < 0)) n.natAbs p
    rw [r2, neg_word k _ r (Nat.lt_of_le_of_lt r1 h), ← r3, Int.natAbs_neg]
    congr 1
    by_cases hn : n < 0
    · rw [decide_eq_true hn, decide_eq_false (show ¬ -n < 0 by omega)]; rfl
    · rw [decide_eq_false hn, decide_eq_true (show -n < 0 by omega)]; rfl
  · intro h0
    have h0' : n = 0 := by omega
    have hp : 0 < k.format.signWeight := sw_pos _
    rcases hx.2 h0' with e | e
    · rw [e, neg_word k false 0 hp]; exact .inr rfl
    · rw [e, neg_word k true 0 hp]; exact .inl rfl
theorem exa_neg32 {p : Int} {x : Nat} {n : Int} (hx : Exa Ieee.single p x n) : Exa Ieee.single p (Op.negFloat .f32 x) (-n) := exa_neg .f32 (by decide) hx
end Go.Proofs.YtjcjijfemedojaaGreatDoor

namespace Go.Proofs.YtjcjijfemedojaaGreatDoor
open Go.RowKit Fl

def powF (p : Nat × Nat) : Option Nat :=
  (floatBits .mul .f64 (wide p.1) (wide p.1)).bind fun a => (floatBits .mul .f64 (wide p.2) (wide p.2)).bind fun b => (floatBits .add .f64 a b).bind fun s => floatToFloatBits .f64 s .f32
theorem powF_of (p : Nat × Nat) (r : Nat) (h1 : nan32 p.1 = false) (h2 : nan32 p.2 = false) (h : powF p = some r) (w : World) :
    Calls Tryz.prog 7 #[.complex .f32 p.1 p.2] w fun e w' => e = .returned (.float .f32 r) ∧ w = w' := by
  obtain ⟨a, b⟩ := p
  dsimp only at h1 h2 ⊢
  obtain ⟨x, ha, h⟩ := Option.bind_eq_some_iff.1 h
  obtain ⟨y, hb, h⟩ := Option.bind_eq_some_iff.1 h
  obtain ⟨s, hs, h⟩ := Option.bind_eq_some_iff.1 h
  dsimp only at ha hb
  have HN := Lib.hid fun w => narrowNumber_ok s r w h
  have HL : Hid (∀ w, Calls Tryz.prog 31 #[.complex .f32 a b] w fun e w' => e = .returned (.float .f64 s) ∧ w = w') := by
    intro w
    have c1 := fun w => run_convert_float_float (P := Tryz.prog) w 28 46 .f32 .f64 a (wide a) (by kernel_rfl) Tryz.underlying46 (wide_conv a h1)
    have c2 := fun w => run_convert_float_float (P := Tryz.prog) w 28 46 .f32 .f64 b (wide b) (by kernel_rfl) Tryz.underlying46 (wide_conv b h2)
    have e1 := fun w => run_float_arith (P := Tryz.prog) w .mul 46 .f64 _ _ _ ha
    have e2 := fun w => run_float_arith (P := Tryz.prog) w .mul 46 .f64 _ _ _ hb
    have e5 := fun w => run_float_arith (P := Tryz.prog) w .add 46 .f64 _ _ _ hs
    clear HN h ha hb hs h1 h2
    go_enter Tryz.func31, Tryz.ntmps31
    go_wp2
    go_ret
    exact ⟨rfl, rfl⟩
  clear h ha hb hs h1 h2
  go_enter Tryz.func7, Tryz.ntmps7
  go_wp2_with (first | (go_at_call 31; (with_reducible refine (HL.out _).mono ?_); rintro e w' ⟨rfl, rfl⟩) | (go_at_call 30; (with_reducible refine (HN.out _).mono ?_); rintro e w' ⟨rfl, rfl⟩))
  go_ret
  exact ⟨rfl, rfl⟩
theorem run_csum {P : Program} (op : BinOp) (hop : op = .add ∨ op = .sub) (t : TypeId) (a b c d re im : Nat) (h1 : floatBits op .f32 a c = some re) (h2 : floatBits op .f32 b d = some im) (w : World) :
    (binOp op t (.complex .f32 a b) (.complex .f32 c d)).run P w = .ok (.complex .f32 re im) w :=
  run_complex_sum w op hop t .f32 a b c d re im (by simp [cSumBits, h1, h2])
end Go.Proofs.YtjcjijfemedojaaGreatDoor

namespace Go.Proofs.YtjcjijfemedojaaGreatDoor
namespace Fl
open Ieee

theorem nearest_le3 (f : Format) (s : Bool) (mag : Nat) (place : Int) (T D0 j : Nat) (hT : f.binade ≤ T) (hT2 : T < 2 * f.binade) (hj : 0 ≤ place - f.leastPlace + j)
    (h : mag * 2 ^ (place - f.leastPlace + j).toNat ≤ T * 2 ^ (D0 + j)) :
    ∃ rung, rung ≤ D0 * f.binade + T ∧ rung ≤ f.infRung ∧ f.nearest s mag place = f.word s rung := by
  by_cases hm : mag = 0
  · exact ⟨0, Nat.zero_le _, Nat.zero_le _, by unfold Format.nearest; rw [if_pos hm]⟩
  unfold Format.nearest
  rw [if_neg hm]
  dsimp only
  refine ⟨_, ?_, Nat.min_le_right _ _, rfl⟩
  refine Nat.le_trans (Nat.min_le_left _ _) ?_
  have hb : f.binade = 2 ^ f.fractionBits := rfl
  have hL : mag.log2 + (place - f.leastPlace + j).toNat < f.fractionBits + 1 + (D0 + j) := by
    apply (Nat.pow_lt_pow_iff_right (show 1 < 2 by decide)).1
    rw [Nat.pow_add, Nat.pow_add 2 (f.fractionBits + 1)]
    refine Nat.lt_of_le_of_lt (Nat.mul_le_mul_right _ (two_log_le mag hm)) (Nat.lt_of_le_of_lt h ?_)
    refine Nat.mul_lt_mul_of_pos_right ?_ (Nat.two_pow_pos _)
    rw [Nat.pow_succ, ← hb]; omega
  have hk0 : mag < 2 ^ (mag.log2 + 1) := lt_two_log mag
  generalize hlast : max (place + mag.log2 - f.fractionBits) f.leastPlace = last
  have hl1 : place + mag.log2 - f.fractionBits ≤ last := by omega
  have hl2 : f.leastPlace ≤ last := by omega
  have hl3 : (last - f.leastPlace).toNat ≤ D0 := by omega
  have hT1 : Toward.even.cut s (mag <<< (place - last).toNat) (last - place).toNat ≤ 2 ^ (f.fractionBits + 1) := by
    apply cut_le
    rw [shl_eq, ← Nat.pow_add]
    have e : mag.log2 + 1 + (place - last).toNat ≤ f.fractionBits + 1 + (last - place).toNat := by omega
    calc mag * 2 ^ (place - last).toNat ≤ 2 ^ (mag.log2 + 1) * 2 ^ (place - last).toNat := Nat.mul_le_mul_right _ (Nat.le_of_lt hk0)
      _ = 2 ^ (mag.log2 + 1 + (place - last).toNat) := (Nat.pow_add ..).symm
      _ ≤ _ := Nat.pow_le_pow_right (by decide) e
  have hT3 : (last - f.leastPlace).toNat = D0 → Toward.even.cut s (mag <<< (place - last).toNat) (last - place).toNat ≤ T := by
    intro hD
    apply cut_le
    rw [shl_eq]
    have hp : 0 < 2 ^ (j + D0) := Nat.two_pow_pos _
    refine Nat.le_of_mul_le_mul_right ?_ hp
    rw [Nat.mul_assoc, ← Nat.pow_add, Nat.mul_assoc, ← Nat.pow_add]
    have e1 : (place - last).toNat + (j + D0) = (place - f.leastPlace + j).toNat + (last - place).toNat := by omega
    have e2 : (last - place).toNat + (j + D0) = (D0 + j) + (last - place).toNat := by omega
    rw [e1, e2, Nat.pow_add, Nat.pow_add 2 (D0 + j), ← Nat.mul_assoc, ← Nat.mul_assoc]
    exact Nat.mul_le_mul_right _ h
  generalize Toward.even.cut s (mag <<< (place - last).toNat) (last - place).toNat = kept at *
  generalize (last - f.leastPlace).toNat = D at *
  rcases Nat.lt_or_ge D D0 with h1 | h1
  · have h2 : kept ≤ 2 * f.binade := by rw [hb]; rw [Nat.pow_succ] at hT1; omega
    have h3 : (D + 2) * f.binade ≤ (D0 + 1) * f.binade := Nat.mul_le_mul_right _ (by omega)
    rw [Nat.add_mul, Nat.add_mul, Nat.one_mul] at h3
    omega
  · have h2 : D = D0 := by omega
    have h3 := hT3 h2
    rw [h2]
    omega

theorem rung_value3 (f : Format) (s : Bool) (T D0 rung : Nat) (hT : f.binade ≤ T) (hr : rung ≤ D0 * f.binade + T) (hT2 : T < 2 * f.binade) (hi : rung < f.infRung) :
    ∃ m e, f.read (f.word s rung) = .number s m e ∧ f.leastPlace ≤ e ∧ m * 2 ^ (e - f.leastPlace).toNat ≤ T * 2 ^ D0 := by
  have hbp := bin_pos f
  rw [read_word f s rung (Nat.lt_trans hi f.infRung_lt)]
  by_cases h1 : rung < f.binade
  · rw [if_pos h1]
    refine ⟨_, _, rfl, Int.le_refl _, ?_⟩
    rw [show (f.leastPlace - f.leastPlace).toNat = 0 by omega, Nat.pow_zero, Nat.mul_one]
    have := Nat.mul_le_mul_left T (Nat.two_pow_pos D0)
    omega
  · rw [if_neg h1, if_pos hi]
    refine ⟨_, _, rfl, by omega, ?_⟩
    have hmod := Nat.mod_lt rung hbp
    have hdm := Nat.div_add_mod rung f.binade
    have he : (f.leastPlace + ((rung / f.binade - 1 : Nat) : Int) - f.leastPlace).toNat = rung / f.binade - 1 := by omega
    rw [he]
    have hq1 : 1 ≤ rung / f.binade := (Nat.one_le_div_iff hbp).2 (by omega)
    have hq : rung / f.binade ≤ D0 + 1 := by
      rw [Nat.div_le_iff_le_mul_add_pred hbp]
      rw [Nat.mul_add, Nat.mul_one, Nat.mul_comm f.binade]; omega
    rcases Nat.lt_or_ge (rung / f.binade) (D0 + 1) with h2 | h2
    · calc (f.binade + rung % f.binade) * 2 ^ (rung / f.binade - 1) ≤ (2 * f.binade) * 2 ^ (rung / f.binade - 1) := Nat.mul_le_mul_right _ (by omega)
        _ = f.binade * 2 ^ (rung / f.binade - 1 + 1) := by rw [Nat.pow_succ]; simp only [Nat.mul_assoc, Nat.mul_comm, Nat.mul_left_comm]
        _ ≤ T * 2 ^ D0 := Nat.mul_le_mul hT (Nat.pow_le_pow_right (by decide) (by omega))
    · have h3 : rung / f.binade = D0 + 1 := by omega
      rw [h3] at hdm
      rw [Nat.mul_add, Nat.mul_one, Nat.mul_comm f.binade] at hdm
      rw [h3]
      exact Nat.mul_le_mul (by omega) (Nat.le_refl _)

/-- 'the 64-bit number x is finite, and at most 3 * 2 ^ 126' -/
def Bd3 (x : Nat) : Prop := ∃ s m e, Ieee.double.read x = .number s m e ∧ (-1074 : Int) ≤ e ∧ ∃ E, E = 1200 ∧ m * 2 ^ (e + 1074).toNat ≤ 3 * 2 ^ E

theorem bd3_nearest (s : Bool) (mag : Nat) (place : Int) (j E : Nat) (hE : E = 1200) (hj : 0 ≤ place + 1074 + j) (h : mag * 2 ^ (place + 1074 + j).toNat ≤ 3 * 2 ^ (E + j)) : Bd3 (Ieee.double.nearest s mag place) := by
  have hb : Ieee.double.binade = 2 ^ 52 := rfl
  have hi : Ieee.double.infRung = 2047 * 2 ^ 52 := by decide
  have e0 : place - Ieee.double.leastPlace + j = place + 1074 + j := by rw [lp64]; omega
  obtain ⟨D, hD⟩ : ∃ D, D = 1149 := ⟨_, rfl⟩
  have eE : ∀ k, 3 * 2 ^ (E + k) = (3 * 2 ^ 51) * 2 ^ (D + k) := by
    intro k
    rw [Nat.mul_assoc, ← Nat.pow_add]
    congr 2
    omega
  obtain ⟨rung, h1, _, h3⟩ := nearest_le3 Ieee.double s mag place (3 * 2 ^ 51) D j (by rw [hb]; decide) (by rw [hb]; decide) (by rw [e0]; exact hj) (by rw [e0, ← eE]; exact h)
  rw [hb] at h1
  obtain ⟨m, e, g1, g2, g3⟩ := rung_value3 Ieee.double s (3 * 2 ^ 51) D rung (by rw [hb]; decide) (by rw [hb]; exact h1) (by rw [hb]; decide) (by rw [hi]; omega)
  rw [lp64] at g2 g3
  rw [h3]
  refine ⟨s, m, e, g1, g2, E, hE, ?_⟩
  have := eE 0
  rw [Nat.add_zero, Nat.add_zero] at this
  rw [this]
  simpa using g3
theorem narrow3_ok {x : Nat} (h : Bd3 x) : floatToFloatBits .f64 x .f32 = some (narrow x) ∧ nan32 (narrow x) = false := by
  obtain ⟨s, m, e, h1, h2, E, hE, h3⟩ := h
  have hlp : Ieee.single.leastPlace = -149 := lp32
  have hb : Ieee.single.binade = 2 ^ 23 := rfl
  have hi : Ieee.single.infRung = 255 * 2 ^ 23 := by decide
  obtain ⟨J, hJ⟩ : ∃ J, J = 925 := ⟨_, rfl⟩
  obtain ⟨D, hD⟩ : ∃ D, D = 253 := ⟨_, rfl⟩
  obtain ⟨rung, g1, _, g3⟩ := nearest_le3 Ieee.single s m e (3 * 2 ^ 22) D J (by rw [hb]; decide) (by rw [hb]; decide) (by rw [hlp]; omega) (by
    have e1 : (e - Ieee.single.leastPlace + (J : Nat)).toNat = (e + 1074).toNat := by rw [hlp]; omega
    rw [e1]
    refine Nat.le_trans h3 (Nat.le_of_eq ?_)
    rw [Nat.mul_assoc, ← Nat.pow_add]
    congr 2
    omega)
  rw [hb] at g1
  have hr : rung < Ieee.single.infRung := by rw [hi]; omega
  obtain ⟨m', e', k1, _, _⟩ := rung_value3 Ieee.single s (3 * 2 ^ 22) D rung (by rw [hb]; decide) (by rw [hb]; exact g1) (by rw [hb]; decide) hr
  have hn : narrow x = Ieee.single.word s rung := by
    unfold narrow; rw [h1]; exact g3
  refine ⟨?_, by unfold nan32; rw [hn, k1]; rfl⟩
  unfold floatToFloatBits
  rw [if_neg (by decide)]
  show (match Ieee.double.read x with | .nan _ _ => none | .infinity s => some (Ieee.single.write (.infinity s)) | .number s m e => if (Ieee.single.read (Ieee.single.write (.number s m e))).isInfinity then none else some (Ieee.single.write (.number s m e))) = some (narrow x)
  have hw : narrow x = Ieee.single.write (.number s m e) := by unfold narrow; rw [h1]
  rw [h1]
  simp only []
  rw [← hw, hn, k1]
  simp [Datum.isInfinity]

/-- the square root of a number that is at most 2 ^ 255, where there is one -/
theorem bd3_sqrt {x : Nat} (K : Nat) (hK : K = 1329) (hx : Bd x K) : (Ieee.double.sqrt x = none) ∨ ∃ r, Ieee.double.sqrt x = some r ∧ Bd3 r := by
  obtain ⟨s, m, i, h1, h2, h3⟩ := hx
  have h0 : Ieee.double.sqrt x = ((Datum.number s m i).root 54).map Ieee.double.write := by
    show ((Ieee.double.read x).root (52 + 2)).map Ieee.double.write = _
    rw [h1]
  rw [h0]
  simp only [Datum.root]
  obtain ⟨E, hE⟩ : ∃ E, E = 1200 := ⟨_, rfl⟩
  by_cases hm : m = 0
  · rw [if_pos hm]
    refine .inr ⟨_, rfl, ?_⟩
    show Bd3 (Ieee.double.nearest s m i)
    refine bd3_nearest s m i 0 E hE (by omega) ?_
    rw [hm]; simp
  · rw [if_neg hm]
    by_cases hs : s = true
    · rw [if_pos hs]; exact .inl rfl
    · rw [if_neg hs]
      refine .inr ⟨_, rfl, ?_⟩
      generalize hmore : 2 * 54 - m.log2 + ((i - ((2 * 54 - m.log2 : Nat) : Int)) % 2).toNat = more
      have heven : (i - (more : Int)) % 2 = 0 := by omega
      generalize hw : Datum.rootFrom (m <<< more) ((m <<< more).log2 / 2 + 1) 0 = whole
      have hsq : whole * whole ≤ m <<< more := by rw [← hw]; exact rootFrom_sq _ _ _ (Nat.zero_le _)
      show Bd3 (Ieee.double.nearest false (2 * whole + (whole * whole != m <<< more).toNat) ((i - more) / 2 - 1))
      have hst : (whole * whole != m <<< more).toNat ≤ 1 := by cases (whole * whole != m <<< more) <;> decide
      generalize (whole * whole != m <<< more).toNat = st at hst
      rw [shl_eq] at hsq
      have hlog : m.log2 + (i + 1074).toNat ≤ K := by
        apply pow_le_of
        rw [Nat.pow_add]
        exact Nat.le_trans (Nat.mul_le_mul_right _ (two_log_le m hm)) h3
      refine bd3_nearest _ _ _ (1074 + more) E hE (by omega) ?_
      generalize hF : ((i - (more : Int)) / 2 - 1 + 1074 + ((1074 + more : Nat) : Int)).toNat = F
      have hE2 : 2 * F + 2 = (i + 1074).toNat + more + (E + E + E + E) - 1578 := by omega
      rcases Nat.lt_or_ge whole 9 with h5 | h5
      · have h6 : 2 * whole + st ≤ 32 := by omega
        calc (2 * whole + st) * 2 ^ F ≤ 2 ^ 5 * 2 ^ F := Nat.mul_le_mul_right _ h6
          _ = 2 ^ (5 + F) := (Nat.pow_add ..).symm
          _ ≤ 2 ^ (E + (1074 + more)) := Nat.pow_le_pow_right (by decide) (by omega)
          _ ≤ 3 * 2 ^ (E + (1074 + more)) := by omega
      · apply sq_le_sq
        have h6 : 8 * ((2 * whole + st) * (2 * whole + st)) ≤ 36 * (whole * whole) := by
          have : 2 * whole + st ≤ 2 * whole + 1 := by omega
          refine Nat.le_trans (Nat.mul_le_mul_left 8 (Nat.mul_le_mul this this)) ?_
          have e : (2 * whole + 1) * (2 * whole + 1) = 4 * (whole * whole) + 4 * whole + 1 := by
            have h7 := Nat.mul_mul_mul_comm 2 whole 2 whole
            rw [Nat.add_mul, Nat.mul_add, Nat.one_mul, Nat.mul_one, h7]
            omega
          rw [e]
          have h9 := Nat.mul_le_mul_right whole h5
          omega
        generalize 2 * whole + st = B at h6
        generalize hG : E + (1074 + more) = G
        refine Nat.le_of_mul_le_mul_right ?_ (show 0 < 32 by decide)
        have eA : ∀ v u : Nat, v * u * 32 = 8 * v * (u * 2 ^ 2) := by
          intro v u
          rw [Nat.mul_comm 8 v, Nat.mul_assoc v 8, ← Nat.mul_assoc 8, Nat.mul_comm 8 u, Nat.mul_assoc u 8, ← Nat.mul_assoc]
        have eB : ∀ u : Nat, 3 * u * (3 * u) * 32 = 36 * (u * u * 2 ^ 3) := by
          intro u
          rw [Nat.mul_mul_mul_comm 3 u 3 u]
          generalize u * u = v
          omega
        calc B * 2 ^ F * (B * 2 ^ F) * 32 = 8 * (B * B) * 2 ^ (2 * F + 2) := by
              rw [Nat.mul_mul_mul_comm, ← Nat.pow_add, eA, ← Nat.pow_add, show F + F + 2 = 2 * F + 2 by omega]
          _ ≤ 36 * (whole * whole) * 2 ^ (2 * F + 2) := Nat.mul_le_mul_right _ h6
          _ ≤ 36 * (m * 2 ^ more) * 2 ^ (2 * F + 2) := Nat.mul_le_mul_right _ (Nat.mul_le_mul_left _ hsq)
          _ = 36 * ((m * 2 ^ (i + 1074).toNat) * 2 ^ (more + more + (E + E + E + E - 1578))) := by
              rw [hE2, show (i + 1074).toNat + more + (E + E + E + E) - 1578 = (i + 1074).toNat + (more + (E + E + E + E - 1578)) by omega, Nat.pow_add, Nat.add_assoc more more, Nat.pow_add 2 more (more + _)]
              simp only [Nat.mul_assoc, Nat.mul_left_comm]
          _ ≤ 36 * (2 ^ K * 2 ^ (more + more + (E + E + E + E - 1578))) := Nat.mul_le_mul_left _ (Nat.mul_le_mul_right _ h3)
          _ = 36 * (2 ^ G * 2 ^ G * 2 ^ 3) := by
              rw [← Nat.pow_add, ← Nat.pow_add, ← Nat.pow_add, show K + (more + more + (E + E + E + E - 1578)) = G + G + 3 by omega]
          _ = 3 * 2 ^ G * (3 * 2 ^ G) * 32 := (eB _).symm
end Fl
end Go.Proofs.YtjcjijfemedojaaGreatDoor

namespace Go.Proofs.YtjcjijfemedojaaGreatDoor
open Go.RowKit Fl
open Ieee (Datum)

theorem not_nan_cases {x : Nat} (h : nan32 x = false) : (∃ s m e, Ieee.single.read x = .number s m e) ∨ ∃ s, Ieee.single.read x = .infinity s := by
  unfold nan32 at h
  cases hx : Ieee.single.read x with
  | number s m e => exact .inl ⟨s, m, e, rfl⟩
  | infinity s => exact .inr ⟨s, rfl⟩
  | nan s t => simp [hx, Datum.isNaN] at h
theorem fin32_of {x : Nat} {s : Bool} {m : Nat} {e : Int} (h : Ieee.single.read x = .number s m e) : fin32 x = true := by
  simp [fin32, nan32, inf32, h, Datum.isNaN, Datum.isInfinity]
theorem fin_not_nan {x : Nat} (h : fin32 x = true) : nan32 x = false := by
  simp only [fin32, Bool.and_eq_true, Bool.not_eq_true'] at h; exact h.1
/-- sums and differences of two finite numbers -/
theorem fin_sum {a b : Nat} (ha : fin32 a = true) (hb : fin32 b = true) : ∃ r, floatBits .add .f32 a b = some r ∧ nan32 r = false := by
  obtain ⟨s, m, e, h1⟩ := fin32_number ha
  obtain ⟨t, n, f, h2⟩ := fin32_number hb
  have h : ∃ r, floatBits .add .f32 a b = some r := by
    show ∃ r, ((Ieee.single.read a).sum (Ieee.single.read b)).map Ieee.single.write = some r
    rw [h1, h2]; exact ⟨_, rfl⟩
  obtain ⟨r, h⟩ := h
  exact ⟨r, h, add32_not_nan h⟩
theorem sub32_not_nan {x y r : Nat} (h : floatBits .sub .f32 x y = some r) : nan32 r = false :=
  map_write_not_nan Ieee.single (by decide) (d := (Ieee.single.read x).sum (Ieee.single.read y).opposite) h (fun _ hd => sum_not_nan _ _ _ hd)
theorem fin_sub {a b : Nat} (ha : fin32 a = true) (hb : fin32 b = true) : ∃ r, floatBits .sub .f32 a b = some r ∧ nan32 r = false := by
  obtain ⟨s, m, e, h1⟩ := fin32_number ha
  obtain ⟨t, n, f, h2⟩ := fin32_number hb
  have h : ∃ r, floatBits .sub .f32 a b = some r := by
    show ∃ r, ((Ieee.single.read a).sum (Ieee.single.read b).opposite).map Ieee.single.write = some r
    rw [h1, h2]; exact ⟨_, rfl⟩
  obtain ⟨r, h⟩ := h
  exact ⟨r, h, sub32_not_nan h⟩
/-- at most 2 ^ 127, or infinite -/
def Part (x : Nat) : Prop := nan32 x = false ∧ (Bd (wide x) 1201 ∨ ∃ s, Ieee.single.read x = .infinity s)
theorem read_half : Ieee.single.read 1056964608 = .number false 8388608 (-24) := by decide
/-- half of a number -/
theorem half_part {x : Nat} (h : nan32 x = false) : ∃ r, floatBits .mul .f32 1056964608 x = some r ∧ Part r := by
  have h0 : floatBits .mul .f32 1056964608 x = ((Datum.number false 8388608 (-24)).product (Ieee.single.read x)).map Ieee.single.write := by
    show ((Ieee.single.read 1056964608).product (Ieee.single.read x)).map Ieee.single.write = _
    rw [read_half]
  rcases not_nan_cases h with ⟨s, m, e, hx⟩ | ⟨s, hx⟩
  · obtain ⟨_, h2, h3, h4⟩ := read_number _ (by decide) x s m e hx
    rw [lp32] at h2 h3
    have h3' : (e - -149).toNat + 3 ≤ 256 := h3
    have h4' : m < 2 ^ 24 := h4
    rw [hx] at h0
    refine ⟨_, h0, ?_⟩
    have hfb : Ieee.single.fractionBits = 23 := rfl
    have hb : Ieee.single.binade = 2 ^ 23 := rfl
    have hi : Ieee.single.infRung = 255 * 2 ^ 23 := by decide
    obtain ⟨K, hK⟩ : ∃ K, K = 276 := ⟨_, rfl⟩
    obtain ⟨J, hJ⟩ : ∃ J, J = 24 := ⟨_, rfl⟩
    obtain ⟨rung, g1, _, g3⟩ := nearest_le Ieee.single (false ^^ s) (8388608 * m) (-24 + e) K J (by rw [hfb]; omega) (by rw [lp32]; omega) (by
      have e1 : (-24 + e - Ieee.single.leastPlace + (J : Nat)).toNat = (e + 149).toNat := by rw [lp32]; omega
      rw [e1]
      calc 8388608 * m * 2 ^ (e + 149).toNat ≤ 2 ^ 23 * 2 ^ 24 * 2 ^ (e + 149).toNat := Nat.mul_le_mul_right _ (Nat.mul_le_mul (Nat.le_refl _) (Nat.le_of_lt h4'))
        _ = 2 ^ (23 + 24 + (e + 149).toNat) := by rw [← Nat.pow_add, ← Nat.pow_add]
        _ ≤ 2 ^ (K + J) := Nat.pow_le_pow_right (by decide) (by omega))
    rw [hfb, hb] at g1
    have hr : rung < Ieee.single.infRung := by
      rw [hi]
      have : (K - 23 + 1) * 2 ^ 23 ≤ 254 * 2 ^ 23 := Nat.mul_le_mul_right _ (by omega)
      omega
    obtain ⟨m', e', k1, k2, k3⟩ := rung_value Ieee.single (false ^^ s) K rung (by rw [hfb]; omega) (by rw [hfb, hb]; exact g1) hr
    rw [lp32] at k2 k3
    have hrd : Ieee.single.read (Ieee.single.nearest (false ^^ s) (8388608 * m) (-24 + e)) = .number (false ^^ s) m' e' := by rw [g3]; exact k1
    show Part (Ieee.single.nearest (false ^^ s) (8388608 * m) (-24 + e))
    refine ⟨by unfold nan32; rw [hrd]; rfl, .inl ?_⟩
    obtain ⟨m2, e2, q1, q2, q3⟩ := read_wide_number _ _ m' e' hrd
    refine ⟨_, m2, e2, q1, q2, ?_⟩
    rw [← shl_eq, q3, shl_eq]
    have e3 : (e' + 1074).toNat = (e' - -149).toNat + 925 := by omega
    obtain ⟨Z, hZ⟩ : ∃ Z, Z = 925 := ⟨_, rfl⟩
    obtain ⟨Y, hY⟩ : ∃ Y, Y = 1201 := ⟨_, rfl⟩
    rw [e3, ← hZ, ← hY, Nat.pow_add, ← Nat.mul_assoc]
    refine Nat.le_trans (Nat.mul_le_mul_right _ k3) ?_
    rw [← Nat.pow_add]
    exact Nat.pow_le_pow_right (by decide) (by omega)
  · rw [hx] at h0
    cases s
    · exact ⟨_, h0, by decide, .inr ⟨false, by decide⟩⟩
    · exact ⟨_, h0, by decide, .inr ⟨true, by decide⟩⟩

theorem inf_sq {x : Nat} {s : Bool} (h : Ieee.single.read x = .infinity s) : floatBits .mul .f64 (wide x) (wide x) = some 9218868437227405312 := by
  have hw := read_wide_inf x s h
  show ((Ieee.double.read (wide x)).product (Ieee.double.read (wide x))).map Ieee.double.write = _
  rw [hw]
  cases s <;> decide
theorem read_inf64 : Ieee.double.read 9218868437227405312 = .infinity false := by decide
theorem write_inf64 : Ieee.double.write (.infinity false) = 9218868437227405312 := by decide
theorem inf_add_bd {y K : Nat} (h : Bd y K) : floatBits .add .f64 9218868437227405312 y = some 9218868437227405312 := by
  obtain ⟨t, n, f, h2, _⟩ := h
  show ((Ieee.double.read 9218868437227405312).sum (Ieee.double.read y)).map Ieee.double.write = _
  rw [read_inf64, h2]
  simp [Datum.sum, write_inf64]
theorem bd_add_inf {y K : Nat} (h : Bd y K) : floatBits .add .f64 y 9218868437227405312 = some 9218868437227405312 := by
  obtain ⟨t, n, f, h2, _⟩ := h
  show ((Ieee.double.read y).sum (Ieee.double.read 9218868437227405312)).map Ieee.double.write = _
  rw [read_inf64, h2]
  simp [Datum.sum, write_inf64]
theorem inf_add_inf : floatBits .add .f64 9218868437227405312 9218868437227405312 = some 9218868437227405312 := by decide
theorem sqrt_inf : Ieee.double.sqrt 9218868437227405312 = some 9218868437227405312 := by decide
theorem narrow_inf : floatToFloatBits .f64 9218868437227405312 .f32 = some 2139095040 := by decide

/-- the words of a power, and what its root is narrowed to -/
structure LongW (x y p q s : Nat) (o : Option Nat) : Prop where
  hp : floatBits .mul .f64 (wide x) (wide x) = some p
  hq : floatBits .mul .f64 (wide y) (wide y) = some q
  hs : floatBits .add .f64 p q = some s
  ho : (Ieee.double.sqrt s = none ∧ o = none) ∨ ∃ r v, Ieee.double.sqrt s = some r ∧ floatToFloatBits .f64 r .f32 = some v ∧ o = some v ∧ nan32 v = false
theorem long_words {x y : Nat} (hx : Part x) (hy : Part y) : ∃ p q s o, LongW x y p q s o := by
  obtain ⟨_, hx⟩ := hx
  obtain ⟨_, hy⟩ := hy
  have big : (Ieee.double.sqrt 9218868437227405312 = none ∧ some 2139095040 = none) ∨ ∃ r v, Ieee.double.sqrt 9218868437227405312 = some r ∧ floatToFloatBits .f64 r .f32 = some v ∧ some 2139095040 = some v ∧ nan32 v = false :=
    .inr ⟨_, _, sqrt_inf, narrow_inf, rfl, by decide⟩
  rcases hx with hx | ⟨s, hx⟩
  · obtain ⟨p, hp, bp⟩ := bd_mul 1328 hx hx (by omega) (by omega) (by omega)
    rcases hy with hy | ⟨t, hy⟩
    · obtain ⟨q, hq, bq⟩ := bd_mul 1328 hy hy (by omega) (by omega) (by omega)
      obtain ⟨s, hs, bs⟩ := bd_add bp bq (by omega) (by omega)
      rcases bd3_sqrt 1329 rfl bs with h | ⟨r, h, b3⟩
      · exact ⟨p, q, s, none, hp, hq, hs, .inl ⟨h, rfl⟩⟩
      · exact ⟨p, q, s, some (narrow r), hp, hq, hs, .inr ⟨r, _, h, (narrow3_ok b3).1, rfl, (narrow3_ok b3).2⟩⟩
    · exact ⟨p, _, _, _, hp, inf_sq hy, bd_add_inf bp, big⟩
  · rcases hy with hy | ⟨t, hy⟩
    · obtain ⟨q, hq, bq⟩ := bd_mul 1328 hy hy (by omega) (by omega) (by omega)
      exact ⟨_, q, _, _, inf_sq hx, hq, inf_add_bd bq, big⟩
    · exact ⟨_, _, _, _, inf_sq hx, inf_sq hy, inf_add_inf, big⟩

set_option maxHeartbeats 1600000 in
theorem longOf_w (a b p q s : Nat) (o : Option Nat) (w : World) (ha : nan32 a = false) (hb : nan32 b = false) (h : LongW a b p q s o) :
    Calls Tryz.prog 10 #[.complex .f32 a b] w fun e w' => (∃ v, e = .returned (.float .f32 v) ∧ Rep v o) ∧ Quiet w w' := by
  have HL : Hid (∀ w, Calls Tryz.prog 31 #[.complex .f32 a b] w fun e w' => e = .returned (.float .f64 s) ∧ w = w') := by
    intro w
    have c1 := fun w => run_convert_float_float (P := Tryz.prog) w 28 46 .f32 .f64 a (wide a) (by kernel_rfl) Tryz.underlying46 (wide_conv a ha)
    have c2 := fun w => run_convert_float_float (P := Tryz.prog) w 28 46 .f32 .f64 b (wide b) (by kernel_rfl) Tryz.underlying46 (wide_conv b hb)
    have e1 := fun w => run_float_arith (P := Tryz.prog) w .mul 46 .f64 _ _ _ h.hp
    have e2 := fun w => run_float_arith (P := Tryz.prog) w .mul 46 .f64 _ _ _ h.hq
    have e5 := fun w => run_float_arith (P := Tryz.prog) w .add 46 .f64 _ _ _ h.hs
    clear h ha hb
    go_enter Tryz.func31, Tryz.ntmps31
    go_wp2
    go_ret
    exact ⟨rfl, rfl⟩
  rcases h.ho with ⟨h1, rfl⟩ | ⟨r, v, h1, h2, rfl, h3⟩
  · have HQ := Lib.hid fun w => sqrt_none s w h1
    have HN := Lib.hid fun y w hy => narrowNumber_nan y w hy
    clear h ha hb h1
    go_enter Tryz.func10, Tryz.ntmps10
    go_wp2_with (first | (go_at_call 31; (with_reducible refine (HL.out _).mono ?_); rintro e w' ⟨rfl, rfl⟩) | (go_at_call 33; (with_reducible refine (HQ.out _).mono ?_); rintro e w1 ⟨⟨y, rfl, hy⟩, m1, rfl⟩; have HY := Lib.hid hy; clear hy) | (go_at_call 30; (with_reducible refine (HN.out _ _ HY.out).mono ?_); rintro e w2 ⟨⟨z, rfl, hz⟩, m2, rfl⟩; have HZ := Lib.hid hz; clear hz))
    go_ret
    exact ⟨⟨_, rfl, HZ.out⟩, _, rfl⟩
  · have HQ := Lib.hid fun w => sqrt_some s r w h1
    have HN := Lib.hid fun w => narrowNumber_ok r v w h2
    clear h ha hb h1 h2
    go_enter Tryz.func10, Tryz.ntmps10
    go_wp2_with (first | (go_at_call 31; (with_reducible refine (HL.out _).mono ?_); rintro e w' ⟨rfl, rfl⟩) | (go_at_call 33; (with_reducible refine (HQ.out _).mono ?_); rintro e w' ⟨rfl, rfl⟩) | (go_at_call 30; (with_reducible refine (HN.out _).mono ?_); rintro e w' ⟨rfl, rfl⟩))
    go_ret
    exact ⟨⟨_, rfl, rfl, h3⟩, Quiet.refl _⟩
end Go.Proofs.YtjcjijfemedojaaGreatDoor
