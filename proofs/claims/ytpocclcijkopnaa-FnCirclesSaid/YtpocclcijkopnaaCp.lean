/- Sines, phasors and angles as words that can be worked out, and the program's answers by them. -/
import Derived.Test.YtpocclcijkopnaaPhas
import Derived.Test.YtpocclcijkopnaaAngt
namespace Go.Proofs.Ytpocclcijkopnaa
open Go.RowKit Fl

def partF (y : Nat) : Option Nat :=
  (floatToIntVal .f64 y .i64).bind fun n => (floatBits .sub .f64 y (floatOfInt .f64 n)).bind fun f0 =>
    if (FloatKind.f64.format.order f0 0 == some .lt) then floatBits .add .f64 f0 4607182418800017408 else some f0
def sinStepF (u p k : Nat) : Option Nat := (floatBits .mul .f64 u p).bind fun a => (floatBits .quo .f64 a (den k)).bind fun b => floatBits .sub .f64 4607182418800017408 b
def sinL (u : Nat) : Nat → Nat → Option Nat
  | 0, p => some p
  | k + 1, p => (sinStepF u p (k + 1)).bind fun p' => sinL u k p'
def sinTail (b2 : Bool) (f3 : Nat) : Option Nat :=
  (floatBits .mul .f64 f3 4618760256179416344).bind fun z => (floatBits .mul .f64 z z).bind fun u => (sinL u 8 4607182418800017408).bind fun p0 =>
    (floatBits .mul .f64 z p0).bind fun q => some (if b2 then Op.negFloat .f64 q else q)
def sinB (f1 : Nat) : Option Nat :=
  (if (FloatKind.f64.format.order f1 4602678819172646912 == some .gt || FloatKind.f64.format.order f1 4602678819172646912 == some .eq) then floatBits .sub .f64 f1 4602678819172646912 else some f1).bind fun f2 =>
    (if (FloatKind.f64.format.order f2 4598175219545276416 == some .gt) then floatBits .sub .f64 4602678819172646912 f2 else some f2).bind fun f3 =>
      sinTail (FloatKind.f64.format.order f1 4602678819172646912 == some .gt || FloatKind.f64.format.order f1 4602678819172646912 == some .eq) f3
def sinF (y : Nat) : Option Nat := (partF y).bind sinB

theorem sinL_rel (u : Nat) : ∀ (n p r : Nat), sinL u n p = some r → ∃ P : Nat → Nat, P n = p ∧ P 0 = r ∧ ∀ k, 1 ≤ k → k ≤ n → SinStep u (P k) k (P (k - 1))
  | 0, p, r, h => ⟨fun _ => p, rfl, by simpa [sinL] using h, fun k h1 h2 => by omega⟩
  | n + 1, p, r, h => by
    unfold sinL at h
    obtain ⟨p', h1, h2⟩ := Option.bind_eq_some_iff.1 h
    obtain ⟨P, hp, hr, hs⟩ := sinL_rel u n p' r h2
    refine ⟨fun k => if k ≤ n then P k else p, if_neg (by omega), by simpa using hr, fun k k1 k2 => ?_⟩
    unfold sinStepF at h1
    by_cases hk : k ≤ n
    · have := hs k k1 hk
      simp only [hk, if_true]
      rw [if_pos (by omega)]
      exact this
    · obtain rfl : k = n + 1 := by omega
      obtain ⟨a, ha, h3⟩ := Option.bind_eq_some_iff.1 h1
      obtain ⟨b, hb, h4⟩ := Option.bind_eq_some_iff.1 h3
      simp only [Nat.add_sub_cancel, Nat.le_refl, if_true, hp]
      rw [if_neg hk]
      exact ⟨a, b, ha, hb, h4⟩
theorem partF_of (y f1 : Nat) (h : partF y = some f1) (w : World) : Calls Try.prog 115 #[.float .f64 y] w fun e w' => e = .returned (.float .f64 f1) ∧ w = w' := by
  unfold partF at h
  obtain ⟨n, hn, h⟩ := Option.bind_eq_some_iff.1 h
  obtain ⟨f0, h0, h⟩ := Option.bind_eq_some_iff.1 h
  refine partOfTurn_of y f0 f1 n (FloatKind.f64.format.order f0 0 == some .lt) w hn h0 rfl ?_
  cases hb : (FloatKind.f64.format.order f0 0 == some .lt)
  · rw [hb] at h; simpa using h.symm
  · rw [hb] at h; simpa using h
theorem sinF_of (y r : Nat) (h : sinF y = some r) (w : World) : Calls Try.prog 116 #[.float .f64 y] w fun e w' => e = .returned (.float .f64 r) ∧ w = w' := by
  obtain ⟨f1, h1, h⟩ := Option.bind_eq_some_iff.1 h
  unfold sinB at h
  obtain ⟨f2, h2, h⟩ := Option.bind_eq_some_iff.1 h
  obtain ⟨f3, h3, h⟩ := Option.bind_eq_some_iff.1 h
  unfold sinTail at h
  obtain ⟨z, hz, h⟩ := Option.bind_eq_some_iff.1 h
  obtain ⟨u, hu, h⟩ := Option.bind_eq_some_iff.1 h
  obtain ⟨p0, hp0, h⟩ := Option.bind_eq_some_iff.1 h
  obtain ⟨q, hq, h⟩ := Option.bind_eq_some_iff.1 h
  obtain ⟨P, hP, hP0, hs⟩ := sinL_rel u 8 _ _ hp0
  refine sineLong_of y r f1 w (fun w => partF_of y f1 h1 w) ⟨f2, f3, z, u, q, P, _, _, rfl, ?_, rfl, ?_, hz, hu, hP, hs, by rw [hP0]; exact hq, ?_⟩
  · cases hb : (FloatKind.f64.format.order f1 4602678819172646912 == some .gt || FloatKind.f64.format.order f1 4602678819172646912 == some .eq)
    · rw [hb] at h2; simpa using h2.symm
    · rw [hb] at h2; simpa using h2
  · cases hb : (FloatKind.f64.format.order f2 4598175219545276416 == some .gt)
    · rw [hb] at h3; simpa using h3.symm
    · rw [hb] at h3; simpa using h3
  · exact (Option.some.inj h).symm

/-- whole quarters taken off, at most four -/
def quartF : Nat → Nat → Nat → Option (Nat × Nat)
  | 0, _, _ => none
  | fuel + 1, q, g =>
    if (FloatKind.f64.format.order g 4598175219545276416 == some .gt || FloatKind.f64.format.order g 4598175219545276416 == some .eq) then (floatBits .sub .f64 g 4598175219545276416).bind fun g' => quartF fuel (q + 1) g' else some (q, g)
theorem quartF_rel : ∀ (fuel q g q' g' : Nat), quartF fuel q g = some (q', g') → ∃ G : Nat → Nat, q ≤ q' ∧ q' < q + fuel ∧ G q = g ∧ G q' = g' ∧
    (∀ j, q ≤ j → j < q' → (FloatKind.f64.format.order (G j) 4598175219545276416 == some .gt || FloatKind.f64.format.order (G j) 4598175219545276416 == some .eq) = true ∧ floatBits .sub .f64 (G j) 4598175219545276416 = some (G (j + 1))) ∧
    (FloatKind.f64.format.order (G q') 4598175219545276416 == some .gt || FloatKind.f64.format.order (G q') 4598175219545276416 == some .eq) = false
  | 0, q, g, q', g', h => by simp [quartF] at h
  | fuel + 1, q, g, q', g', h => by
    unfold quartF at h
    cases hc : (FloatKind.f64.format.order g 4598175219545276416 == some .gt || FloatKind.f64.format.order g 4598175219545276416 == some .eq)
    · rw [hc] at h
      simp at h
      obtain ⟨rfl, rfl⟩ := h
      exact ⟨fun _ => g, Nat.le_refl _, by omega, rfl, rfl, fun j h1 h2 => by omega, hc⟩
    · rw [hc] at h
      simp only [if_true] at h
      obtain ⟨g1, h1, h2⟩ := Option.bind_eq_some_iff.1 h
      obtain ⟨G, a1, a2, a3, a4, a5, a6⟩ := quartF_rel fuel (q + 1) g1 q' g' h2
      refine ⟨fun j => if j ≤ q then g else G j, by omega, by omega, by simp, by simp only []; rw [if_neg (by omega)]; exact a4, fun j k1 k2 => ?_, by simp only []; rw [if_neg (by omega)]; exact a6⟩
      by_cases hj : j = q
      · subst hj
        simp only [Nat.le_refl, if_true]
        rw [if_neg (by omega), a3]
        exact ⟨hc, h1⟩
      · simp only []
        rw [if_neg (by omega), if_neg (by omega)]
        exact a5 j (by omega) k2
def endF (q c s : Nat) : Option (Nat × Nat) :=
  match q with
  | 1 => (floatBits .sub .f64 0 s).bind fun re => some (re, c)
  | 2 => (floatBits .sub .f64 0 c).bind fun re => (floatBits .sub .f64 0 s).bind fun im => some (re, im)
  | 3 => (floatBits .sub .f64 0 c).bind fun im => some (s, im)
  | _ => some (c, s)
def phF (y : Nat) : Option (Nat × Nat) :=
  (partF y).bind fun f1 => (quartF 5 0 f1).bind fun qg => (floatBits .sub .f64 4598175219545276416 qg.2).bind fun d => (sinF d).bind fun c => (sinF qg.2).bind fun s =>
    (endF qg.1 c s).bind fun e => (floatToFloatBits .f64 e.1 .f32).bind fun R => (floatToFloatBits .f64 e.2 .f32).bind fun I => some (R, I)
def plainF (y : Nat) : Bool := decide (y < 18446744073709551616) && fin64 y && !(FloatKind.f64.format.order (y % 2 ^ 63) 4841369599423283200 == some .gt || FloatKind.f64.format.order (y % 2 ^ 63) 4841369599423283200 == some .eq)
theorem phF_of (y : Nat) (r : Nat × Nat) (hp : plainF y = true) (h : phF y = some r) (w : World) : Calls Try.prog 41 #[.float .f64 y] w fun e w' => e = .returned (.complex .f32 r.1 r.2) ∧ w = w' := by
  unfold plainF at hp
  simp only [Bool.and_eq_true, decide_eq_true_eq, Bool.not_eq_true'] at hp
  obtain ⟨⟨hy, hf⟩, hw⟩ := hp
  obtain ⟨f1, h1, h⟩ := Option.bind_eq_some_iff.1 h
  obtain ⟨⟨q, g⟩, h2, h⟩ := Option.bind_eq_some_iff.1 h
  obtain ⟨d, hd, h⟩ := Option.bind_eq_some_iff.1 h
  obtain ⟨c, hc, h⟩ := Option.bind_eq_some_iff.1 h
  obtain ⟨s, hs, h⟩ := Option.bind_eq_some_iff.1 h
  obtain ⟨⟨re, im⟩, he, h⟩ := Option.bind_eq_some_iff.1 h
  obtain ⟨R, hR, h⟩ := Option.bind_eq_some_iff.1 h
  obtain ⟨I, hI, h⟩ := Option.bind_eq_some_iff.1 h
  obtain rfl := Option.some.inj h
  obtain ⟨G, a1, a2, a3, a4, a5, a6⟩ := quartF_rel 5 0 f1 q g h2
  dsimp only at hd hs hR hI he ⊢
  subst a4
  have hE : PEnd q c s re im := by
    have : q = 0 ∨ q = 1 ∨ q = 2 ∨ q = 3 ∨ q = 4 := by omega
    rcases this with rfl | rfl | rfl | rfl | rfl
    · simp [endF] at he; obtain ⟨rfl, rfl⟩ := he; exact .inr (.inr (.inr ⟨.inl rfl, rfl, rfl⟩))
    · obtain ⟨x, hx, he⟩ := Option.bind_eq_some_iff.1 he
      simp at he; obtain ⟨rfl, rfl⟩ := he
      exact .inl ⟨rfl, hx, rfl⟩
    · obtain ⟨x, hx, he⟩ := Option.bind_eq_some_iff.1 he
      obtain ⟨x', hx', he⟩ := Option.bind_eq_some_iff.1 he
      simp at he; obtain ⟨rfl, rfl⟩ := he
      exact .inr (.inl ⟨rfl, hx, hx'⟩)
    · obtain ⟨x, hx, he⟩ := Option.bind_eq_some_iff.1 he
      simp at he; obtain ⟨rfl, rfl⟩ := he
      exact .inr (.inr (.inl ⟨rfl, rfl, hx⟩))
    · simp [endF] at he; obtain ⟨rfl, rfl⟩ := he; exact .inr (.inr (.inr ⟨.inr rfl, rfl, rfl⟩))
  exact phasorOf_of y f1 q d c s re im R I G w hy hf (fun w => isWhole_any y w false hy hw) (fun w => partF_of y f1 h1 w) ⟨by omega, a3, fun j hj => a5 j (Nat.zero_le _) hj, a6⟩ hd
    (fun w => sinF_of d c hc w) (fun w => sinF_of (G q) s hs w) hE (fun w => narrowComplex_ok re im R I w hR hI)
end Go.Proofs.Ytpocclcijkopnaa
