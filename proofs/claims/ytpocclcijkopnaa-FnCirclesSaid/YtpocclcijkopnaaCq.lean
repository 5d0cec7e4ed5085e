/- Angles, products, powers and gaps as words that can be worked out. -/
import Derived.Test.YtpocclcijkopnaaCp
namespace Go.Proofs.Ytpocclcijkopnaa
open Go.RowKit Fl

def halfF (t : Nat) : Option Nat := (floatBits .mul .f64 t t).bind fun a => (floatBits .add .f64 4607182418800017408 a).bind fun b => (Ieee.double.sqrt b).bind fun c => (floatBits .add .f64 4607182418800017408 c).bind fun d => floatBits .quo .f64 t d
theorem halfF_rel {t r : Nat} (h : halfF t = some r) : HalfStep t r := by
  obtain ⟨a, h1, h⟩ := Option.bind_eq_some_iff.1 h
  obtain ⟨b, h2, h⟩ := Option.bind_eq_some_iff.1 h
  obtain ⟨c, h3, h⟩ := Option.bind_eq_some_iff.1 h
  obtain ⟨d, h4, h⟩ := Option.bind_eq_some_iff.1 h
  exact ⟨a, b, c, d, h1, h2, h3, h4, h⟩
def arcStepF (u p k : Nat) : Option Nat := (floatBits .quo .f64 4607182418800017408 (floatOfInt .f64 k)).bind fun a => (floatBits .mul .f64 u p).bind fun b => floatBits .sub .f64 a b
def arcL (u : Nat) : Nat → Nat → Option Nat
  | 0, p => some p
  | k + 1, p => (arcStepF u p (2 * (k + 1) - 1)).bind fun p' => arcL u k p'
theorem arcL_rel (u : Nat) : ∀ (n p r : Nat), arcL u n p = some r → ∃ P : Nat → Nat, P n = p ∧ P 0 = r ∧ ∀ j, 1 ≤ j → j ≤ n → ArcStep u (P j) (2 * j - 1) (P (j - 1))
  | 0, p, r, h => ⟨fun _ => p, rfl, by simpa [arcL] using h, fun k h1 h2 => by omega⟩
  | n + 1, p, r, h => by
    unfold arcL at h
    obtain ⟨p', h1, h2⟩ := Option.bind_eq_some_iff.1 h
    obtain ⟨P, hp, hr, hs⟩ := arcL_rel u n p' r h2
    refine ⟨fun k => if k ≤ n then P k else p, if_neg (by omega), by simpa using hr, fun k k1 k2 => ?_⟩
    unfold arcStepF at h1
    by_cases hk : k ≤ n
    · have := hs k k1 hk
      simp only [hk, if_true]
      rw [if_pos (by omega)]
      exact this
    · obtain rfl : k = n + 1 := by omega
      obtain ⟨a, ha, h3⟩ := Option.bind_eq_some_iff.1 h1
      obtain ⟨b, hb, h4⟩ := Option.bind_eq_some_iff.1 h3
      simp only [Nat.add_sub_cancel, Nat.le_refl, if_true, hp]
      rw [if_neg hk]
      exact ⟨a, b, ha, hb, h4⟩
def arcF (t0 : Nat) : Option Nat := (halfF t0).bind fun t1 => (halfF t1).bind fun t2 => (halfF t2).bind fun t3 => (floatBits .mul .f64 t3 t3).bind fun u => (arcL u 8 0).bind fun p0 =>
  (floatBits .mul .f64 t3 p0).bind fun a => (floatBits .mul .f64 4620693217682128896 a).bind fun b => floatBits .quo .f64 b 4618760256179416344
theorem arcF_rel {t0 r : Nat} (h : arcF t0 = some r) : ArcRel t0 r := by
  obtain ⟨t1, h1, h⟩ := Option.bind_eq_some_iff.1 h
  obtain ⟨t2, h2, h⟩ := Option.bind_eq_some_iff.1 h
  obtain ⟨t3, h3, h⟩ := Option.bind_eq_some_iff.1 h
  obtain ⟨u, hu, h⟩ := Option.bind_eq_some_iff.1 h
  obtain ⟨p0, hp, h⟩ := Option.bind_eq_some_iff.1 h
  obtain ⟨a, ha, h⟩ := Option.bind_eq_some_iff.1 h
  obtain ⟨b, hb, h⟩ := Option.bind_eq_some_iff.1 h
  obtain ⟨P, hP, hP0, hs⟩ := arcL_rel u 8 0 p0 hp
  refine ⟨fun k => match k with | 0 => t0 | 1 => t1 | 2 => t2 | 3 => t3 | _ => 0, P, u, a, b, rfl, ?_, hu, hP, hs, by rw [hP0]; exact ha, hb, h⟩
  intro j hj
  have : j = 0 ∨ j = 1 ∨ j = 2 := by omega
  rcases this with rfl | rfl | rfl
  · exact halfF_rel h1
  · exact halfF_rel h2
  · exact halfF_rel h3
def angEndF (over sx sy : Bool) (arc : Nat) : Option Nat := (if over then floatBits .sub .f64 4598175219545276416 arc else some arc).bind fun g1 => (if sx then floatBits .sub .f64 4602678819172646912 g1 else some g1).bind fun g2 => some (if sy then Op.negFloat .f64 g2 else g2)
theorem angEndF_rel {over sx sy : Bool} {arc r : Nat} (h : angEndF over sx sy arc = some r) : AngEnd over sx sy arc r := by
  obtain ⟨g1, h1, h⟩ := Option.bind_eq_some_iff.1 h
  obtain ⟨g2, h2, h⟩ := Option.bind_eq_some_iff.1 h
  refine ⟨g1, g2, ?_, ?_, (Option.some.inj h).symm⟩
  · cases over
    · simpa using h1.symm
    · simpa using h1
  · cases sx
    · simpa using h2.symm
    · simpa using h2
def gtF (a b : Nat) : Bool := FloatKind.f64.format.order a b == some .gt
/-- the angle of a point whose parts are finite and not both 0, none a zero with another's sign -/
def angF (y x : Nat) : Option Nat :=
  (arcF' (wide y % 2 ^ 63) (wide x % 2 ^ 63)).bind fun arc => (angEndF (gtF (wide y % 2 ^ 63) (wide x % 2 ^ 63)) (FloatKind.f32.format.order x 0 == some .lt) (FloatKind.f32.format.order y 0 == some .lt) arc).bind fun r => floatToFloatBits .f64 r .f32
where arcF' (A B : Nat) : Option Nat := (floatBits .quo .f64 (if gtF A B then B else A) (if gtF A B then A else B)).bind arcF
def angOk (y x : Nat) : Bool := fin32 y && fin32 x && !((FloatKind.f32.format.order x 0 == some .eq) && (FloatKind.f32.format.order y 0 == some .eq))
theorem angF_of (y x r : Nat) (ho : angOk y x = true) (h : angF y x = some r) (w : World) :
    Calls Try.prog 118 #[.float .f32 y, .float .f32 x] w fun e w' => e = .returned (.float .f32 r) ∧ Quiet w w' := by
  unfold angOk at ho
  simp only [Bool.and_eq_true, Bool.not_eq_true'] at ho
  obtain ⟨⟨hy, hx⟩, hz⟩ := ho
  obtain ⟨sy, zy, y1, y2, y3, y4, my, ey, ry, ny⟩ := tests_same y hy
  obtain ⟨sx, zx, x1, x2, x3, x4, mx, ex, rx, nx⟩ := tests_same x hx
  rw [x3, y3] at hz
  have hmn : my ≠ 0 ∨ mx ≠ 0 := by
    cases zy
    · exact .inl (ny rfl)
    · cases zx
      · exact .inr (nx rfl)
      · cases hz
  obtain ⟨arc, ha, h⟩ := Option.bind_eq_some_iff.1 h
  obtain ⟨q, hq, h⟩ := Option.bind_eq_some_iff.1 h
  obtain ⟨t0', ht0', ha⟩ := Option.bind_eq_some_iff.1 ha
  obtain ⟨t0, mn, mxx, over, hov, ht0, gt0, hmin, hmax, hq0⟩ := tangent (wide y % 2 ^ 63) (wide x % 2 ^ 63) my mx ey ex ry rx hmn
  have hg : gtF (wide y % 2 ^ 63) (wide x % 2 ^ 63) = over := hov
  rw [hg] at ht0' hq
  rw [ht0] at ht0'
  obtain rfl := Option.some.inj ht0'
  exact angleTurns_of y x _ _ t0 mn mxx arc q over sx sy zx zy w hy hx rfl rfl x3 y3 hz hov hmin hmax hq0 x1 y1 (arcF_rel ha) (by rw [x1, y1] at hq; exact angEndF_rel hq) r h
theorem angleOf_of (y x r : Nat) (ho : angOk y x = true) (h : angF y x = some r) (w : World) :
    Calls Try.prog 42 #[.complex .f32 x y] w fun e w' => e = .returned (.float .f32 r) ∧ Quiet w w' := by
  have H := Lib.hid fun w => angF_of y x r ho h w
  clear ho h
  go_enter Try.func42, Try.ntmps42
  go_wp2_with (go_at_call 118; (with_reducible refine (H.out _).mono ?_); rintro e w' ⟨rfl, hq⟩)
  go_ret
  exact ⟨rfl, hq⟩

def mulF (p q : Nat × Nat) : Option (Nat × Nat) :=
  (floatBits .mul .f64 (wide p.1) (wide q.1)).bind fun ac => (floatBits .mul .f64 (wide p.2) (wide q.2)).bind fun bd => (floatBits .mul .f64 (wide p.1) (wide q.2)).bind fun ad => (floatBits .mul .f64 (wide p.2) (wide q.1)).bind fun bc =>
    (floatBits .sub .f64 ac bd).bind fun re => (floatBits .add .f64 ad bc).bind fun im => (floatToFloatBits .f64 re .f32).bind fun R => (floatToFloatBits .f64 im .f32).bind fun I => some (R, I)
theorem mulF_of (p q r : Nat × Nat) (h1 : nan32 p.1 = false) (h2 : nan32 p.2 = false) (h3 : nan32 q.1 = false) (h4 : nan32 q.2 = false) (h : mulF p q = some r) (w : World) :
    Calls Try.prog 46 #[.complex .f32 p.1 p.2, .complex .f32 q.1 q.2] w fun e w' => e = .returned (.complex .f32 r.1 r.2) ∧ w = w' := by
  obtain ⟨a, b⟩ := p
  obtain ⟨c, d⟩ := q
  dsimp only at h1 h2 h3 h4 ⊢
  obtain ⟨ac, ha, h⟩ := Option.bind_eq_some_iff.1 h
  obtain ⟨bd, hb, h⟩ := Option.bind_eq_some_iff.1 h
  obtain ⟨ad, hc, h⟩ := Option.bind_eq_some_iff.1 h
  obtain ⟨bc, hd, h⟩ := Option.bind_eq_some_iff.1 h
  obtain ⟨re, he, h⟩ := Option.bind_eq_some_iff.1 h
  obtain ⟨im, hi, h⟩ := Option.bind_eq_some_iff.1 h
  obtain ⟨R, hR, h⟩ := Option.bind_eq_some_iff.1 h
  obtain ⟨I, hI, h⟩ := Option.bind_eq_some_iff.1 h
  obtain rfl := Option.some.inj h
  dsimp only at ha hb hc hd ⊢
  have HN := Lib.hid fun w => narrowComplex_ok re im R I w hR hI
  have HL : Hid (∀ w, Calls Try.prog 119 #[.complex .f32 a b, .complex .f32 c d] w fun e w' => e = .returned (.complex .f64 re im) ∧ w = w') := by
    intro w
    have c1 := fun w => run_convert_float_float (P := Try.prog) w 35 47 .f32 .f64 a (wide a) (by kernel_rfl) Try.underlying47 (wide_conv a h1)
    have c2 := fun w => run_convert_float_float (P := Try.prog) w 35 47 .f32 .f64 b (wide b) (by kernel_rfl) Try.underlying47 (wide_conv b h2)
    have c3 := fun w => run_convert_float_float (P := Try.prog) w 35 47 .f32 .f64 c (wide c) (by kernel_rfl) Try.underlying47 (wide_conv c h3)
    have c4 := fun w => run_convert_float_float (P := Try.prog) w 35 47 .f32 .f64 d (wide d) (by kernel_rfl) Try.underlying47 (wide_conv d h4)
    have e1 := fun w => run_float_arith (P := Try.prog) w .mul 47 .f64 _ _ _ ha
    have e2 := fun w => run_float_arith (P := Try.prog) w .mul 47 .f64 _ _ _ hb
    have e3 := fun w => run_float_arith (P := Try.prog) w .mul 47 .f64 _ _ _ hc
    have e4 := fun w => run_float_arith (P := Try.prog) w .mul 47 .f64 _ _ _ hd
    have e5 := fun w => run_float_arith (P := Try.prog) w .sub 47 .f64 _ _ _ he
    have e6 := fun w => run_float_arith (P := Try.prog) w .add 47 .f64 _ _ _ hi
    clear HN hR hI ha hb hc hd he hi h1 h2 h3 h4
    go_enter Try.func119, Try.ntmps119
    go_wp2
    go_ret
    exact ⟨rfl, rfl⟩
  clear hR hI ha hb hc hd he hi h1 h2 h3 h4
  go_enter Try.func46, Try.ntmps46
  go_wp2_with (first | (go_at_call 119; (with_reducible refine (HL.out _).mono ?_); rintro e w' ⟨rfl, rfl⟩) | (go_at_call 117; (with_reducible refine (HN.out _).mono ?_); rintro e w' ⟨rfl, rfl⟩))
  go_ret
  exact ⟨rfl, rfl⟩
def powF (p : Nat × Nat) : Option Nat :=
  (floatBits .mul .f64 (wide p.1) (wide p.1)).bind fun a => (floatBits .mul .f64 (wide p.2) (wide p.2)).bind fun b => (floatBits .add .f64 a b).bind fun s => floatToFloatBits .f64 s .f32
theorem powF_of (p : Nat × Nat) (r : Nat) (h1 : nan32 p.1 = false) (h2 : nan32 p.2 = false) (h : powF p = some r) (w : World) :
    Calls Try.prog 44 #[.complex .f32 p.1 p.2] w fun e w' => e = .returned (.float .f32 r) ∧ w = w' := by
  obtain ⟨a, b⟩ := p
  dsimp only at h1 h2 ⊢
  obtain ⟨x, ha, h⟩ := Option.bind_eq_some_iff.1 h
  obtain ⟨y, hb, h⟩ := Option.bind_eq_some_iff.1 h
  obtain ⟨s, hs, h⟩ := Option.bind_eq_some_iff.1 h
  dsimp only at ha hb
  have HN := Lib.hid fun w => narrowNumber_ok s r w h
  have HL : Hid (∀ w, Calls Try.prog 104 #[.complex .f32 a b] w fun e w' => e = .returned (.float .f64 s) ∧ w = w') := by
    intro w
    have c1 := fun w => run_convert_float_float (P := Try.prog) w 35 47 .f32 .f64 a (wide a) (by kernel_rfl) Try.underlying47 (wide_conv a h1)
    have c2 := fun w => run_convert_float_float (P := Try.prog) w 35 47 .f32 .f64 b (wide b) (by kernel_rfl) Try.underlying47 (wide_conv b h2)
    have e1 := fun w => run_float_arith (P := Try.prog) w .mul 47 .f64 _ _ _ ha
    have e2 := fun w => run_float_arith (P := Try.prog) w .mul 47 .f64 _ _ _ hb
    have e5 := fun w => run_float_arith (P := Try.prog) w .add 47 .f64 _ _ _ hs
    clear HN h ha hb hs h1 h2
    go_enter Try.func104, Try.ntmps104
    go_wp2
    go_ret
    exact ⟨rfl, rfl⟩
  clear h ha hb hs h1 h2
  go_enter Try.func44, Try.ntmps44
  go_wp2_with (first | (go_at_call 104; (with_reducible refine (HL.out _).mono ?_); rintro e w' ⟨rfl, rfl⟩) | (go_at_call 102; (with_reducible refine (HN.out _).mono ?_); rintro e w' ⟨rfl, rfl⟩))
  go_ret
  exact ⟨rfl, rfl⟩
def gapF (a b : Nat) : Option Nat := if (FloatKind.f64.format.order a b == some .lt) then floatBits .sub .f64 b a else floatBits .sub .f64 a b
theorem gapF_of (a b r : Nat) (h : gapF a b = some r) (w : World) : Calls Try.prog 43 #[.float .f64 a, .float .f64 b] w fun e w' => e = .returned (.float .f64 r) ∧ w = w' := by
  unfold gapF at h
  cases hc : (FloatKind.f64.format.order a b == some .lt)
  · rw [hc] at h
    have e1 := fun w => run_float_arith (P := Try.prog) w .sub 47 .f64 _ _ _ (show floatBits .sub .f64 a b = some r by simpa using h)
    clear h
    go_enter Try.func43, Try.ntmps43
    go_wp2
    go_ret
    exact ⟨rfl, rfl⟩
  · rw [hc] at h
    have e1 := fun w => run_float_arith (P := Try.prog) w .sub 47 .f64 _ _ _ (show floatBits .sub .f64 b a = some r by simpa using h)
    clear h
    go_enter Try.func43, Try.ntmps43
    go_wp2
    go_ret
    exact ⟨rfl, rfl⟩
def leF (a b : Nat) : Bool := FloatKind.f64.format.order a b == some .lt || FloatKind.f64.format.order a b == some .eq
def nearF (p q : Nat × Nat) (most : Nat) : Bool :=
  (match gapF (wide p.1) (wide q.1) with | some g => leF g most | none => false) && (match gapF (wide p.2) (wide q.2) with | some g => leF g most | none => false)
theorem nearF_of (p q : Nat × Nat) (most : Nat) (h1 : nan32 p.1 = false) (h2 : nan32 p.2 = false) (h3 : nan32 q.1 = false) (h4 : nan32 q.2 = false) (h : nearF p q most = true) (w : World) :
    Calls Try.prog 45 #[.complex .f32 p.1 p.2, .complex .f32 q.1 q.2, .float .f64 most] w fun e w' => e = .returned (.bool true) ∧ w = w' := by
  obtain ⟨a, b⟩ := p
  obtain ⟨c, d⟩ := q
  dsimp only at h1 h2 h3 h4 ⊢
  unfold nearF at h
  dsimp only at h
  cases hg : gapF (wide a) (wide c) with
  | none => rw [hg] at h; simp at h
  | some g =>
    cases hk : gapF (wide b) (wide d) with
    | none => rw [hk] at h; simp at h
    | some k =>
      rw [hg, hk] at h
      simp only [Bool.and_eq_true] at h
      obtain ⟨l1, l2⟩ := h
      unfold leF at l1 l2
      have H1 := Lib.hid fun w => gapF_of _ _ g hg w
      have H2 := Lib.hid fun w => gapF_of _ _ k hk w
      have c1 := fun w => run_convert_float_float (P := Try.prog) w 35 47 .f32 .f64 a (wide a) (by kernel_rfl) Try.underlying47 (wide_conv a h1)
      have c2 := fun w => run_convert_float_float (P := Try.prog) w 35 47 .f32 .f64 b (wide b) (by kernel_rfl) Try.underlying47 (wide_conv b h2)
      have c3 := fun w => run_convert_float_float (P := Try.prog) w 35 47 .f32 .f64 c (wide c) (by kernel_rfl) Try.underlying47 (wide_conv c h3)
      have c4 := fun w => run_convert_float_float (P := Try.prog) w 35 47 .f32 .f64 d (wide d) (by kernel_rfl) Try.underlying47 (wide_conv d h4)
      clear hg hk h1 h2 h3 h4
      go_enter Try.func45, Try.ntmps45
      go_wp2_with (first | (go_at_call 43; (with_reducible refine (H1.out _).mono ?_); rintro e w' ⟨rfl, rfl⟩) | (go_at_call 43; (with_reducible refine (H2.out _).mono ?_); rintro e w' ⟨rfl, rfl⟩))
      go_ret
      exact ⟨rfl, rfl⟩
end Go.Proofs.Ytpocclcijkopnaa
