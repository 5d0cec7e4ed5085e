/- The law FnFlown: what its words become. Plain facts. -/
import Derived.Test.YtklceohoghjhdaaFx
import Derived.Test.YtklceohoghjhdaaFl2
import Derived.Test.YtklceohoghjhdaaMq
import Derived.Test.YtklceohoghjhdaaMm
namespace Go.Proofs.Ytklceohoghjhdaa
open Go.RowKit Fl

/-- there and back: what the table says -/
theorem turn_parts {s t : Nat} (h : turnOk s t = true) : ∃ u v d e, turnO s t 1056964608 = some u ∧ fin32 u = true ∧ turnO s u 3204448256 = some v ∧ fin32 v = true ∧ floatBits .sub .f64 (wide v) (wide t) = some d ∧ floatBits .sub .f64 (wide t) (wide v) = some e ∧
    FloatKind.f64.format.order d 4562254508917369340 = some .lt ∧ FloatKind.f64.format.order e 4562254508917369340 = some .lt ∧ (FloatKind.f64.format.order d e).isSome = true := by
  unfold turnOk at h
  split at h
  · cases h
  · rename_i u hu
    rw [Bool.and_eq_true] at h
    obtain ⟨h1, h2⟩ := h
    split at h2
    · cases h2
    · rename_i v hv
      rw [Bool.and_eq_true] at h2
      obtain ⟨h3, h4⟩ := h2
      split at h4
      · rename_i d e hd he
        simp only [Bool.and_eq_true, beq_iff_eq] at h4
        exact ⟨u, v, d, e, hu, h1, hv, h3, hd, he, h4.1.1, h4.1.2, h4.2⟩
      · cases h4
/-- the words of a sum -/
theorem diff_zero {p : Int} {x y : Nat} {a b : Int} (hx : Exa Ieee.single p x a) (hy : Exa Ieee.single p y b) (e : a = b) (h1 : -149 ≤ p) (h2 : p ≤ 0) (ha : a.natAbs < 1000000) : ∃ z, floatBits .sub .f32 x y = some z ∧ (z = 0 ∨ z = 2147483648) := by
  subst e
  obtain ⟨z, h3, h4⟩ := sub32 hx hy h1 h2 ha ha
  rw [Int.sub_self] at h4
  refine ⟨z, h3, ?_⟩
  rcases h4.2 rfl with rfl | rfl
  · left; decide
  · right; decide
theorem Exa.deep {p : Int} {x : Nat} {n : Int} (h : Exa Ieee.single p x n) (h1 : -140 ≤ p) (h2 : p ≤ 0) (hn : n.natAbs < 1000000) : Exa Ieee.single (p - 1) x (2 * n) := by
  have := h.down (fits32 (by omega) (by omega) (by omega)) 1
  rw [show n * ((2 ^ 1 : Nat) : Int) = 2 * n by omega] at this
  exact this
theorem flyW_unique {x y q : Nat} {g h h' : Gr} (a : FlyW x y q g h) (b : FlyW x y q g h') : h = h' := by
  cases e : g.h
  · obtain ⟨px, py, qx, qy, qs, t', a1, a2, a3, a4, a5, a6, a7, a8, a9, a10, a11, a12, a13, a14, a15⟩ := a.free e
    obtain ⟨px', py', qx', qy', qs', u', b1, b2, b3, b4, b5, b6, b7, b8, b9, b10, b11, b12, b13, b14, b15⟩ := b.free e
    obtain rfl := Option.some.inj (a1.symm.trans b1)
    obtain rfl := Option.some.inj (a2.symm.trans b2)
    have s1 := Option.some.inj (a3.symm.trans b3)
    have s2 := Option.some.inj (a4.symm.trans b4)
    rw [← s1] at b5
    rw [← s2] at b6
    obtain rfl := Option.some.inj (a5.symm.trans b5)
    obtain rfl := Option.some.inj (a6.symm.trans b6)
    have s3 := Option.some.inj (a7.symm.trans b7)
    have s4 := Option.some.inj (a8.symm.trans b8)
    obtain rfl := Option.some.inj (a9.symm.trans b9)
    obtain rfl := Option.some.inj (a10.symm.trans b10)
    have s5 := Option.some.inj (a11.symm.trans b11)
    have s6 := a12.trans b12.symm
    have s7 := a13.trans b13.symm
    have s8 := a14.trans b14.symm
    have s9 := a15.trans b15.symm
    clear a b a1 a2 a3 a4 a5 a6 a7 a8 a9 a10 a11 a12 a13 a14 a15 b1 b2 b3 b4 b5 b6 b7 b8 b9 b10 b11 b12 b13 b14 b15
    cases h; cases h'
    simp only [Gr.mk.injEq]
    exact ⟨s3, s4, s1, s2, s6, s7, s5, s8, s9⟩
  · rw [a.held e, b.held e]
/-- a grain that has flown: its speed in eighths, its place in sixteenths -/
structure Flew (g h : Gr) (U V X Y : Int) (u : Nat) : Prop where
  sx : Exa Ieee.single (-3) h.sx U
  sy : Exa Ieee.single (-3) h.sy V
  ax : Exa Ieee.single (-4) h.ax X
  ay : Exa Ieee.single (-4) h.ay Y
  t : h.t = u
  r : h.r = g.r
  m : h.m = g.m
  s : h.s = g.s
  h : h.h = false
theorem Gr.valid_parts {g : Gr} (h : g.valid = true) : (fin32 g.r = true ∧ pos32 g.r = true) ∧ (fin32 g.m = true ∧ pos32 g.m = true) ∧ fin32 g.s = true := by
  unfold Gr.valid at h
  simp only [Bool.and_eq_true] at h
  simp_all
theorem Flew.valid {g h : Gr} {U V X Y : Int} {u : Nat} (f : Flew g h U V X Y u) (hg : g.valid = true) (hu : fin32 u = true) (bU : U.natAbs < 1000000) (bV : V.natAbs < 1000000) (bX : X.natAbs < 1000000) (bY : Y.natAbs < 1000000) : h.valid = true := by
  obtain ⟨⟨r1, r2⟩, ⟨m1, m2⟩, s1⟩ := Gr.valid_parts hg
  have h1 := fin_exa f.ax (by omega) (by omega) (by omega)
  have h2 := fin_exa f.ay (by omega) (by omega) (by omega)
  have h3 := fin_exa f.sx (by omega) (by omega) (by omega)
  have h4 := fin_exa f.sy (by omega) (by omega) (by omega)
  unfold Gr.valid
  rw [h1, h2, h3, h4, f.r, f.m, f.s, f.t, r1, r2, m1, m2, s1, hu]; rfl
theorem flew_of {x y q : Nat} {g : Gr} {a b τ U V X Y : Int} (hx : Exa Ieee.single (-2) x a) (hy : Exa Ieee.single (-2) y b) (hq : Exa Ieee.single (-1) q τ) (hsx : Exa Ieee.single (-3) g.sx U) (hsy : Exa Ieee.single (-3) g.sy V) (hax : Exa Ieee.single (-4) g.ax X) (hay : Exa Ieee.single (-4) g.ay Y)
    (ha : -16 ≤ a ∧ a ≤ 16) (hb : -16 ≤ b ∧ b ≤ 16) (ht : τ = 1 ∨ τ = -1) (hU : -64 ≤ U ∧ U ≤ 64) (hV : -64 ≤ V ∧ V ≤ 64) (hX : -4096 ≤ X ∧ X ≤ 4096) (hY : -4096 ≤ Y ∧ Y ≤ 4096) (u : Nat) (hu : turnO g.s g.t q = some u) (hh : g.h = false) :
    (∃ h, FlyW x y q g h) ∧ Flew g (flyF x y q g) (U + a * τ) (V + b * τ) (X + (U + a * τ) * τ) (Y + (V + b * τ) * τ) u := by
  obtain ⟨h, e0, e1, e2, e3, e4, e5, e6, e7, e8, e9⟩ := fly_free hx hy hq hsx hsy hax hay ha hb ht hU hV hX hY u hu hh
  refine ⟨⟨h, e0⟩, ?_⟩
  rw [flyW_unique (flyF_of ⟨h, e0⟩) e0]
  exact ⟨e1, e2, e3, e4, e5, e6, e7, e8, e9⟩
theorem flyF_held {x y q : Nat} {g : Gr} (hh : g.h = true) : flyF x y q g = g := flyW_unique (flyF_of ⟨g, fly_held hh⟩) (fly_held hh)
/-- all of a drawn grain in flight, for a tick of a half, and back -/
structure FlownQ (x y : Nat) (a b : Int) (g : Gr) : Prop where
  hasP : ∃ h, FlyW x y 1056964608 g h
  hasF : ∃ h, FlyW 0 0 1056964608 g h
  hasB : ∃ h, FlyW 0 0 3204448256 (flyF 0 0 1056964608 g) h
  vP : (flyF x y 1056964608 g).valid = true
  vF : (flyF 0 0 1056964608 g).valid = true
  vB : (flyF 0 0 3204448256 (flyF 0 0 1056964608 g)).valid = true
  eqx : FloatKind.f32.format.order (flyF 0 0 1056964608 g).sx g.sx = some .eq
  eqy : FloatKind.f32.format.order (flyF 0 0 1056964608 g).sy g.sy = some .eq
  atx : ∃ z, floatBits .sub .f32 (flyF 0 0 3204448256 (flyF 0 0 1056964608 g)).ax g.ax = some z ∧ (z = 0 ∨ z = 2147483648)
  aty : ∃ z, floatBits .sub .f32 (flyF 0 0 3204448256 (flyF 0 0 1056964608 g)).ay g.ay = some z ∧ (z = 0 ∨ z = 2147483648)
  turn : ∃ d e, floatBits .sub .f64 (wide (flyF 0 0 3204448256 (flyF 0 0 1056964608 g)).t) (wide g.t) = some d ∧ floatBits .sub .f64 (wide g.t) (wide (flyF 0 0 3204448256 (flyF 0 0 1056964608 g)).t) = some e ∧
    FloatKind.f64.format.order d 4562254508917369340 = some .lt ∧ FloatKind.f64.format.order e 4562254508917369340 = some .lt ∧ (FloatKind.f64.format.order d e).isSome = true
  numt : nan32 (flyF 0 0 3204448256 (flyF 0 0 1056964608 g)).t = false ∧ nan32 g.t = false
  sp : ∀ R I, Exa Ieee.single (-3) R a → Exa Ieee.single (-3) I b → ∃ i j z z', floatBits .add .f32 g.sx R = some i ∧ floatBits .add .f32 g.sy I = some j ∧ floatBits .sub .f32 (flyF x y 1056964608 g).sx i = some z ∧ floatBits .sub .f32 (flyF x y 1056964608 g).sy j = some z' ∧ (z = 0 ∨ z = 2147483648) ∧ (z' = 0 ∨ z' = 2147483648)
theorem flownQ_of {x y : Nat} {g : Gr} {i : GrI} {a b : Int} (h : GrQ g i) (hh : g.h = false) (hx : Exa Ieee.single (-2) x a) (hy : Exa Ieee.single (-2) y b) (ha : -16 ≤ a ∧ a ≤ 16) (hb : -16 ≤ b ∧ b ≤ 16) : FlownQ x y a b g := by
  have k1 := h.bx; have k2 := h.by_; have k3 := h.bu; have k4 := h.bv
  obtain ⟨u, v, d, e, t1, t2, t3, t4, t5, t6, t7, t8, t9⟩ := turn_parts (turn_ok h.s h.bs h.t h.bt)
  have dsx := h.sx.deep (by omega) (by omega) (by omega)
  have dsy := h.sy.deep (by omega) (by omega) (by omega)
  have dax := (h.ax.deep (by omega) (by omega) (by omega)).deep (by omega) (by omega) (by omega)
  have day := (h.ay.deep (by omega) (by omega) (by omega)).deep (by omega) (by omega) (by omega)
  have z2 : Exa Ieee.single (-2) 0 0 := exa_zero _ _
  obtain ⟨p1, p2⟩ := flew_of hx hy exa_half dsx dsy dax day ha hb (.inl rfl) (by omega) (by omega) (by omega) (by omega) u t1 hh
  obtain ⟨f1, f2⟩ := flew_of z2 z2 exa_half dsx dsy dax day (by omega) (by omega) (.inl rfl) (by omega) (by omega) (by omega) (by omega) u t1 hh
  have hv := h.valid
  have vF := f2.valid hv t2 (by omega) (by omega) (by omega) (by omega)
  have t3' : turnO (flyF 0 0 1056964608 g).s (flyF 0 0 1056964608 g).t 3204448256 = some v := by rw [f2.s, f2.t]; exact t3
  obtain ⟨b1, b2⟩ := flew_of z2 z2 exa_back f2.sx f2.sy f2.ax f2.ay (by omega) (by omega) (.inr rfl) (by omega) (by omega) (by omega) (by omega) v t3' f2.h
  have vB := b2.valid vF t4 (by omega) (by omega) (by omega) (by omega)
  refine ⟨p1, f1, b1, p2.valid hv t2 (by omega) (by omega) (by omega) (by omega), vF, vB, ?_, ?_, ?_, ?_, ?_, ?_, ?_⟩
  · rw [order32 f2.sx dsx (by omega) (by omega) (by omega) (by omega)]
    simp [compare, compareOfLessAndEq]
  · rw [order32 f2.sy dsy (by omega) (by omega) (by omega) (by omega)]
    simp [compare, compareOfLessAndEq]
  · exact diff_zero b2.ax dax (by omega) (by omega) (by omega) (by omega)
  · exact diff_zero b2.ay day (by omega) (by omega) (by omega) (by omega)
  · rw [b2.t]; exact ⟨d, e, t5, t6, t7, t8, t9⟩
  · rw [b2.t]
    have hgt := fin_exa h.t (by omega) (by omega) (by have := h.bt; omega)
    unfold fin32 at t4 hgt
    simp only [Bool.and_eq_true, Bool.not_eq_true'] at t4 hgt
    exact ⟨t4.1, hgt.1⟩
  · intro R I hR hI
    obtain ⟨i', m1, m2⟩ := add32 dsx hR (by omega) (by omega) (by omega) (by omega)
    obtain ⟨j', m3, m4⟩ := add32 dsy hI (by omega) (by omega) (by omega) (by omega)
    obtain ⟨z, n1, n2⟩ := diff_zero p2.sx m2 (by omega) (by omega) (by omega) (by omega)
    obtain ⟨z', n3, n4⟩ := diff_zero p2.sy m4 (by omega) (by omega) (by omega) (by omega)
    exact ⟨i', j', z, z', m1, m3, n1, n3, n2, n4⟩
/-- Go's own product of a complex number and a real one, exact -/
theorem cmul_exa {p q : Int} {x y c : Nat} {a b k : Int} (hx : Exa Ieee.single p x a) (hy : Exa Ieee.single p y b) (hc : Exa Ieee.single q c k) (h1 : -70 ≤ p) (h2 : p ≤ 0) (h3 : -70 ≤ q) (h4 : q ≤ 0) (ha : a.natAbs < 4000) (hb : b.natAbs < 4000) (hk : k.natAbs < 4000) :
    ∃ R I, (∀ (P : Program) (t : TypeId) (w : World), (binOp .mul t (.complex .f32 x y) (.complex .f32 c 0)).run P w = .ok (.complex .f32 R I) w) ∧ Exa Ieee.single (p + q) R (a * k) ∧ Exa Ieee.single (p + q) I (b * k) := by
  have s1 := fits32 (p := p) (n := a) (by omega) (by omega) (by omega)
  have s2 := fits32 (p := p) (n := b) (by omega) (by omega) (by omega)
  have s3 := fits32 (p := q) (n := k) (by omega) (by omega) (by omega)
  have s4 := fits32 (p := q) (n := 0) (by omega) (by omega) (by omega)
  have d1 := fits64 (p := p) (n := a) (by omega) (by omega) (by omega)
  have d2 := fits64 (p := p) (n := b) (by omega) (by omega) (by omega)
  have d3 := fits64 (p := q) (n := k) (by omega) (by omega) (by omega)
  have d4 := fits64 (p := q) (n := 0) (by omega) (by omega) (by omega)
  have mm : ∀ u v : Int, u.natAbs < 4000 → v.natAbs < 4000 → (u * v).natAbs < 16000000 := by
    intro u v hu hv
    rw [Int.natAbs_mul]
    have := Nat.mul_le_mul (Nat.le_of_lt hu) (Nat.le_of_lt hv)
    have h0 := Nat.mul_le_mul (show u.natAbs ≤ 3999 by omega) (show v.natAbs ≤ 3999 by omega)
    omega
  have m1 := mm a k ha hk
  have m2 := mm b k hb hk
  have wx := hx.wide s1 d1
  have wy := hy.wide s2 d2
  have wc := hc.wide s3 d3
  have w0 : Exa Ieee.double q (wide 0) 0 := (exa_zero Ieee.single q).wide s4 d4
  have na := hx.num s1
  have nb := hy.num s2
  have nc := hc.num s3
  have f1 := fits64 (p := p + q) (n := a * k) (by omega) (by omega) (by omega)
  have f2 := fits64 (p := p + q) (n := b * k) (by omega) (by omega) (by omega)
  have f0 := fits64 (p := p + q) (n := 0) (by omega) (by omega) (by omega)
  obtain ⟨ac, g1, g2⟩ := exa_mul he64 wx wc d1 d3 f1
  obtain ⟨bd, g3, g4⟩ := exa_mul he64 wy w0 d2 d4 (by rw [Int.mul_zero]; exact f0)
  obtain ⟨ad, g5, g6⟩ := exa_mul he64 wx w0 d1 d4 (by rw [Int.mul_zero]; exact f0)
  obtain ⟨bc, g7, g8⟩ := exa_mul he64 wy wc d2 d3 f2
  rw [Int.mul_zero] at g4 g6
  obtain ⟨re, k1, k2⟩ := exa_sub he64 g2 g4 f1 f0 (by rw [Int.sub_zero]; exact f1)
  obtain ⟨im, k3, k4⟩ := exa_add he64 g6 g8 f0 f2 (by rw [Int.zero_add]; exact f2)
  rw [Int.sub_zero] at k2
  rw [Int.zero_add] at k4
  obtain ⟨R, r1, r2⟩ := k2.narrow f1 (fits32 (by omega) (by omega) (by omega))
  obtain ⟨I, r3, r4⟩ := k4.narrow f2 (fits32 (by omega) (by omega) (by omega))
  exact ⟨R, I, fun P t w => run_cmul32 t x y c 0 ac bd ad bc re im R I w na nb nc (by decide +kernel) g1 g3 g5 g7 k1 k3 r1 r3, r2, r4⟩
def sumJ (f : Nat → Int) : Nat → Int
  | 0 => 0
  | k + 1 => sumJ f k + f k
theorem sumJ_small (f : Nat → Int) (n : Nat) (h : ∀ k, k < n → (f k).natAbs ≤ 200) : ∀ k, k ≤ n → (sumJ f k).natAbs ≤ k * 200
  | 0, _ => by simp [sumJ]
  | k + 1, hk => by
    have ih := sumJ_small f n h k (by omega)
    have h2 := h k (by omega)
    show (sumJ f k + f k).natAbs ≤ (k + 1) * 200
    omega
/-- the momentum of grains of small numbers is exact -/
theorem mom_any {gs : List Gr} {U V M : Nat → Int} (n : Nat) (hn : n ≤ 24)
    (h : ∀ k, k < n → Exa Ieee.single (-2) (gs.getD k default).sx (U k) ∧ Exa Ieee.single (-2) (gs.getD k default).sy (V k) ∧ Exa Ieee.single (-2) (gs.getD k default).m (M k) ∧ (-24 ≤ U k ∧ U k ≤ 24) ∧ (-24 ≤ V k ∧ V k ≤ 24) ∧ 1 ≤ M k ∧ M k ≤ 8) :
    ∃ P Q S T, SumW gs n P Q S T ∧ Exa Ieee.single (-2 + -2) (S n) (sumJ (fun k => U k * M k) n) ∧ Exa Ieee.single (-2 + -2) (T n) (sumJ (fun k => V k * M k) n) := by
  have hb : ∀ (a m : Int), -24 ≤ a ∧ a ≤ 24 → 1 ≤ m ∧ m ≤ 8 → (a * m).natAbs ≤ 200 := by
    intro a m ha hm
    rw [Int.natAbs_mul]
    have := Nat.mul_le_mul (show a.natAbs ≤ 24 by omega) (show m.natAbs ≤ 8 by omega)
    omega
  have b1 := sumJ_small (fun k => U k * M k) n (fun k hk => hb _ _ (h k hk).2.2.2.1 (h k hk).2.2.2.2.2)
  have b2 := sumJ_small (fun k => V k * M k) n (fun k hk => hb _ _ (h k hk).2.2.2.2.1 (h k hk).2.2.2.2.2)
  have hp : ∀ k, k < n → ∃ r, floatBits .mul .f32 (gs.getD k default).sx (gs.getD k default).m = some r ∧ Exa Ieee.single (-2 + -2) r (U k * M k) := fun k hk => by
    obtain ⟨q1, q2, q3, q4, q5, q6⟩ := h k hk
    exact mul32 q1 q3 (by omega) (by omega) (by omega) (by omega) (by omega) (by omega)
  have hq : ∀ k, k < n → ∃ r, floatBits .mul .f32 (gs.getD k default).sy (gs.getD k default).m = some r ∧ Exa Ieee.single (-2 + -2) r (V k * M k) := fun k hk => by
    obtain ⟨q1, q2, q3, q4, q5, q6⟩ := h k hk
    exact mul32 q2 q3 (by omega) (by omega) (by omega) (by omega) (by omega) (by omega)
  obtain ⟨S, s0, s1, s2⟩ := sum_chain (fun k => (floatBits .mul .f32 (gs.getD k default).sx (gs.getD k default).m).getD 0) (sumJ (fun k => U k * M k)) n (-2 + -2) (by omega) (by omega) (fun k hk => by
    obtain ⟨r, e1, e2⟩ := hp k hk
    refine ⟨_, by show Exa _ _ ((floatBits .mul .f32 (gs.getD k default).sx (gs.getD k default).m).getD 0) _; rw [e1]; exact e2, rfl, ?_⟩
    have h9 := hb _ _ (h k hk).2.2.2.1 (h k hk).2.2.2.2.2
    exact Nat.lt_of_le_of_lt h9 (by decide)) rfl (fun k hk => by have := b1 k (by omega); omega)
  obtain ⟨T, t0, t1, t2⟩ := sum_chain (fun k => (floatBits .mul .f32 (gs.getD k default).sy (gs.getD k default).m).getD 0) (sumJ (fun k => V k * M k)) n (-2 + -2) (by omega) (by omega) (fun k hk => by
    obtain ⟨r, e1, e2⟩ := hq k hk
    refine ⟨_, by show Exa _ _ ((floatBits .mul .f32 (gs.getD k default).sy (gs.getD k default).m).getD 0) _; rw [e1]; exact e2, rfl, ?_⟩
    have h9 := hb _ _ (h k hk).2.2.2.2.1 (h k hk).2.2.2.2.2
    exact Nat.lt_of_le_of_lt h9 (by decide)) rfl (fun k hk => by have := b2 k (by omega); omega)
  refine ⟨_, _, S, T, ⟨s0, t0, fun k hk => ?_, fun k hk => ?_, s1, t1⟩, s2 n (Nat.le_refl _), t2 n (Nat.le_refl _)⟩
  · obtain ⟨r, e1, _⟩ := hp k hk; rw [e1]; rfl
  · obtain ⟨r, e1, _⟩ := hq k hk; rw [e1]; rfl
/-- the least of some exact numbers -/
theorem mins_exa {zs : Nat → Nat} {a : Nat → Int} {p : Int} (h1 : -149 ≤ p) (h2 : p ≤ 0) (n : Nat) (h : ∀ k, k ≤ n → Exa Ieee.single p (zs k) (a k)) (hb : ∀ k, k ≤ n → (a k).natAbs < 1000000) :
    ∀ k, k ≤ n → ∃ m, Exa Ieee.single p (minsW zs k) m ∧ m.natAbs < 1000000 ∧ (∀ j, j ≤ k → m ≤ a j)
  | 0, _ => ⟨a 0, h 0 (Nat.zero_le _), hb 0 (Nat.zero_le _), fun j hj => by obtain rfl : j = 0 := by omega
                                                                            exact Int.le_refl _⟩
  | k + 1, hk => by
    obtain ⟨m, e1, e2, e3⟩ := mins_exa h1 h2 n h hb k (by omega)
    have e4 := h (k + 1) hk
    have e5 := hb (k + 1) hk
    have ho := order32 e1 e4 h1 h2 (by omega) (by omega)
    show ∃ m', Exa Ieee.single p (minW (minsW zs k) (zs (k + 1))) m' ∧ _
    rcases Int.lt_trichotomy m (a (k + 1)) with hlt | heq | hgt
    · rw [show minW (minsW zs k) (zs (k + 1)) = minsW zs k by unfold minW; rw [ho, show compare m (a (k + 1)) = .lt by simp only [compare, compareOfLessAndEq]; rw [if_pos hlt]]]
      refine ⟨m, e1, e2, fun j hj => ?_⟩
      by_cases hj' : j = k + 1
      · subst hj'; omega
      · exact e3 j (by omega)
    · refine ⟨m, ?_, e2, fun j hj => ?_⟩
      · rcases minW_one (minsW zs k) (zs (k + 1)) with e | e
        · rw [e]; exact e1
        · rw [e, heq]; exact e4
      · by_cases hj' : j = k + 1
        · subst hj'; omega
        · exact e3 j (by omega)
    · rw [show minW (minsW zs k) (zs (k + 1)) = zs (k + 1) by unfold minW; rw [ho, show compare m (a (k + 1)) = .gt by simp only [compare, compareOfLessAndEq]; rw [if_neg (by omega), if_neg (by omega)]]]
      refine ⟨a (k + 1), e4, e5, fun j hj => ?_⟩
      by_cases hj' : j = k + 1
      · subst hj'; exact Int.le_refl _
      · have := e3 j (by omega); omega
theorem maxs_exa {zs : Nat → Nat} {a : Nat → Int} {p : Int} (h1 : -149 ≤ p) (h2 : p ≤ 0) (n : Nat) (h : ∀ k, k ≤ n → Exa Ieee.single p (zs k) (a k)) (hb : ∀ k, k ≤ n → (a k).natAbs < 1000000) :
    ∀ k, k ≤ n → ∃ m, Exa Ieee.single p (maxsW zs k) m ∧ m.natAbs < 1000000 ∧ (∀ j, j ≤ k → a j ≤ m)
  | 0, _ => ⟨a 0, h 0 (Nat.zero_le _), hb 0 (Nat.zero_le _), fun j hj => by obtain rfl : j = 0 := by omega
                                                                            exact Int.le_refl _⟩
  | k + 1, hk => by
    obtain ⟨m, e1, e2, e3⟩ := maxs_exa h1 h2 n h hb k (by omega)
    have e4 := h (k + 1) hk
    have e5 := hb (k + 1) hk
    have ho := order32 e1 e4 h1 h2 (by omega) (by omega)
    show ∃ m', Exa Ieee.single p (maxW (maxsW zs k) (zs (k + 1))) m' ∧ _
    rcases Int.lt_trichotomy m (a (k + 1)) with hlt | heq | hgt
    · rw [show maxW (maxsW zs k) (zs (k + 1)) = zs (k + 1) by unfold maxW; rw [ho, show compare m (a (k + 1)) = .lt by simp only [compare, compareOfLessAndEq]; rw [if_pos hlt]]]
      refine ⟨a (k + 1), e4, e5, fun j hj => ?_⟩
      by_cases hj' : j = k + 1
      · subst hj'; exact Int.le_refl _
      · have := e3 j (by omega); omega
    · refine ⟨m, ?_, e2, fun j hj => ?_⟩
      · rcases maxW_one (maxsW zs k) (zs (k + 1)) with e | e
        · rw [e]; exact e1
        · rw [e, heq]; exact e4
      · by_cases hj' : j = k + 1
        · subst hj'; omega
        · exact e3 j (by omega)
    · rw [show maxW (maxsW zs k) (zs (k + 1)) = maxsW zs k by unfold maxW; rw [ho, show compare m (a (k + 1)) = .gt by simp only [compare, compareOfLessAndEq]; rw [if_neg (by omega), if_neg (by omega)]]]
      refine ⟨m, e1, e2, fun j hj => ?_⟩
      by_cases hj' : j = k + 1
      · subst hj'; omega
      · exact e3 j (by omega)
end Go.Proofs.Ytklceohoghjhdaa
