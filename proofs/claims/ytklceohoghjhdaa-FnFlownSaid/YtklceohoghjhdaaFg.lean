/- The law FnFlown: all that its walk asks of the drawn grains. Plain facts. -/
import Derived.Test.YtklceohoghjhdaaFz
namespace Go.Proofs.Ytklceohoghjhdaa
open Go.RowKit Fl

/-- the four sides of all grains -/
structure BoxW (gs : List Gr) (n : Nat) (A B C D : Nat → Nat) : Prop where
  a : ∀ k, k < n → floatBits .sub .f32 (gs.getD k default).ax (gs.getD k default).r = some (A k)
  b : ∀ k, k < n → floatBits .sub .f32 (gs.getD k default).ay (gs.getD k default).r = some (B k)
  c : ∀ k, k < n → floatBits .add .f32 (gs.getD k default).ax (gs.getD k default).r = some (C k)
  d : ∀ k, k < n → floatBits .add .f32 (gs.getD k default).ay (gs.getD k default).r = some (D k)
/-- numbers whose least and greatest are told -/
structure MinW (n : Nat) (A : Nat → Nat) : Prop where
  o : ∀ k, k + 1 < n → (FloatKind.f32.format.order (minsW A k) (A (k + 1))).isSome = true
  f : fin32 (minsW A (n - 1)) = true
  l : ∀ k, k < n → FloatKind.f32.format.order (A k) (minsW A (n - 1)) = some .eq ∨ FloatKind.f32.format.order (A k) (minsW A (n - 1)) = some .gt
structure MaxW (n : Nat) (A : Nat → Nat) : Prop where
  o : ∀ k, k + 1 < n → (FloatKind.f32.format.order (maxsW A k) (A (k + 1))).isSome = true
  f : fin32 (maxsW A (n - 1)) = true
  l : ∀ k, k < n → FloatKind.f32.format.order (A k) (maxsW A (n - 1)) = some .eq ∨ FloatKind.f32.format.order (A k) (maxsW A (n - 1)) = some .lt
theorem minW_of {zs : Nat → Nat} {a : Nat → Int} (n : Nat) (h1 : 1 ≤ n) (h : ∀ k, k < n → Exa Ieee.single (-2) (zs k) (a k)) (hb : ∀ k, k < n → (a k).natAbs < 1000000) : MinW n zs := by
  have key := mins_exa (zs := zs) (a := a) (p := -2) (by omega) (by omega) (n - 1) (fun k hk => h k (by omega)) (fun k hk => hb k (by omega))
  refine ⟨fun k hk => ?_, ?_, fun k hk => ?_⟩
  · obtain ⟨m, e1, e2, _⟩ := key k (by omega)
    rw [order32 e1 (h (k + 1) hk) (by omega) (by omega) (by omega) (by have := hb (k + 1) hk; omega)]; rfl
  · obtain ⟨m, e1, e2, _⟩ := key (n - 1) (Nat.le_refl _)
    exact fin_exa e1 (by omega) (by omega) (by omega)
  · obtain ⟨m, e1, e2, e3⟩ := key (n - 1) (Nat.le_refl _)
    have := e3 k (by omega)
    rw [order32 (h k hk) e1 (by omega) (by omega) (by have := hb k hk; omega) (by omega)]
    by_cases he : a k = m
    · left; subst he; simp [compare, compareOfLessAndEq]
    · right; simp only [compare, compareOfLessAndEq]; rw [if_neg (by omega), if_neg he]
theorem maxW_of {zs : Nat → Nat} {a : Nat → Int} (n : Nat) (h1 : 1 ≤ n) (h : ∀ k, k < n → Exa Ieee.single (-2) (zs k) (a k)) (hb : ∀ k, k < n → (a k).natAbs < 1000000) : MaxW n zs := by
  have key := maxs_exa (zs := zs) (a := a) (p := -2) (by omega) (by omega) (n - 1) (fun k hk => h k (by omega)) (fun k hk => hb k (by omega))
  refine ⟨fun k hk => ?_, ?_, fun k hk => ?_⟩
  · obtain ⟨m, e1, e2, _⟩ := key k (by omega)
    rw [order32 e1 (h (k + 1) hk) (by omega) (by omega) (by omega) (by have := hb (k + 1) hk; omega)]; rfl
  · obtain ⟨m, e1, e2, _⟩ := key (n - 1) (Nat.le_refl _)
    exact fin_exa e1 (by omega) (by omega) (by omega)
  · obtain ⟨m, e1, e2, e3⟩ := key (n - 1) (Nat.le_refl _)
    have := e3 k (by omega)
    rw [order32 (h k hk) e1 (by omega) (by omega) (by have := hb k hk; omega) (by omega)]
    by_cases he : a k = m
    · left; subst he; simp [compare, compareOfLessAndEq]
    · right; simp only [compare, compareOfLessAndEq]; rw [if_pos (by omega)]
theorem box_exa {gs : List Gr} {is : List GrI} (h : GrsQ gs is) (n : Nat) (hl : gs.length = n) (h1 : 1 ≤ n) : ∃ A B C D, BoxW gs n A B C D ∧ MinW n A ∧ MinW n B ∧ MaxW n C ∧ MaxW n D := by
  have ha : ∀ k, k < n → ∃ r, floatBits .sub .f32 (gs.getD k default).ax (gs.getD k default).r = some r ∧ Exa Ieee.single (-2) r ((is.getD k default).x - (is.getD k default).r) := fun k hk => by
    have q := h.2 k (by omega); have := q.bx; have := q.br
    exact sub32 q.ax q.r (by omega) (by omega) (by omega) (by omega)
  have hb : ∀ k, k < n → ∃ r, floatBits .sub .f32 (gs.getD k default).ay (gs.getD k default).r = some r ∧ Exa Ieee.single (-2) r ((is.getD k default).y - (is.getD k default).r) := fun k hk => by
    have q := h.2 k (by omega); have := q.by_; have := q.br
    exact sub32 q.ay q.r (by omega) (by omega) (by omega) (by omega)
  have hc : ∀ k, k < n → ∃ r, floatBits .add .f32 (gs.getD k default).ax (gs.getD k default).r = some r ∧ Exa Ieee.single (-2) r ((is.getD k default).x + (is.getD k default).r) := fun k hk => by
    have q := h.2 k (by omega); have := q.bx; have := q.br
    exact add32 q.ax q.r (by omega) (by omega) (by omega) (by omega)
  have hd : ∀ k, k < n → ∃ r, floatBits .add .f32 (gs.getD k default).ay (gs.getD k default).r = some r ∧ Exa Ieee.single (-2) r ((is.getD k default).y + (is.getD k default).r) := fun k hk => by
    have q := h.2 k (by omega); have := q.by_; have := q.br
    exact add32 q.ay q.r (by omega) (by omega) (by omega) (by omega)
  have hbd : ∀ k, k < n → ((is.getD k default).x.natAbs ≤ 64 ∧ (is.getD k default).y.natAbs ≤ 64 ∧ (is.getD k default).r.natAbs ≤ 64) := fun k hk => by
    have q := h.2 k (by omega); have := q.bx; have := q.by_; have := q.br
    omega
  refine ⟨fun k => (floatBits .sub .f32 (gs.getD k default).ax (gs.getD k default).r).getD 0, fun k => (floatBits .sub .f32 (gs.getD k default).ay (gs.getD k default).r).getD 0,
    fun k => (floatBits .add .f32 (gs.getD k default).ax (gs.getD k default).r).getD 0, fun k => (floatBits .add .f32 (gs.getD k default).ay (gs.getD k default).r).getD 0, ⟨fun k hk => ?_, fun k hk => ?_, fun k hk => ?_, fun k hk => ?_⟩, ?_, ?_, ?_, ?_⟩
  · obtain ⟨r, e1, _⟩ := ha k hk; rw [e1]; rfl
  · obtain ⟨r, e1, _⟩ := hb k hk; rw [e1]; rfl
  · obtain ⟨r, e1, _⟩ := hc k hk; rw [e1]; rfl
  · obtain ⟨r, e1, _⟩ := hd k hk; rw [e1]; rfl
  · exact minW_of (a := fun k => (is.getD k default).x - (is.getD k default).r) n h1 (fun k hk => by obtain ⟨r, e1, e2⟩ := ha k hk; show Exa _ _ (Option.getD _ 0) _; rw [e1]; exact e2) (fun k hk => by have := hbd k hk; omega)
  · exact minW_of (a := fun k => (is.getD k default).y - (is.getD k default).r) n h1 (fun k hk => by obtain ⟨r, e1, e2⟩ := hb k hk; show Exa _ _ (Option.getD _ 0) _; rw [e1]; exact e2) (fun k hk => by have := hbd k hk; omega)
  · exact maxW_of (a := fun k => (is.getD k default).x + (is.getD k default).r) n h1 (fun k hk => by obtain ⟨r, e1, e2⟩ := hc k hk; show Exa _ _ (Option.getD _ 0) _; rw [e1]; exact e2) (fun k hk => by have := hbd k hk; omega)
  · exact maxW_of (a := fun k => (is.getD k default).y + (is.getD k default).r) n h1 (fun k hk => by obtain ⟨r, e1, e2⟩ := hd k hk; show Exa _ _ (Option.getD _ 0) _; rw [e1]; exact e2) (fun k hk => by have := hbd k hk; omega)
def heldG (g : Gr) : Gr := { g with h := true }
theorem getD_map3 {gs : List Gr} {F : Gr → Gr} (k : Nat) (hk : k < gs.length) : (gs.map F).getD k default = F (gs.getD k default) := by simp [List.getD, List.getElem?_eq_getElem hk]
theorem all_of {gs : List Gr} {n : Nat} (hl : gs.length = n) {p : Gr → Bool} (h : ∀ k, k < n → p (gs.getD k default) = true) : gs.all p = true := by
  rw [List.all_eq_true]
  intro g hg
  obtain ⟨k, hk, rfl⟩ := List.getElem_of_mem hg
  have := h k (by omega)
  rwa [List.getD_eq_getElem?_getD, List.getElem?_eq_getElem hk, Option.getD_some] at this
theorem set1 {gs : List Gr} (hl : gs.length = 3) (x : Gr) (k : Nat) : (gs.set 1 x).getD k default = if k = 1 then x else gs.getD k default := by
  by_cases e : k = 1
  · subst e; simp [List.getD, hl]
  · rw [if_neg e]; simp [List.getD, List.getElem?_set_ne (show 1 ≠ k by omega)]
/-- the equality of words that compare so -/
theorem eq_order {p : Int} {x : Nat} {a : Int} (h : Exa Ieee.single p x a) (h1 : -149 ≤ p) (h2 : p ≤ 0) (ha : a.natAbs < 16777216) : FloatKind.f32.format.order x x = some .eq := by
  rw [order32 h h h1 h2 ha ha]; simp [compare, compareOfLessAndEq]
structure FlownF (fx fy : Nat) (gs hs fl fr bk ps : List Gr) : Prop where
  lh : hs.length = 3
  lfl : fl.length = 3
  lfr : fr.length = 3
  lbk : bk.length = 3
  lps : ps.length = 3
  vg : gs.all Gr.valid = true
  vh : hs.all Gr.valid = true
  vfl : fl.all Gr.valid = true
  vfr : fr.all Gr.valid = true
  vbk : bk.all Gr.valid = true
  vps : ps.all Gr.valid = true
  haP : ∀ k, k < 3 → ∃ h, FlyW fx fy 1056964608 (hs.getD k default) h
  haF : ∀ k, k < 3 → ∃ h, FlyW 0 0 1056964608 (gs.getD k default) h
  haB : ∀ k, k < 3 → ∃ h, FlyW 0 0 3204448256 (fr.getD k default) h
  isP : ∀ k, k < 3 → (floatBits .add .f32 (hs.getD k default).sx fx).isSome = true ∧ (floatBits .add .f32 (hs.getD k default).sy fy).isSome = true
  ax1 : FloatKind.f32.format.order (fl.getD 1 default).ax (gs.getD 1 default).ax = some .eq
  ay1 : FloatKind.f32.format.order (fl.getD 1 default).ay (gs.getD 1 default).ay = some .eq
  sx1 : FloatKind.f32.format.order (fl.getD 1 default).sx (gs.getD 1 default).sx = some .eq
  sy1 : FloatKind.f32.format.order (fl.getD 1 default).sy (gs.getD 1 default).sy = some .eq
  eqx : ∀ k, k < 3 → FloatKind.f32.format.order (fr.getD k default).sx (gs.getD k default).sx = some .eq
  eqy : ∀ k, k < 3 → FloatKind.f32.format.order (fr.getD k default).sy (gs.getD k default).sy = some .eq
  atx : ∀ k, k < 3 → ∃ z, floatBits .sub .f32 (bk.getD k default).ax (gs.getD k default).ax = some z ∧ (z = 0 ∨ z = 2147483648)
  aty : ∀ k, k < 3 → ∃ z, floatBits .sub .f32 (bk.getD k default).ay (gs.getD k default).ay = some z ∧ (z = 0 ∨ z = 2147483648)
  turn : ∀ k, k < 3 → ∃ d e, floatBits .sub .f64 (wide (bk.getD k default).t) (wide (gs.getD k default).t) = some d ∧ floatBits .sub .f64 (wide (gs.getD k default).t) (wide (bk.getD k default).t) = some e ∧
    FloatKind.f64.format.order d 4562254508917369340 = some .lt ∧ FloatKind.f64.format.order e 4562254508917369340 = some .lt ∧ (FloatKind.f64.format.order d e).isSome = true
  numt : ∀ k, k < 3 → nan32 (bk.getD k default).t = false ∧ nan32 (gs.getD k default).t = false
  half : ∃ R I, (∀ (P : Program) (t : TypeId) (w : World), (binOp .mul t (.complex .f32 fx fy) (.complex .f32 1056964608 0)).run P w = .ok (.complex .f32 R I) w) ∧
    ∀ k, k < 3 → k ≠ 1 → ∃ i j z z', floatBits .add .f32 (gs.getD k default).sx R = some i ∧ floatBits .add .f32 (gs.getD k default).sy I = some j ∧ floatBits .sub .f32 (fl.getD k default).sx i = some z ∧ floatBits .sub .f32 (fl.getD k default).sy j = some z' ∧ (z = 0 ∨ z = 2147483648) ∧ (z' = 0 ∨ z' = 2147483648)
  mom : ∃ P Q S T P' Q' S' T' m R I i j z z', SumW gs 3 P Q S T ∧ SumW ps 3 P' Q' S' T' ∧ (fin32 (S 3) && fin32 (T 3)) = true ∧ (fin32 (S' 3) && fin32 (T' 3)) = true ∧ floatBits .add .f32 (gs.getD 0 default).m (gs.getD 2 default).m = some m ∧
    (∀ (P : Program) (t : TypeId) (w : World), (binOp .mul t (.complex .f32 fx fy) (.complex .f32 m 0)).run P w = .ok (.complex .f32 R I) w) ∧
    floatBits .add .f32 (S 3) R = some i ∧ floatBits .add .f32 (T 3) I = some j ∧ floatBits .sub .f32 (S' 3) i = some z ∧ floatBits .sub .f32 (T' 3) j = some z' ∧ (z = 0 ∨ z = 2147483648) ∧ (z' = 0 ∨ z' = 2147483648)
  box : ∃ A B C D, BoxW gs 3 A B C D ∧ MinW 3 A ∧ MinW 3 B ∧ MaxW 3 C ∧ MaxW 3 D
set_option maxHeartbeats 6400000 in
theorem flownF_of {fx fy : Nat} {gs : List Gr} {is : List GrI} {a b : Int} (g1 : Gr) (hg1 : gs.getD 1 default = g1) (hl : gs.length = 3) (h : GrsQ gs is) (hf : ∀ g ∈ gs, g.h = false) (hx : Exa Ieee.single (-2) fx a) (hy : Exa Ieee.single (-2) fy b) (ha : -16 ≤ a ∧ a ≤ 16) (hb : -16 ≤ b ∧ b ≤ 16) :
    FlownF fx fy gs (gs.set 1 { g1 with h := true }) ((gs.set 1 { g1 with h := true }).map (flyF fx fy 1056964608)) (gs.map (flyF 0 0 1056964608)) ((gs.map (flyF 0 0 1056964608)).map (flyF 0 0 3204448256)) ((gs.set 1 { g1 with h := true }).map (pushF fx fy)) := by
  have hfr : ∀ k, k < 3 → (gs.getD k default).h = false := fun k hk => hf _ (by rw [List.getD_eq_getElem?_getD, List.getElem?_eq_getElem (show k < gs.length by omega), Option.getD_some]; exact List.getElem_mem _)
  have hq : ∀ k, k < 3 → GrQ (gs.getD k default) (is.getD k default) := fun k hk => h.2 k (by omega)
  have hF : ∀ k, k < 3 → FlownQ fx fy a b (gs.getD k default) := fun k hk => flownQ_of (hq k hk) (hfr k hk) hx hy ha hb
  have hlh : (gs.set 1 { g1 with h := true }).length = 3 := by rw [List.length_set, hl]
  have hs1 := fun k => set1 hl { g1 with h := true } k
  have hvH : ∀ k, k < 3 → ((gs.set 1 { g1 with h := true }).getD k default).valid = true := fun k hk => by
    rw [hs1 k]
    by_cases e : k = 1
    · subst e; rw [if_pos rfl]
      have := (hq 1 (by omega)).valid
      rw [hg1, Gr.valid_eq] at this
      rw [Gr.valid_eq]; exact this
    · rw [if_neg e]; exact (hq k hk).valid
  have hheld : flyF fx fy 1056964608 { g1 with h := true } = { g1 with h := true } := flyF_held rfl
  have hfl : ∀ k, k < 3 → ((gs.set 1 { g1 with h := true }).map (flyF fx fy 1056964608)).getD k default = if k = 1 then { g1 with h := true } else flyF fx fy 1056964608 (gs.getD k default) := fun k hk => by
    rw [getD_map3 k (by omega), hs1 k]
    by_cases e : k = 1
    · rw [if_pos e, if_pos e, hheld]
    · rw [if_neg e, if_neg e]
  have hps : ∀ k, k < 3 → ((gs.set 1 { g1 with h := true }).map (pushF fx fy)).getD k default = if k = 1 then { g1 with h := true } else pushF fx fy (gs.getD k default) := fun k hk => by
    rw [getD_map3 k (by omega), hs1 k]
    by_cases e : k = 1
    · rw [if_pos e, if_pos e]; unfold pushF; rw [if_pos rfl]
    · rw [if_neg e, if_neg e]
  have hadd : ∀ k, k < 3 → ∃ s t, floatBits .add .f32 (gs.getD k default).sx fx = some s ∧ floatBits .add .f32 (gs.getD k default).sy fy = some t ∧ Exa Ieee.single (-2) s ((is.getD k default).u + a) ∧ Exa Ieee.single (-2) t ((is.getD k default).v + b) := fun k hk => by
    have q := hq k hk; have := q.bu; have := q.bv
    obtain ⟨s, e1, e2⟩ := add32 q.sx hx (by omega) (by omega) (by omega) (by omega)
    obtain ⟨t, e3, e4⟩ := add32 q.sy hy (by omega) (by omega) (by omega) (by omega)
    exact ⟨s, t, e1, e3, e2, e4⟩
  have hpush : ∀ k, k < 3 → Exa Ieee.single (-2) (pushF fx fy (gs.getD k default)).sx ((is.getD k default).u + a) ∧ Exa Ieee.single (-2) (pushF fx fy (gs.getD k default)).sy ((is.getD k default).v + b) ∧ (pushF fx fy (gs.getD k default)).m = (gs.getD k default).m ∧ (pushF fx fy (gs.getD k default)).valid = true := fun k hk => by
    obtain ⟨s, t, e1, e2, e3, e4⟩ := hadd k hk
    have q := hq k hk; have := q.bu; have := q.bv
    have f1 := fin_exa e3 (by omega) (by omega) (by omega)
    have f2 := fin_exa e4 (by omega) (by omega) (by omega)
    have hv := q.valid
    have hff := hfr k hk
    clear q
    generalize gs.getD k default = g at e1 e2 hv hff ⊢
    obtain ⟨ax, ay, sx, sy, r, m, tt, ss, hh⟩ := g
    dsimp only at e1 e2 hff
    subst hff
    unfold pushF
    dsimp only
    rw [e1, e2]
    refine ⟨e3, e4, rfl, ?_⟩
    unfold Gr.valid at hv ⊢
    simp only [Bool.and_eq_true] at hv
    simp_all
  refine ⟨hlh, by rw [List.length_map, hlh], by rw [List.length_map, hl], by rw [List.length_map, List.length_map, hl], by rw [List.length_map, hlh], h.valid, all_of hlh hvH, ?_, ?_, ?_, ?_, ?_, ?_, ?_, ?_, ?_, ?_, ?_, ?_, ?_, ?_, ?_, ?_, ?_, ?_, ?_, ?_, ?_⟩
  · refine all_of (n := 3) (by rw [List.length_map, hlh]) (fun k hk => ?_)
    rw [hfl k hk]
    by_cases e : k = 1
    · rw [if_pos e]; have := hvH 1 (by omega); rw [hs1 1, if_pos rfl] at this; exact this
    · rw [if_neg e]; exact (hF k hk).vP
  · exact all_of (n := 3) (by rw [List.length_map, hl]) (fun k hk => by rw [getD_map3 k (by omega)]; exact (hF k hk).vF)
  · exact all_of (n := 3) (by rw [List.length_map, List.length_map, hl]) (fun k hk => by rw [getD_map3 k (by rw [List.length_map]; omega), getD_map3 k (by omega)]; exact (hF k hk).vB)
  · refine all_of (n := 3) (by rw [List.length_map, hlh]) (fun k hk => ?_)
    rw [hps k hk]
    by_cases e : k = 1
    · rw [if_pos e]; have := hvH 1 (by omega); rw [hs1 1, if_pos rfl] at this; exact this
    · rw [if_neg e]; exact (hpush k hk).2.2.2
  · intro k hk
    rw [hs1 k]
    by_cases e : k = 1
    · rw [if_pos e]; exact ⟨_, fly_held rfl⟩
    · rw [if_neg e]; exact (hF k hk).hasP
  · exact fun k hk => (hF k hk).hasF
  · exact fun k hk => by rw [getD_map3 k (by omega)]; exact (hF k hk).hasB
  · intro k hk
    obtain ⟨s, t, e1, e2, _⟩ := hadd k hk
    rw [hs1 k]
    by_cases e : k = 1
    · subst e; rw [if_pos rfl]; rw [hg1] at e1 e2; dsimp only; rw [e1, e2]; exact ⟨rfl, rfl⟩
    · rw [if_neg e, e1, e2]; exact ⟨rfl, rfl⟩
  · have q1 := hq 1 (by omega); rw [hg1] at q1; rw [hfl 1 (by omega), if_pos rfl, hg1]; exact eq_order q1.ax (by omega) (by omega) (by have := q1.bx; omega)
  · have q1 := hq 1 (by omega); rw [hg1] at q1; rw [hfl 1 (by omega), if_pos rfl, hg1]; exact eq_order q1.ay (by omega) (by omega) (by have := q1.by_; omega)
  · have q1 := hq 1 (by omega); rw [hg1] at q1; rw [hfl 1 (by omega), if_pos rfl, hg1]; exact eq_order q1.sx (by omega) (by omega) (by have := q1.bu; omega)
  · have q1 := hq 1 (by omega); rw [hg1] at q1; rw [hfl 1 (by omega), if_pos rfl, hg1]; exact eq_order q1.sy (by omega) (by omega) (by have := q1.bv; omega)
  · exact fun k hk => by rw [getD_map3 k (by omega)]; exact (hF k hk).eqx
  · exact fun k hk => by rw [getD_map3 k (by omega)]; exact (hF k hk).eqy
  · exact fun k hk => by rw [getD_map3 k (by rw [List.length_map]; omega), getD_map3 k (by omega)]; exact (hF k hk).atx
  · exact fun k hk => by rw [getD_map3 k (by rw [List.length_map]; omega), getD_map3 k (by omega)]; exact (hF k hk).aty
  · exact fun k hk => by rw [getD_map3 k (by rw [List.length_map]; omega), getD_map3 k (by omega)]; exact (hF k hk).turn
  · exact fun k hk => by rw [getD_map3 k (by rw [List.length_map]; omega), getD_map3 k (by omega)]; exact (hF k hk).numt
  · obtain ⟨R, I, e1, e2, e3⟩ := cmul_exa hx hy exa_half (by omega) (by omega) (by omega) (by omega) (by omega) (by omega) (by omega)
    rw [Int.mul_one] at e2 e3
    refine ⟨R, I, e1, fun k hk hk1 => ?_⟩
    rw [hfl k hk, if_neg hk1]
    exact (hF k hk).sp R I e2 e3
  · have hm0 := hq 0 (by omega)
    have hm1 := hq 1 (by omega)
    have hm2 := hq 2 (by omega)
    obtain ⟨P, Q, S, T, m1, m2, m3⟩ := mom_any (gs := gs) (U := fun k => (is.getD k default).u) (V := fun k => (is.getD k default).v) (M := fun k => (is.getD k default).m) 3 (by omega) (fun k hk => by
      have q := hq k hk; have := q.bu; have := q.bv
      exact ⟨q.sx, q.sy, q.m, by omega, by omega, q.bm⟩)
    obtain ⟨P', Q', S', T', n1, n2, n3⟩ := mom_any (gs := (gs.set 1 { g1 with h := true }).map (pushF fx fy)) (U := fun k => (is.getD k default).u + if k = 1 then 0 else a) (V := fun k => (is.getD k default).v + if k = 1 then 0 else b) (M := fun k => (is.getD k default).m) 3 (by omega) (fun k hk => by
      have q := hq k hk; have := q.bu; have := q.bv
      rw [hps k hk]
      by_cases e : k = 1
      · subst e
        rw [hg1] at q
        simp only [if_pos, Int.add_zero]
        exact ⟨q.sx, q.sy, q.m, by omega, by omega, q.bm⟩
      · simp only [if_neg e]
        obtain ⟨e1, e2, e3, _⟩ := hpush k hk
        rw [e3]
        exact ⟨e1, e2, q.m, by omega, by omega, q.bm⟩)
    obtain ⟨m, k1, k2⟩ := add32 hm0.m hm2.m (by omega) (by omega) (by have := hm0.bm; omega) (by have := hm2.bm; omega)
    obtain ⟨R, I, c1, c2, c3⟩ := cmul_exa hx hy k2 (by omega) (by omega) (by omega) (by omega) (by omega) (by omega) (by have := hm0.bm; have := hm2.bm; omega)
    have hbm : ∀ (u m : Int), -24 ≤ u ∧ u ≤ 24 → 1 ≤ m ∧ m ≤ 16 → (u * m).natAbs ≤ 400 := by
      intro u m hu hm
      rw [Int.natAbs_mul]
      have := Nat.mul_le_mul (show u.natAbs ≤ 24 by omega) (show m.natAbs ≤ 16 by omega)
      omega
    have u0 := hbm (is.getD 0 default).u (is.getD 0 default).m (by have := hm0.bu; omega) (by have := hm0.bm; omega)
    have u1 := hbm (is.getD 1 default).u (is.getD 1 default).m (by have := hm1.bu; omega) (by have := hm1.bm; omega)
    have u2 := hbm (is.getD 2 default).u (is.getD 2 default).m (by have := hm2.bu; omega) (by have := hm2.bm; omega)
    have v0 := hbm (is.getD 0 default).v (is.getD 0 default).m (by have := hm0.bv; omega) (by have := hm0.bm; omega)
    have v1 := hbm (is.getD 1 default).v (is.getD 1 default).m (by have := hm1.bv; omega) (by have := hm1.bm; omega)
    have v2 := hbm (is.getD 2 default).v (is.getD 2 default).m (by have := hm2.bv; omega) (by have := hm2.bm; omega)
    have am := hbm a ((is.getD 0 default).m + (is.getD 2 default).m) (by omega) (by have := hm0.bm; have := hm2.bm; omega)
    have bm := hbm b ((is.getD 0 default).m + (is.getD 2 default).m) (by omega) (by have := hm0.bm; have := hm2.bm; omega)
    simp only [sumJ, Int.zero_add] at m2 m3 n2 n3
    rw [if_neg (show ¬ (0 : Nat) = 1 by decide), if_pos trivial, if_neg (show ¬ (2 : Nat) = 1 by decide), Int.add_zero] at n2 n3
    have x1 : ((is.getD 0 default).u + a) * (is.getD 0 default).m + (is.getD 1 default).u * (is.getD 1 default).m + ((is.getD 2 default).u + a) * (is.getD 2 default).m = ((is.getD 0 default).u * (is.getD 0 default).m + (is.getD 1 default).u * (is.getD 1 default).m + (is.getD 2 default).u * (is.getD 2 default).m) + a * ((is.getD 0 default).m + (is.getD 2 default).m) := by
      rw [Int.add_mul, Int.add_mul, Int.mul_add]; omega
    have x2 : ((is.getD 0 default).v + b) * (is.getD 0 default).m + (is.getD 1 default).v * (is.getD 1 default).m + ((is.getD 2 default).v + b) * (is.getD 2 default).m = ((is.getD 0 default).v * (is.getD 0 default).m + (is.getD 1 default).v * (is.getD 1 default).m + (is.getD 2 default).v * (is.getD 2 default).m) + b * ((is.getD 0 default).m + (is.getD 2 default).m) := by
      rw [Int.add_mul, Int.add_mul, Int.mul_add]; omega
    rw [x1] at n2
    rw [x2] at n3
    obtain ⟨i, s1, s2⟩ := add32 m2 c2 (by omega) (by omega) (by omega) (by omega)
    obtain ⟨j, s3, s4⟩ := add32 m3 c3 (by omega) (by omega) (by omega) (by omega)
    obtain ⟨z, d1, d2⟩ := diff_zero n2 s2 rfl (by omega) (by omega) (by omega)
    obtain ⟨z', d3, d4⟩ := diff_zero n3 s4 rfl (by omega) (by omega) (by omega)
    refine ⟨P, Q, S, T, P', Q', S', T', m, R, I, i, j, z, z', m1, n1, ?_, ?_, k1, c1, s1, s3, d1, d3, d2, d4⟩
    · rw [fin_exa m2 (by omega) (by omega) (by omega), fin_exa m3 (by omega) (by omega) (by omega)]; rfl
    · rw [fin_exa n2 (by omega) (by omega) (by omega), fin_exa n3 (by omega) (by omega) (by omega)]; rfl
  · exact box_exa h 3 hl (by omega)
end Go.Proofs.Ytklceohoghjhdaa
