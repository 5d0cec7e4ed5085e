/- A wall from a place in quarters, and the sides of the drawn grains: plain facts. -/
import Derived.Test.YtlflmofclflgbaaHg
namespace Go.Proofs.Ytlflmofclflgbaa
open Go.RowKit Fl

theorem exa_two4 : Exa Ieee.single (-2) 1073741824 8 := ⟨fun _ => by decide +kernel, fun h => by cases h⟩
theorem word_two : Ieee.single.nearest false 8 (-2) = 1073741824 := by decide +kernel
theorem word_one : Ieee.single.nearest false 4 (-2) = 1065353216 := by decide +kernel
theorem pow_five : powF (1073741824, 1065353216) = some 1084227584 := by decide +kernel
theorem place_wall (fx fy : Nat) (a b : Int) (hx : Exa Ieee.single (-2) fx a) (ha : -16 ≤ a ∧ a ≤ 16) (hy : Exa Ieee.single (-2) fy b) (hb : -16 ≤ b ∧ b ≤ 16) :
    ∃ tx ty, floatBits .add .f32 fx 1073741824 = some tx ∧ floatBits .add .f32 fy 1065353216 = some ty ∧ WallW fx fy tx ty 0 0 ∧ ∀ gs is, GrsQ gs is → Sides fx fy tx ty gs := by
  obtain ⟨tx, h1, h2⟩ := add32 hx exa_two4 (by omega) (by omega) (by omega) (by omega)
  obtain ⟨ty, h3, h4⟩ := add32 hy exa_one4 (by omega) (by omega) (by omega) (by omega)
  obtain ⟨dx, h5, h6⟩ := sub32 h2 hx (by omega) (by omega) (by omega) (by omega)
  obtain ⟨dy, h7, h8⟩ := sub32 h4 hy (by omega) (by omega) (by omega) (by omega)
  have e1 : a + 8 - a = 8 := by omega
  have e2 : b + 4 - b = 4 := by omega
  rw [e1] at h6
  rw [e2] at h8
  have d1 : dx = 1073741824 := (h6.1 (by omega)).trans word_two
  have d2 : dy = 1065353216 := (h8.1 (by omega)).trans word_one
  subst d1 d2
  refine ⟨tx, ty, h1, h3, ⟨?_, ?_, by decide, _, _, _, h5, h7, by decide, by decide, pow_five, by decide, by decide⟩, ?_⟩
  · rw [fin_exa hx (by omega) (by omega) (by omega), fin_exa hy (by omega) (by omega) (by omega)]; rfl
  · rw [fin_exa h2 (by omega) (by omega) (by omega), fin_exa h4 (by omega) (by omega) (by omega)]; rfl
  · intro gs is hq k hk
    have q := hq.2 k hk
    have bx := q.bx
    have by' := q.by_
    obtain ⟨wx, g1, g2⟩ := sub32 q.ax hx (by omega) (by omega) (by omega) (by omega)
    obtain ⟨wy, g3, g4⟩ := sub32 q.ay hy (by omega) (by omega) (by omega) (by omega)
    obtain ⟨p, g5, g6⟩ := mul32 exa_two4 g4 (by omega) (by omega) (by omega) (by omega) (by omega) (by omega)
    obtain ⟨r, g7, g8⟩ := mul32 exa_one4 g2 (by omega) (by omega) (by omega) (by omega) (by omega) (by omega)
    obtain ⟨s, g9, g10⟩ := sub32 g6 g8 (by omega) (by omega) (by omega) (by omega)
    refine ⟨s, ?_, fin_exa g10 (by omega) (by omega) (by omega)⟩
    unfold sideO
    simp only [h5, h7, g1, g3, g5, g7, g9, Option.bind_some]
theorem sides_mem {fx fy tx ty : Nat} {gs : List Gr} (h : Sides fx fy tx ty gs) {g : Gr} (hg : g ∈ gs) : ∃ r, sideO fx fy tx ty g.ax g.ay = some r ∧ fin32 r = true := by
  obtain ⟨k, hk, rfl⟩ := List.getElem_of_mem hg
  have := h k hk
  rwa [List.getD_eq_getElem?_getD, List.getElem?_eq_getElem hk, Option.getD_some] at this
theorem getD_mem {gs : List Gr} {k : Nat} (hk : k < gs.length) : gs.getD k default ∈ gs := by
  rw [List.getD_eq_getElem?_getD, List.getElem?_eq_getElem hk]; exact List.getElem_mem _
theorem left_mem {fx fy tx ty n : Nat} {gs : List Gr} {g : Gr} (h : g ∈ leftB fx fy tx ty gs n) : g ∈ gs ∧ beyB fx fy tx ty g = false := by
  have h1 := List.mem_filter.1 h
  exact ⟨List.mem_of_mem_take h1.1, by simpa using h1.2⟩
theorem sides_left {fx fy tx ty n : Nat} {gs : List Gr} (h : Sides fx fy tx ty gs) : Sides fx fy tx ty (leftB fx fy tx ty gs n) := fun _ hk => sides_mem h (left_mem (getD_mem hk)).1
theorem valid_left {fx fy tx ty n : Nat} {gs : List Gr} (h : gs.all Gr.valid = true) : (leftB fx fy tx ty gs n).all Gr.valid = true := by
  rw [List.all_eq_true] at h ⊢
  exact fun g hg => h g (left_mem hg).1
theorem none_left (fx fy tx ty n : Nat) (gs : List Gr) : idxB (beyB fx fy tx ty) (leftB fx fy tx ty gs n) (leftB fx fy tx ty gs n).length = [] := idxB_none _ _ fun _ hk => (left_mem (getD_mem hk)).2
/-- how many of the first k grains are beyond, and which ones: what the law's loop needs -/
structure Cnt (fx fy tx ty : Nat) (gs : List Gr) (zs : List Nat) (cnt : Nat → Nat) : Prop where
  zero : cnt 0 = 0
  no : ∀ i, i < 4 → beyB fx fy tx ty (gs.getD i default) = false → cnt (i + 1) = cnt i
  yes : ∀ i, i < 4 → beyB fx fy tx ty (gs.getD i default) = true → cnt (i + 1) = cnt i + 1 ∧ cnt i < zs.length ∧ zs.getD (cnt i) 0 = i
  all : cnt 4 = zs.length
theorem cnt_of (fx fy tx ty : Nat) (gs : List Gr) : Cnt fx fy tx ty gs (idxB (beyB fx fy tx ty) gs 4) fun i => (idxB (beyB fx fy tx ty) gs i).length := by
  refine ⟨rfl, fun i _ h => ?_, fun i hi h => ?_, rfl⟩
  · show (idxB _ _ (i + 1)).length = _
    rw [idxB_succ, h]; rfl
  · have h2 := idxB_at (beyB fx fy tx ty) gs 4 i hi h
    refine ⟨?_, h2.1, ?_⟩
    · show (idxB _ _ (i + 1)).length = _
      rw [idxB_succ, h]; simp
    · rw [List.getD_eq_getElem?_getD, h2.2]; rfl
end Go.Proofs.Ytlflmofclflgbaa
