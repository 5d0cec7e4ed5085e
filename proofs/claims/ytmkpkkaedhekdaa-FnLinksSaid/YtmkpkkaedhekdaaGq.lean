/- Grains whose numbers are small integers of quarters, halves and sixteenths. -/
import Derived.Test.YtmkpkkaedhekdaaGr
import Derived.Test.YtmkpkkaedhekdaaQua
namespace Go.Proofs.Ytmkpkkaedhekdaa
open Go.RowKit Fl

structure GrI where
  x : Int
  y : Int
  u : Int
  v : Int
  r : Int
  m : Int
  t : Int
  s : Int
instance : Inhabited GrI := ⟨⟨0, 0, 0, 0, 0, 0, 0, 0⟩⟩
structure GrQ (g : Gr) (i : GrI) : Prop where
  ax : Exa Ieee.single (-2) g.ax i.x
  bx : -64 ≤ i.x ∧ i.x ≤ 64
  ay : Exa Ieee.single (-2) g.ay i.y
  by_ : -16 ≤ i.y ∧ i.y ≤ 16
  sx : Exa Ieee.single (-2) g.sx i.u
  bu : -4 ≤ i.u ∧ i.u ≤ 4
  sy : Exa Ieee.single (-2) g.sy i.v
  bv : -4 ≤ i.v ∧ i.v ≤ 4
  r : Exa Ieee.single (-2) g.r i.r
  br : 1 ≤ i.r ∧ i.r ≤ 6
  m : Exa Ieee.single (-2) g.m i.m
  bm : 1 ≤ i.m ∧ i.m ≤ 8
  t : Exa Ieee.single (-4) g.t i.t
  bt : -8 ≤ i.t ∧ i.t ≤ 8
  s : Exa Ieee.single (-1) g.s i.s
  bs : -4 ≤ i.s ∧ i.s ≤ 4
theorem exa_zero (f : Ieee.Format) (p : Int) : Exa f p 0 0 := ⟨fun h => absurd rfl h, fun _ => .inl rfl⟩
theorem pos_exa {p : Int} {x : Nat} {a : Int} (hx : Exa Ieee.single p x a) (h1 : -149 ≤ p) (h2 : p ≤ 0) (h3 : 1 ≤ a) (h4 : a ≤ 1000000) : pos32 x = true := by
  unfold pos32
  rw [order32 hx (exa_zero _ p) h1 h2 (by omega) (by omega)]
  have : compare a 0 = Ordering.gt := by simp only [compare, compareOfLessAndEq]; rw [if_neg (by omega), if_neg (by omega)]
  rw [this]; rfl
theorem GrQ.valid {g : Gr} {i : GrI} (h : GrQ g i) : g.valid = true := by
  have h1 := fin_exa h.ax (by omega) (by omega) (by have := h.bx; omega)
  have h2 := fin_exa h.ay (by omega) (by omega) (by have := h.by_; omega)
  have h3 := fin_exa h.sx (by omega) (by omega) (by have := h.bu; omega)
  have h4 := fin_exa h.sy (by omega) (by omega) (by have := h.bv; omega)
  have h5 := fin_exa h.r (by omega) (by omega) (by have := h.br; omega)
  have h6 := fin_exa h.m (by omega) (by omega) (by have := h.bm; omega)
  have h7 := fin_exa h.t (by omega) (by omega) (by have := h.bt; omega)
  have h8 := fin_exa h.s (by omega) (by omega) (by have := h.bs; omega)
  have h9 := pos_exa h.r (by omega) (by omega) h.br.1 (by have := h.br; omega)
  have h10 := pos_exa h.m (by omega) (by omega) h.bm.1 (by have := h.bm; omega)
  unfold Gr.valid
  rw [h1, h2, h3, h4, h5, h6, h7, h8, h9, h10]; rfl
/-- the grains of a list are so, one after another -/
def GrsQ (gs : List Gr) (is : List GrI) : Prop := is.length = gs.length ∧ ∀ k, k < gs.length → GrQ (gs.getD k default) (is.getD k default)
theorem GrsQ.valid {gs : List Gr} {is : List GrI} (h : GrsQ gs is) : gs.all Gr.valid = true := by
  rw [List.all_eq_true]
  intro g hg
  obtain ⟨k, hk, rfl⟩ := List.getElem_of_mem hg
  have := (h.2 k hk).valid
  rwa [List.getD_eq_getElem?_getD, List.getElem?_eq_getElem hk, Option.getD_some] at this
theorem GrsQ.nil : GrsQ [] [] := ⟨rfl, fun k hk => absurd hk (Nat.not_lt_zero k)⟩
theorem GrsQ.snoc {gs : List Gr} {is : List GrI} {g : Gr} {i : GrI} (h : GrsQ gs is) (hg : GrQ g i) : GrsQ (gs ++ [g]) (is ++ [i]) := by
  refine ⟨by simp [h.1], fun k hk => ?_⟩
  by_cases hlt : k < gs.length
  · have := h.2 k hlt
    rw [show (gs ++ [g]).getD k default = gs.getD k default by simp [List.getD, List.getElem?_append_left hlt], show (is ++ [i]).getD k default = is.getD k default by simp [List.getD, List.getElem?_append_left (show k < is.length by rw [h.1]; exact hlt)]]
    exact this
  · obtain rfl : k = gs.length := by simp at hk; omega
    rw [show (gs ++ [g]).getD gs.length default = g by simp [List.getD], show (is ++ [i]).getD gs.length default = i by simp [List.getD, ← h.1]]
    exact hg
end Go.Proofs.Ytmkpkkaedhekdaa
