/- Piles of grains: plain facts on what is made in which order. -/
import Derived.Test.YtljcgfgkfkoeeaaGri
namespace Go.Proofs.Ytljcgfgkfkoeeaa
open Go.RowKit Fl

def root3 : Nat := 1071494103
def pxO (r n k : Nat) : Option Nat := opO .mul (numO r) (numO (floatOfInt .f32 (2 * (k : Int) + (n : Int))))
def pyO (r n : Nat) : Option Nat := opO .mul (opO .mul (numO root3) (numO r)) (numO (floatOfInt .f32 (n : Int)))
def osRow (r n k : Nat) : List (Option Nat × Option Nat) := (List.range k).map fun k => (pxO r n k, pyO r n)
/-- the places of all grains of the rows before n -/
def osUp (r rows : Nat) : Nat → List (Option Nat × Option Nat)
  | 0 => []
  | n + 1 => osUp r rows n ++ osRow r n (rows - n)
def os (r rows n k : Nat) : List (Option Nat × Option Nat) := osUp r rows n ++ osRow r n k
theorem os_snoc (r rows n k : Nat) : os r rows n (k + 1) = os r rows n k ++ [(pxO r n k, pyO r n)] := by
  unfold os osRow
  rw [List.range_succ, List.map_append, List.append_assoc]; rfl
theorem os_zero (r rows n : Nat) : os r rows n 0 = osUp r rows n := by simp [os, osRow]
theorem os_next (r rows n : Nat) : os r rows n (rows - n) = osUp r rows (n + 1) := rfl
theorem osUp_len (r rows : Nat) : ∀ n, n ≤ rows → (osUp r rows n).length ≤ n * rows
  | 0, _ => by simp [osUp]
  | n + 1, h => by
    have := osUp_len r rows n (by omega)
    rw [osUp, List.length_append, Nat.succ_mul]
    simp only [osRow, List.length_map, List.length_range]
    omega
theorem os_len (r rows n k : Nat) (hr : rows ≤ 6) (hn : n ≤ rows) (hk : k ≤ rows) : (os r rows n k).length ≤ 42 := by
  have h := osUp_len r rows n hn
  unfold os
  rw [List.length_append]
  simp only [osRow, List.length_map, List.length_range]
  have : n * rows ≤ 6 * 6 := Nat.mul_le_mul (by omega) hr
  omega
/-- the number of all grains of a pile -/
theorem osUp_all (r : Nat) : ∀ rows : Fin 7, (osUp r rows.val rows.val).length ≤ 21 := by
  intro rows
  match rows with
  | ⟨0, _⟩ => simp [osUp]
  | ⟨1, _⟩ => simp [osUp, osRow]
  | ⟨2, _⟩ => simp [osUp, osRow]
  | ⟨3, _⟩ => simp [osUp, osRow]
  | ⟨4, _⟩ => simp [osUp, osRow]
  | ⟨5, _⟩ => simp [osUp, osRow]
  | ⟨6, _⟩ => simp [osUp, osRow]
theorem osUp_pos (r rows : Nat) (h : 1 ≤ rows) : 0 < (osUp r rows rows).length := by
  obtain ⟨k, rfl⟩ : ∃ k, rows = k + 1 := ⟨rows - 1, by omega⟩
  rw [osUp, List.length_append]
  simp only [osRow, List.length_map, List.length_range]
  omega

def mkP (r m : Nat) (p : Nat × Nat) : Gr := ⟨p.1, p.2, 0, 0, r, m, 0, 0, false⟩
structure Reps (vs : List (Nat × Nat)) (o : List (Option Nat × Option Nat)) : Prop where
  len : vs.length = o.length
  at_ : ∀ j, j < o.length → Rep (vs.getD j (0, 0)).1 (o.getD j (none, none)).1 ∧ Rep (vs.getD j (0, 0)).2 (o.getD j (none, none)).2
theorem Reps.nil : Reps [] [] := ⟨rfl, fun j hj => absurd hj (Nat.not_lt_zero j)⟩
theorem Reps.snoc {vs : List (Nat × Nat)} {o : List (Option Nat × Option Nat)} (h : Reps vs o) {x y : Nat} {a b : Option Nat} (hx : Rep x a) (hy : Rep y b) : Reps (vs ++ [(x, y)]) (o ++ [(a, b)]) := by
  refine ⟨by simp [h.len], fun j hj => ?_⟩
  by_cases hjk : j < o.length
  · have := h.at_ j hjk
    have e1 : (vs ++ [(x, y)]).getD j (0, 0) = vs.getD j (0, 0) := by simp [List.getD, List.getElem?_append_left (show j < vs.length by rw [h.len]; exact hjk)]
    have e2 : (o ++ [(a, b)]).getD j (none, none) = o.getD j (none, none) := by simp [List.getD, List.getElem?_append_left hjk]
    rw [e1, e2]; exact this
  · obtain rfl : j = o.length := by simp at hj; omega
    have e1 : (vs ++ [(x, y)]).getD o.length (0, 0) = (x, y) := by simp [List.getD, ← h.len]
    have e2 : (o ++ [(a, b)]).getD o.length (none, none) = (a, b) := by simp [List.getD]
    rw [e1, e2]; exact ⟨hx, hy⟩

def okP (r m : Nat) (o : Option Nat × Option Nat) : Bool := finO o.1 && finO o.2 && (fin32 r && fin32 m && pos32 r && pos32 m)
theorem mkP_valid (r m : Nat) (p : Nat × Nat) : (mkP r m p).valid = (fin32 p.1 && fin32 p.2 && (fin32 r && fin32 m && pos32 r && pos32 m)) := by
  have h0 : fin32 0 = true := by decide
  simp only [Gr.valid, mkP, h0]
  generalize fin32 p.1 = a; generalize fin32 p.2 = z; generalize fin32 r = b; generalize fin32 m = c; generalize pos32 r = d; generalize pos32 m = e
  revert a z b c d e; decide
def pileGs (r m rows : Nat) : List Gr := (osUp r rows rows).map fun o => mkP r m (o.1.getD 0, o.2.getD 0)
def okPile (r m rows : Nat) : Bool := (osUp r rows rows).all (okP r m)
theorem reps_valid {r m : Nat} {vs : List (Nat × Nat)} {o : List (Option Nat × Option Nat)} (h : Reps vs o) : (vs.map (mkP r m)).all Gr.valid = o.all (okP r m) := by
  rw [List.all_map, Bool.eq_iff_iff, List.all_eq_true, List.all_eq_true]
  have key : ∀ j, j < o.length → (mkP r m (vs.getD j (0, 0))).valid = okP r m (o.getD j (none, none)) := by
    intro j hj
    obtain ⟨h1, h2⟩ := h.at_ j hj
    rw [mkP_valid, fin_rep h1, fin_rep h2]; rfl
  constructor
  · intro h1 x hx
    obtain ⟨j, hj, rfl⟩ := List.getElem_of_mem hx
    have := key j hj
    rw [List.getD_eq_getElem?_getD, List.getElem?_eq_getElem (show j < vs.length by rw [h.len]; exact hj), List.getD_eq_getElem?_getD, List.getElem?_eq_getElem hj] at this
    simp only [Option.getD_some] at this
    rw [← this]
    exact h1 _ (List.getElem_mem _)
  · intro h1 x hx
    obtain ⟨j, hj, rfl⟩ := List.getElem_of_mem hx
    have hj' : j < o.length := by rw [← h.len]; exact hj
    have := key j hj'
    rw [List.getD_eq_getElem?_getD, List.getElem?_eq_getElem hj, List.getD_eq_getElem?_getD, List.getElem?_eq_getElem hj'] at this
    simp only [Option.getD_some] at this
    show (mkP r m vs[j]).valid = true
    rw [this]
    exact h1 _ (List.getElem_mem _)
theorem reps_places {r m : Nat} {vs : List (Nat × Nat)} {o : List (Option Nat × Option Nat)} (h : Reps vs o) (hok : o.all (okP r m) = true) : vs.map (mkP r m) = o.map fun o => mkP r m (o.1.getD 0, o.2.getD 0) := by
  rw [List.all_eq_true] at hok
  apply List.ext_getElem
  · simp [h.len]
  · intro j h1 h2
    have hj : j < o.length := by simpa using h2
    have hjv : j < vs.length := by simpa using h1
    obtain ⟨r1, r2⟩ := h.at_ j hj
    have hk := hok o[j] (List.getElem_mem _)
    rw [List.getD_eq_getElem?_getD, List.getElem?_eq_getElem hjv, List.getD_eq_getElem?_getD, List.getElem?_eq_getElem hj] at r1 r2
    simp only [Option.getD_some] at r1 r2
    simp only [List.getElem_map]
    generalize o[j] = p at r1 r2 hk
    generalize vs[j] = q at r1 r2
    obtain ⟨a, b⟩ := p
    obtain ⟨x, y⟩ := q
    cases a with
    | none => simp [okP, finO] at hk
    | some a => cases b with
      | none => simp [okP, finO] at hk
      | some b => obtain ⟨r1, _⟩ := r1; obtain ⟨r2, _⟩ := r2; simp only at r1 r2; subst r1; subst r2; rfl
theorem pileGs_length (r m rows : Nat) : (pileGs r m rows).length = (osUp r rows rows).length := by simp [pileGs]
theorem pile_valid {r m rows : Nat} (h : okPile r m rows = true) : (pileGs r m rows).all Gr.valid = true := by
  unfold pileGs
  unfold okPile at h
  rw [List.all_map, List.all_eq_true]
  rw [List.all_eq_true] at h
  intro o ho
  have := h o ho
  show (mkP r m _).valid = true
  rw [mkP_valid]
  obtain ⟨a, b⟩ := o
  cases a with
  | none => simp [okP, finO] at this
  | some a => cases b with
    | none => simp [okP, finO] at this
    | some b => exact this
end Go.Proofs.Ytljcgfgkfkoeeaa
