/- Grains as cells: what a grain's cells hold, when it is valid; contracts of the functions that tell so. -/
import Derived.Test.YtljcgfgkfkoeeaaList
import Derived.Lib.Hide
import Derived.Laws.CopyRow
import Derived.Laws.OwnMore
import Derived.Laws.ComplexArith
import Derived.Deep.QuietTactic
import Derived.BigQuiet
import Derived.BigRegion
import Derived.Deep.RegionWith
import Derived.BigCall
namespace Go.Proofs.Ytljcgfgkfkoeeaa
open Go.RowKit Fl

theorem Quiet.cell {w w' : World} (h : Quiet w w') (a : Addr) : w'.cell? a = w.cell? a := by obtain ⟨n, rfl⟩ := h; rfl

structure Gr where
  ax : Nat
  ay : Nat
  sx : Nat
  sy : Nat
  r : Nat
  m : Nat
  t : Nat
  s : Nat
  h : Bool
def Gr.cells (g : Gr) : List Value := [.complex .f32 g.ax g.ay, .complex .f32 g.sx g.sy, .float .f32 g.r, .float .f32 g.m, .float .f32 g.t, .float .f32 g.s, .bool g.h]
def Gr.val (g : Gr) : Value := .agg #[.complex .f32 g.ax g.ay, .complex .f32 g.sx g.sy, .float .f32 g.r, .float .f32 g.m, .float .f32 g.t, .float .f32 g.s, .bool g.h]
def pos32 (x : Nat) : Bool := FloatKind.f32.format.order x 0 == some .gt
def Gr.valid (g : Gr) : Bool := fin32 g.ax && fin32 g.ay && (fin32 g.sx && fin32 g.sy) && (fin32 g.r && fin32 g.m && fin32 g.t && fin32 g.s) && pos32 g.r && pos32 g.m

/-- the cells of a grain that begins at cell o of block b -/
structure GrAt (w : World) (b o : Nat) (g : Gr) : Prop where
  c0 : w.cell? ⟨b, o, none⟩ = some (.complex .f32 g.ax g.ay)
  c1 : w.cell? ⟨b, o + 1, none⟩ = some (.complex .f32 g.sx g.sy)
  c2 : w.cell? ⟨b, o + 2, none⟩ = some (.float .f32 g.r)
  c3 : w.cell? ⟨b, o + 3, none⟩ = some (.float .f32 g.m)
  c4 : w.cell? ⟨b, o + 4, none⟩ = some (.float .f32 g.t)
  c5 : w.cell? ⟨b, o + 5, none⟩ = some (.float .f32 g.s)
  c6 : w.cell? ⟨b, o + 6, none⟩ = some (.bool g.h)

theorem isFiniteComplex_any (a b : Nat) (w : World) :
    Calls Try.prog 39 #[.complex .f32 a b] w fun e w' => e = .returned (.bool (fin32 a && fin32 b)) ∧ Quiet w w' := by
  cases ha : fin32 a <;> cases hb : fin32 b
  all_goals
    go_enter Try.func39, Try.ntmps39
    go_wp2_with (first | (go_at_call 42; (with_reducible refine (isFinite_any a _).mono ?_); rintro e w1 ⟨rfl, hq1⟩) | (go_at_call 42; (with_reducible refine (isFinite_any b _).mono ?_); rintro e w2 ⟨rfl, hq2⟩))
    go_ret
    first | exact ⟨rfl, hq1.trans hq2⟩ | exact ⟨rfl, hq1⟩
theorem Gr.valid_eq (g : Gr) : g.valid = ((fin32 g.ax && fin32 g.ay) && ((fin32 g.sx && fin32 g.sy) && ((fin32 g.r && pos32 g.r) && ((fin32 g.m && pos32 g.m) && (fin32 g.t && fin32 g.s))))) := by
  unfold Gr.valid
  generalize fin32 g.ax = a; generalize fin32 g.ay = b; generalize fin32 g.sx = c; generalize fin32 g.sy = d
  generalize fin32 g.r = e; generalize fin32 g.m = f; generalize fin32 g.t = h; generalize fin32 g.s = i
  generalize pos32 g.r = j; generalize pos32 g.m = k
  revert a b c d e f h i j k; decide

theorem GrAt.quiet {w w' : World} {b o : Nat} {g : Gr} (h : GrAt w b o g) (hq : Quiet w w') : GrAt w' b o g := by
  obtain ⟨m, rfl⟩ := hq; exact ⟨h.c0, h.c1, h.c2, h.c3, h.c4, h.c5, h.c6⟩
theorem GrAt.below {w w' : World} {b o : Nat} {g : Gr} (h : GrAt w b o g) {B : Nat} (hb : Below B w w') (hB : w.heap.size ≤ B) : GrAt w' b o g := by
  have key : ∀ {p : Addr} {v : Value}, w.cell? p = some v → w'.cell? p = some v := fun {p v} hc => by
    rw [hb.cell (p := p) (Nat.lt_of_lt_of_le (World.block_lt_of_cell? w _ hc) hB)]; exact hc
  exact ⟨key h.c0, key h.c1, key h.c2, key h.c3, key h.c4, key h.c5, key h.c6⟩


instance : Inhabited Gr := ⟨⟨0, 0, 0, 0, 0, 0, 0, 0, false⟩⟩
/-- the row of grains that begins at block b -/
def GrRow (w : World) (b : Nat) (gs : List Gr) : Prop := ∀ i, i < gs.length → GrAt w b (i * 7) (gs.getD i default)
theorem GrRow.quiet {w w' : World} {b : Nat} {gs : List Gr} (h : GrRow w b gs) (hq : Quiet w w') : GrRow w' b gs := fun i hi => (h i hi).quiet hq
theorem GrRow.below {w w' : World} {b : Nat} {gs : List Gr} (h : GrRow w b gs) {B : Nat} (hb : Below B w w') (hB : w.heap.size ≤ B) : GrRow w' b gs := fun i hi => (h i hi).below hb hB

theorem all_take (gs : List Gr) (k : Nat) (h : k < gs.length) : (gs.take (k + 1)).all Gr.valid = ((gs.take k).all Gr.valid && (gs.getD k default).valid) := by
  rw [List.take_succ_eq_append_getElem h, List.all_append]
  simp [List.getD, List.getElem?_eq_getElem h]
theorem all_no (gs : List Gr) (k : Nat) (h : k < gs.length) (hv : (gs.getD k default).valid = false) : gs.all Gr.valid = false := by
  rw [List.all_eq_false]
  refine ⟨gs[k], List.getElem_mem h, ?_⟩
  simp only [List.getD, List.getElem?_eq_getElem h, Option.getD_some] at hv
  simp [hv]

end Go.Proofs.Ytljcgfgkfkoeeaa
