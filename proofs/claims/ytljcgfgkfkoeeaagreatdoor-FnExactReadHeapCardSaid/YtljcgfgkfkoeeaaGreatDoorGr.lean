/- Grains as cells: what a grain's cells hold, when it is valid; contracts of the functions that tell so. -/
import Derived.Test.YtljcgfgkfkoeeaaGreatDoorList
import Derived.Lib.Hide
import Derived.Laws.CopyRow
import Derived.Laws.OwnMore
import Derived.Laws.ComplexArith
import Derived.Deep.QuietTactic
import Derived.BigQuiet
import Derived.BigRegion
import Derived.Deep.RegionWith
import Derived.BigCall
namespace Go.Proofs.YtljcgfgkfkoeeaaGreatDoor
open Go.RowKit Fl

theorem Quiet.cell {w w' : World} (h : Quiet w w') (a : Addr) : w'.cell? a = w.cell? a := by obtain ⟨n, rfl⟩ := h; rfl

structure Gr where
  ax : Nat
  ay : Nat
  sx : Nat
  sy : Nat
  r : Nat
  m : Nat
  t : Nat
  s : Nat
  h : Bool
def Gr.cells (g : Gr) : List Value := [.complex .f32 g.ax g.ay, .complex .f32 g.sx g.sy, .float .f32 g.r, .float .f32 g.m, .float .f32 g.t, .float .f32 g.s, .bool g.h]
def Gr.val (g : Gr) : Value := .agg #[.complex .f32 g.ax g.ay, .complex .f32 g.sx g.sy, .float .f32 g.r, .float .f32 g.m, .float .f32 g.t, .float .f32 g.s, .bool g.h]
def pos32 (x : Nat) : Bool := FloatKind.f32.format.order x 0 == some .gt
def Gr.valid (g : Gr) : Bool := fin32 g.ax && fin32 g.ay && (fin32 g.sx && fin32 g.sy) && (fin32 g.r && fin32 g.m && fin32 g.t && fin32 g.s) && pos32 g.r && pos32 g.m

/-- the cells of a grain that begins at cell o of block b -/
structure GrAt (w : World) (b o : Nat) (g : Gr) : Prop where
  c0 : w.cell? ⟨b, o, none⟩ = some (.complex .f32 g.ax g.ay)
  c1 : w.cell? ⟨b, o + 1, none⟩ = some (.complex .f32 g.sx g.sy)
  c2 : w.cell? ⟨b, o + 2, none⟩ = some (.float .f32 g.r)
  c3 : w.cell? ⟨b, o + 3, none⟩ = some (.float .f32 g.m)
  c4 : w.cell? ⟨b, o + 4, none⟩ = some (.float .f32 g.t)
  c5 : w.cell? ⟨b, o + 5, none⟩ = some (.float .f32 g.s)
  c6 : w.cell? ⟨b, o + 6, none⟩ = some (.bool g.h)

theorem l01CFinite_any (a b : Nat) (w : World) :
    Calls Tryz.prog 43 #[.complex .f32 a b] w fun e w' => e = .returned (.bool (fin32 a && fin32 b)) ∧ Quiet w w' := by
  cases ha : fin32 a <;> cases hb : fin32 b
  all_goals
    go_enter Tryz.func43, Tryz.ntmps43
    go_wp2_with (first | (go_at_call 45; (with_reducible refine (l01Finite_any a _).mono ?_); rintro e w1 ⟨rfl, hq1⟩) | (go_at_call 45; (with_reducible refine (l01Finite_any b _).mono ?_); rintro e w2 ⟨rfl, hq2⟩))
    go_ret
    first | exact ⟨rfl, hq1.trans hq2⟩ | exact ⟨rfl, hq1⟩
theorem l02Above_any (a : Nat) (w : World) :
    Calls Tryz.prog 44 #[.float .f32 a] w fun e w' => e = .returned (.bool (fin32 a && pos32 a)) ∧ Quiet w w' := by
  cases ha : fin32 a
  · go_enter Tryz.func44, Tryz.ntmps44
    go_wp2_with (first | (go_at_call 45; (with_reducible refine (l01Finite_any a _).mono ?_); rintro e w1 ⟨rfl, hq1⟩))
    go_ret
    exact ⟨rfl, hq1⟩
  · go_enter Tryz.func44, Tryz.ntmps44
    go_wp2_with (first | (go_at_call 45; (with_reducible refine (l01Finite_any a _).mono ?_); rintro e w1 ⟨rfl, hq1⟩))
    go_ret
    exact ⟨rfl, hq1⟩
theorem isFiniteComplex_any (a b : Nat) (w : World) :
    Calls Tryz.prog 53 #[.complex .f32 a b] w fun e w' => e = .returned (.bool (fin32 a && fin32 b)) ∧ Quiet w w' := by
  cases ha : fin32 a <;> cases hb : fin32 b
  all_goals
    go_enter Tryz.func53, Tryz.ntmps53
    go_wp2_with (first | (go_at_call 63; (with_reducible refine (isFinite_any a _).mono ?_); rintro e w1 ⟨rfl, hq1⟩) | (go_at_call 63; (with_reducible refine (isFinite_any b _).mono ?_); rintro e w2 ⟨rfl, hq2⟩))
    go_ret
    first | exact ⟨rfl, hq1.trans hq2⟩ | exact ⟨rfl, hq1⟩
theorem Gr.valid_eq (g : Gr) : g.valid = ((fin32 g.ax && fin32 g.ay) && ((fin32 g.sx && fin32 g.sy) && ((fin32 g.r && pos32 g.r) && ((fin32 g.m && pos32 g.m) && (fin32 g.t && fin32 g.s))))) := by
  unfold Gr.valid
  generalize fin32 g.ax = a; generalize fin32 g.ay = b; generalize fin32 g.sx = c; generalize fin32 g.sy = d
  generalize fin32 g.r = e; generalize fin32 g.m = f; generalize fin32 g.t = h; generalize fin32 g.s = i
  generalize pos32 g.r = j; generalize pos32 g.m = k
  revert a b c d e f h i j k; decide

theorem GrAt.quiet {w w' : World} {b o : Nat} {g : Gr} (h : GrAt w b o g) (hq : Quiet w w') : GrAt w' b o g := by
  obtain ⟨m, rfl⟩ := hq; exact ⟨h.c0, h.c1, h.c2, h.c3, h.c4, h.c5, h.c6⟩
theorem GrAt.below {w w' : World} {b o : Nat} {g : Gr} (h : GrAt w b o g) {B : Nat} (hb : Below B w w') (hB : w.heap.size ≤ B) : GrAt w' b o g := by
  have key : ∀ {p : Addr} {v : Value}, w.cell? p = some v → w'.cell? p = some v := fun {p v} hc => by
    rw [hb.cell (p := p) (Nat.lt_of_lt_of_le (World.block_lt_of_cell? w _ hc) hB)]; exact hc
  exact ⟨key h.c0, key h.c1, key h.c2, key h.c3, key h.c4, key h.c5, key h.c6⟩

set_option maxHeartbeats 1600000 in
theorem l02Grain_any (b o : Nat) (g : Gr) (w : World) (h : GrAt w b o g) :
    Calls Tryz.prog 27 #[.pointer (some ⟨b, o, none⟩)] w fun e w' => e = .returned (.bool g.valid) ∧ Quiet w w' := by
  rw [g.valid_eq]
  have HA := fun w => l01CFinite_any g.ax g.ay w
  have HB := fun w => l01CFinite_any g.sx g.sy w
  have HC := fun w => l02Above_any g.r w
  have HD := fun w => l02Above_any g.m w
  have HE := fun w => l01Finite_any g.t w
  have HF := fun w => l01Finite_any g.s w
  generalize (fin32 g.ax && fin32 g.ay) = A at HA ⊢
  generalize (fin32 g.sx && fin32 g.sy) = B at HB ⊢
  generalize (fin32 g.r && pos32 g.r) = C at HC ⊢
  generalize (fin32 g.m && pos32 g.m) = D at HD ⊢
  generalize fin32 g.t = E at HE ⊢
  generalize fin32 g.s = F at HF ⊢
  obtain ⟨h0, h1, h2, h3, h4, h5, _⟩ := h
  have HA' := Lib.hid HA
  have HB' := Lib.hid HB
  have HC' := Lib.hid HC
  have HD' := Lib.hid HD
  have HE' := Lib.hid HE
  have HF' := Lib.hid HF
  clear HA HB HC HD HE HF
  have hcase : A = false ∨ A = true ∧ (B = false ∨ B = true ∧ (C = false ∨ C = true ∧ (D = false ∨ D = true ∧ (E = false ∨ E = true ∧ (F = false ∨ F = true))))) := by
    clear HA' HB' HC' HD' HE' HF'
    cases A <;> cases B <;> cases C <;> cases D <;> cases E <;> cases F <;> simp
  rcases hcase with rfl | ⟨rfl, rfl | ⟨rfl, rfl | ⟨rfl, rfl | ⟨rfl, rfl | ⟨rfl, rfl | rfl⟩⟩⟩⟩⟩
  all_goals
    go_enter Tryz.func27, Tryz.ntmps27
    go_wp2_with (first | (go_at_call 43; (with_reducible refine (HA'.out _).mono ?_); rintro e w1 ⟨rfl, n1, rfl⟩) | (go_at_call 43; (with_reducible refine (HB'.out _).mono ?_); rintro e w2 ⟨rfl, n2, rfl⟩) | (go_at_call 44; (with_reducible refine (HC'.out _).mono ?_); rintro e w3 ⟨rfl, n3, rfl⟩) | (go_at_call 44; (with_reducible refine (HD'.out _).mono ?_); rintro e w4 ⟨rfl, n4, rfl⟩) | (go_at_call 45; (with_reducible refine (HE'.out _).mono ?_); rintro e w5 ⟨rfl, n5, rfl⟩) | (go_at_call 45; (with_reducible refine (HF'.out _).mono ?_); rintro e w6 ⟨rfl, n6, rfl⟩))
    go_ret
    exact ⟨rfl, _, rfl⟩

instance : Inhabited Gr := ⟨⟨0, 0, 0, 0, 0, 0, 0, 0, false⟩⟩
/-- the row of grains that begins at block b -/
def GrRow (w : World) (b : Nat) (gs : List Gr) : Prop := ∀ i, i < gs.length → GrAt w b (i * 7) (gs.getD i default)
theorem GrRow.quiet {w w' : World} {b : Nat} {gs : List Gr} (h : GrRow w b gs) (hq : Quiet w w') : GrRow w' b gs := fun i hi => (h i hi).quiet hq
theorem GrRow.below {w w' : World} {b : Nat} {gs : List Gr} (h : GrRow w b gs) {B : Nat} (hb : Below B w w') (hB : w.heap.size ≤ B) : GrRow w' b gs := fun i hi => (h i hi).below hb hB

theorem all_take (gs : List Gr) (k : Nat) (h : k < gs.length) : (gs.take (k + 1)).all Gr.valid = ((gs.take k).all Gr.valid && (gs.getD k default).valid) := by
  rw [List.take_succ_eq_append_getElem h, List.all_append]
  simp [List.getD, List.getElem?_eq_getElem h]
theorem all_no (gs : List Gr) (k : Nat) (h : k < gs.length) (hv : (gs.getD k default).valid = false) : gs.all Gr.valid = false := by
  rw [List.all_eq_false]
  refine ⟨gs[k], List.getElem_mem h, ?_⟩
  simp only [List.getD, List.getElem?_eq_getElem h, Option.getD_some] at hv
  simp [hv]

set_option maxHeartbeats 1600000 in
theorem l02Is_any (N b n c : Nat) (gs : List Gr) (w : World) (hp : w.cell? ⟨N, 0, none⟩ = some (.slice (some ⟨b, 0, none⟩) n c)) (hl : gs.length = n) (hr : GrRow w b gs) (hn : n ≤ 24) :
    Calls Tryz.prog 28 #[.pointer (some ⟨N, 0, none⟩)] w fun e w' => e = .returned (.bool (gs.all Gr.valid)) ∧ Quiet w w' := by
  have HL := Lib.hid hl
  have HR := Lib.hid hr
  clear hl hr
  go_enter Tryz.func28, Tryz.ntmps28
  go_wp2
  go_loopw [3] (fun i wr => ∃ k : Nat, k ≤ n ∧ i = .int .i64 k ∧ Hid ((gs.take k).all Gr.valid = true) ∧ Quiet w wr) (fun i _ => n - (intOf i).toNat)
  case atStart => exact ⟨0, Nat.zero_le _, rfl, rfl, Quiet.refl _⟩
  case round =>
    obtain ⟨k, hk, rfl, hv, m, rfl⟩ := hrel
    by_cases hlt : k < n
    · have HG := Lib.hid (HR.out k (by rw [HL.out]; omega))
      have HT := Lib.hid (all_take gs k (by rw [HL.out]; omega))
      have HF := Lib.hid (all_no gs k (by rw [HL.out]; omega))
      generalize gs.getD k default = g at HG HT HF
      have HC := Lib.hid fun w' (hq : Quiet w w') => l02Grain_any b (k * 7) g w' (HG.out.quiet hq)
      cases hb : g.valid
      · rw [hb] at HC HF
        have HF' := Lib.hid (HF.out rfl)
        clear hb HF HT HG
        go_wp2_with (go_at_call 27; go_loud (refine (HC.out _ ⟨_, rfl⟩).mono ?_); rintro e w1 ⟨rfl, m1, rfl⟩)
        go_ret
        exact ⟨by rw [HF'.out]; rfl, _, rfl⟩
      · rw [hb] at HC HT
        have HT' := Lib.hid (show (gs.take (k + 1)).all Gr.valid = true by rw [HT.out, hv.out]; rfl)
        clear hb HF HT HG hv
        go_wp2_with (go_at_call 27; go_loud (refine (HC.out _ ⟨_, rfl⟩).mono ?_); rintro e w1 ⟨rfl, m1, rfl⟩)
        go_roundw
        case rel => exact ⟨k + 1, by omega, by go_num, HT', _, rfl⟩
        case measure => simp [intOf]; omega
    · have HV := Lib.hid (show gs.all Gr.valid = true by have := hv.out; rwa [List.take_of_length_le (by rw [HL.out]; omega)] at this)
      clear hv
      go_wp2
      go_ret
      exact ⟨by rw [HV.out]; simp; omega, _, rfl⟩
end Go.Proofs.YtljcgfgkfkoeeaaGreatDoor
