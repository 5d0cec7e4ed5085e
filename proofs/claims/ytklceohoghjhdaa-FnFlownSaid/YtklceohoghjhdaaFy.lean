/- FlyHeap on the program's side. -/
import Derived.Test.YtklceohoghjhdaaCh
import Derived.StillTailTactics
namespace Go.Proofs.Ytklceohoghjhdaa
open Go.RowKit Fl

theorem blk_drew {w : World} {g : Nat} {t : TypeId} {cs : Array Value} (h : Blk w g t cs) : Blk w.drew g t cs := h
theorem below_drew {B : Nat} {a w : World} (h : Below B a w) : Below B a w.drew := ⟨h.os, h.tape, h.output, h.size, h.block⟩
/-- a grain behind a tick: what its words become -/
structure FlyW (x y q : Nat) (g h : Gr) : Prop where
  held : g.h = true → h = g
  free : g.h = false → ∃ px py qx qy qs t', floatBits .mul .f32 x q = some px ∧ floatBits .mul .f32 y q = some py ∧ floatBits .add .f32 g.sx px = some h.sx ∧ floatBits .add .f32 g.sy py = some h.sy ∧
    floatBits .mul .f32 h.sx q = some qx ∧ floatBits .mul .f32 h.sy q = some qy ∧ floatBits .add .f32 g.ax qx = some h.ax ∧ floatBits .add .f32 g.ay qy = some h.ay ∧
    floatBits .mul .f32 g.s q = some qs ∧ floatBits .quo .f32 qs 1086918619 = some t' ∧ floatBits .add .f32 g.t t' = some h.t ∧ h.r = g.r ∧ h.m = g.m ∧ h.s = g.s ∧ h.h = false
set_option maxRecDepth 100000 in
set_option maxHeartbeats 3200000 in
theorem flyGrain_of (x y q : Nat) (g h : Gr) (w : World) (hf : FlyW x y q g h) :
    Calls Try.prog 69 #[g.val, .complex .f32 x y, .float .f32 q] w fun e w' => e = .returned h.val ∧ Below w.heap.size w w' := by
  have hsf := run_store_float' Try.prog
  have hsc := run_store_complex Try.prog
  cases hh : g.h
  · obtain ⟨px, py, qx, qy, qs, t', e1, e2, e3, e4, e5, e6, e7, e8, e9, e10, e11, e12, e13, e14, e15⟩ := hf.free hh
    obtain ⟨ax, ay, sx, sy, r, m, t, s, gh⟩ := g
    obtain ⟨ax', ay', sx', sy', r', m', t2, s', h'⟩ := h
    dsimp only at hh e3 e4 e5 e6 e7 e8 e9 e11 e12 e13 e14 e15
    subst hh e12 e13 e14 e15
    have HP := Lib.hid fun w => scale_of x y q px py e1 e2 w
    have HQ := Lib.hid fun w => scale_of sx' sy' q qx qy e5 e6 w
    have HM := Lib.hid fun w => mulNumber_ok s' q qs e9 w
    have f1 := fun w => run_csum (P := Try.prog) .add (Or.inl rfl) 31 sx sy px py sx' sy' e3 e4 w
    have f2 := fun w => run_csum (P := Try.prog) .add (Or.inl rfl) 31 ax ay qx qy ax' ay' e7 e8 w
    have f3 := fun w => run_float_arith (P := Try.prog) w .quo 35 .f32 _ _ _ e10
    have f4 := fun w => run_float_arith (P := Try.prog) w .add 35 .f32 _ _ _ e11
    clear hf e1 e2 e3 e4 e5 e6 e7 e8 e9 e10 e11
    unfold Gr.val
    dsimp only
    go_enter Try.func69, Try.ntmps69
    go_wp2_with (first | (go_at_call 60; (with_reducible refine (HP.out _).mono ?_); rintro e w' ⟨rfl, rfl⟩) | (go_at_call 60; (with_reducible refine (HQ.out _).mono ?_); rintro e w' ⟨rfl, rfl⟩) | (go_at_call 87; (with_reducible refine (HM.out _).mono ?_); rintro e w' ⟨rfl, rfl⟩))
    go_region_with (go_at_call 60; ((with_reducible refine (HP.out _).mono ?_); rintro e w' ⟨rfl, rfl⟩))
    all_goals
      go_wp2
      go_region_with (go_at_call 60; ((with_reducible refine (HQ.out _).mono ?_); rintro e w' ⟨rfl, rfl⟩))
    all_goals
      go_wp2
      go_region_with (go_at_call 87; ((with_reducible refine (HM.out _).mono ?_); rintro e w' ⟨rfl, rfl⟩))
    all_goals
      go_wp2
      refine bodyPost_ret (v := .agg #[.complex .f32 ax' ay', .complex .f32 sx' sy', .float .f32 r', .float .f32 m', .float .f32 t2, .float .f32 s', .bool false]) (results_cell_row Try.results69 _ _ (w.heap.size + 1) 37 #[.complex .f32 ax' ay', .complex .f32 sx' sy', .float .f32 r', .float .f32 m', .float .f32 t2, .float .f32 s', .bool false] (0, 0) _ rfl (blk_drew (blk_drew (blk_drew (blk_new _ _ _ _ (by simp))))) Try.underlying37 rfl (by kernel_rfl)) rfl ⟨rfl, below_drew (below_drew (below_drew (((Below.refl _ _).alloc (Nat.le_refl _) _).alloc (by simp) _)))⟩
  · have hgh := hf.held hh
    subst hgh
    obtain ⟨ax, ay, sx, sy, r, m, t, s, gh⟩ := h
    dsimp only at hh
    subst hh
    clear hf
    unfold Gr.val
    dsimp only
    go_enter Try.func69, Try.ntmps69
    go_wp2
    refine bodyPost_ret (v := .agg #[.complex .f32 ax ay, .complex .f32 sx sy, .float .f32 r, .float .f32 m, .float .f32 t, .float .f32 s, .bool true]) (results_cell_row Try.results69 _ _ (w.heap.size + 1) 37 #[.complex .f32 ax ay, .complex .f32 sx sy, .float .f32 r, .float .f32 m, .float .f32 t, .float .f32 s, .bool true] (0, 0) _ rfl (blk_new _ _ _ _ (by simp)) Try.underlying37 rfl (by kernel_rfl)) rfl ⟨rfl, ((Below.refl _ _).alloc (Nat.le_refl _) _).alloc (by simp) _⟩
end Go.Proofs.Ytklceohoghjhdaa
