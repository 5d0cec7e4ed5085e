/- SameHeap of a heap and itself, on the program's side. -/
import Derived.Test.YtbggklhnnjikjaaHg
import Derived.Test.YtbggklhnnjikjaaMv
import Derived.StillTailTactics
namespace Go.Proofs.Ytbggklhnnjikjaa
open Go.RowKit Fl

/-- all words of a grain are of 32 bits, and no not-a-numbers -/
def Gr.small (g : Gr) : Prop := (g.ax < 4294967296 ∧ g.ay < 4294967296 ∧ g.sx < 4294967296 ∧ g.sy < 4294967296 ∧ g.r < 4294967296 ∧ g.m < 4294967296 ∧ g.t < 4294967296 ∧ g.s < 4294967296) ∧ (nan32 g.ax = false ∧ nan32 g.ay = false ∧ nan32 g.sx = false ∧ nan32 g.sy = false ∧ nan32 g.r = false ∧ nan32 g.m = false ∧ nan32 g.t = false ∧ nan32 g.s = false)
theorem cell_heap {V W : World} (h : V.heap = W.heap) {a : Addr} : V.cell? a = W.cell? a := by unfold World.cell?; rw [h]
theorem frozen_heap {V W : World} (h : V.heap = W.heap) {a : Addr} : V.frozen? a = W.frozen? a := by unfold World.frozen?; rw [h]
theorem bitsOf_num (a : Nat) (w : World) (ha : a < 4294967296) (hn : nan32 a = false) :
    Calls Try.prog 97 #[.float .f32 a] w fun e w' => e = .returned (.int .i64 (bitsOf a)) ∧ w' = w := by
  have hb := call_bits32 a
  have hc := fun w => run_convert_float_float (P := Try.prog) w 35 47 .f32 .f64 a (wide a) (by kernel_rfl) Try.underlying47 (wide_conv a hn)
  have hw := nan_wide a hn
  go_enter Try.func97, Try.ntmps97
  go_wp2_with (go_at_call 116; go_loud (refine (isNaN_any _ _).mono ?_); rintro e w' ⟨rfl, rfl⟩)
  go_ret
  exact ⟨by simp [bitsOf, hn], rfl⟩
def Gr.bits (g : Gr) : Value := .agg #[.int .i64 (bitsOf g.ax), .int .i64 (bitsOf g.ay), .int .i64 (bitsOf g.sx), .int .i64 (bitsOf g.sy), .int .i64 (bitsOf g.r), .int .i64 (bitsOf g.m), .int .i64 (bitsOf g.t), .int .i64 (bitsOf g.s), .bool g.h]
set_option maxRecDepth 100000 in
set_option maxHeartbeats 3200000 in
theorem bitsOfGrain_of (g : Gr) (w : World) (hs : g.small) :
    Calls Try.prog 58 #[g.val] w fun e w' => e = .returned g.bits ∧ Below w.heap.size w w' := by
  obtain ⟨⟨z0, z1, z2, z3, z4, z5, z6, z7⟩, s0, s1, s2, s3, s4, s5, s6, s7⟩ := hs
  have H0 := Lib.hid fun w => bitsOf_num g.ax w z0 s0
  have H1 := Lib.hid fun w => bitsOf_num g.ay w z1 s1
  have H2 := Lib.hid fun w => bitsOf_num g.sx w z2 s2
  have H3 := Lib.hid fun w => bitsOf_num g.sy w z3 s3
  have H4 := Lib.hid fun w => bitsOf_num g.r w z4 s4
  have H5 := Lib.hid fun w => bitsOf_num g.m w z5 s5
  have H6 := Lib.hid fun w => bitsOf_num g.t w z6 s6
  have H7 := Lib.hid fun w => bitsOf_num g.s w z7 s7
  unfold Gr.bits
  obtain ⟨ax, ay, sx, sy, r, m, t, s, hh⟩ := g
  unfold Gr.val
  dsimp only at z0 z1 z2 z3 z4 z5 z6 z7 s0 s1 s2 s3 s4 s5 s6 s7 H0 H1 H2 H3 H4 H5 H6 H7 ⊢
  clear s0 s1 s2 s3 s4 s5 s6 s7 z0 z1 z2 z3 z4 z5 z6 z7
  generalize bitsOf ax = B0 at H0 ⊢
  generalize bitsOf ay = B1 at H1 ⊢
  generalize bitsOf sx = B2 at H2 ⊢
  generalize bitsOf sy = B3 at H3 ⊢
  generalize bitsOf r = B4 at H4 ⊢
  generalize bitsOf m = B5 at H5 ⊢
  generalize bitsOf t = B6 at H6 ⊢
  generalize bitsOf s = B7 at H7 ⊢
  go_enter Try.func58, Try.ntmps58
  go_wp2_with fail
  have HB := Lib.hid (((Below.refl w.heap.size w).alloc (Nat.le_refl _) (.cells #[.complex .f32 ax ay, .complex .f32 sx sy, .float .f32 r, .float .f32 m, .float .f32 t, .float .f32 s, .bool hh] 37)).alloc (by simp) (.cells #[.int .i64 0, .int .i64 0, .int .i64 0, .int .i64 0, .int .i64 0, .int .i64 0, .int .i64 0, .int .i64 0, .bool false] 88))
  have hG : Blk ((w.alloc (.cells #[.complex .f32 ax ay, .complex .f32 sx sy, .float .f32 r, .float .f32 m, .float .f32 t, .float .f32 s, .bool hh] 37)).alloc (.cells #[.int .i64 0, .int .i64 0, .int .i64 0, .int .i64 0, .int .i64 0, .int .i64 0, .int .i64 0, .int .i64 0, .bool false] 88)) w.heap.size 37 _ := (blk_new w _ _ _ rfl).alloc _
  have hR : Blk ((w.alloc (.cells #[.complex .f32 ax ay, .complex .f32 sx sy, .float .f32 r, .float .f32 m, .float .f32 t, .float .f32 s, .bool hh] 37)).alloc (.cells #[.int .i64 0, .int .i64 0, .int .i64 0, .int .i64 0, .int .i64 0, .int .i64 0, .int .i64 0, .int .i64 0, .bool false] 88)) (w.heap.size + 1) 88 _ := blk_new _ _ _ _ (by simp)
  have HG := Lib.hid hG
  have HR := Lib.hid hR
  clear hG hR
  generalize (w.alloc (.cells #[.complex .f32 ax ay, .complex .f32 sx sy, .float .f32 r, .float .f32 m, .float .f32 t, .float .f32 s, .bool hh] 37)).alloc (.cells #[.int .i64 0, .int .i64 0, .int .i64 0, .int .i64 0, .int .i64 0, .int .i64 0, .int .i64 0, .int .i64 0, .bool false] 88) = W at HB HG HR ⊢
  have c0 : W.cell? ⟨w.heap.size, 0, none⟩ = some (.complex .f32 ax ay) := HG.out.cell 0
  have c1 : W.cell? ⟨w.heap.size, 1, none⟩ = some (.complex .f32 sx sy) := HG.out.cell 1
  have c2 : W.cell? ⟨w.heap.size, 2, none⟩ = some (.float .f32 r) := HG.out.cell 2
  have c3 : W.cell? ⟨w.heap.size, 3, none⟩ = some (.float .f32 m) := HG.out.cell 3
  have c4 : W.cell? ⟨w.heap.size, 4, none⟩ = some (.float .f32 t) := HG.out.cell 4
  have c5 : W.cell? ⟨w.heap.size, 5, none⟩ = some (.float .f32 s) := HG.out.cell 5
  have c6 : W.cell? ⟨w.heap.size, 6, none⟩ = some (.bool hh) := HG.out.cell 6
  have b0 := HR.out.cell 0
  have f0 := HR.out.frozen 0
  have b1 := HR.out.cell 1
  have f1 := HR.out.frozen 1
  have b2 := HR.out.cell 2
  have f2 := HR.out.frozen 2
  have b3 := HR.out.cell 3
  have f3 := HR.out.frozen 3
  have b4 := HR.out.cell 4
  have f4 := HR.out.frozen 4
  have b5 := HR.out.cell 5
  have f5 := HR.out.frozen 5
  have b6 := HR.out.cell 6
  have f6 := HR.out.frozen 6
  have b7 := HR.out.cell 7
  have f7 := HR.out.frozen 7
  have b8 := HR.out.cell 8
  have f8 := HR.out.frozen 8
  refine wp_region_still_tail 32 (by kernel_rfl) (by kernel_rfl) ?_
  simp only [List.take_succ_cons, List.take_zero, List.drop_succ_cons, List.drop_zero]
  generalize hV : ({ W with drawn := W.drawn + 1 } : World) = V
  have eV : V.heap = W.heap := by rw [← hV]
  rw [← cell_heap eV] at c0
  rw [← cell_heap eV] at c1
  rw [← cell_heap eV] at c2
  rw [← cell_heap eV] at c3
  rw [← cell_heap eV] at c4
  rw [← cell_heap eV] at c5
  rw [← cell_heap eV] at c6
  rw [← cell_heap eV] at b0
  rw [← frozen_heap eV] at f0
  rw [← cell_heap eV] at b1
  rw [← frozen_heap eV] at f1
  rw [← cell_heap eV] at b2
  rw [← frozen_heap eV] at f2
  rw [← cell_heap eV] at b3
  rw [← frozen_heap eV] at f3
  rw [← cell_heap eV] at b4
  rw [← frozen_heap eV] at f4
  rw [← cell_heap eV] at b5
  rw [← frozen_heap eV] at f5
  rw [← cell_heap eV] at b6
  rw [← frozen_heap eV] at f6
  rw [← cell_heap eV] at b7
  rw [← frozen_heap eV] at f7
  rw [← cell_heap eV] at b8
  rw [← frozen_heap eV] at f8
  have HBV := Lib.hid (show Below w.heap.size w V by rw [← hV]; exact below_drew_ HB.out)
  have HRV := Lib.hid (show Blk V (w.heap.size + 1) 88 _ by rw [← hV]; exact blk_drew_ HR.out)
  clear hV eV
  still_step
  still_step
  still_step
  still_call (H0.out _)
  still_step
  still_step
  still_step
  still_call (H1.out _)
  still_step
  still_step
  still_step
  still_call (H2.out _)
  still_step
  still_step
  still_step
  still_call (H3.out _)
  still_step
  still_step
  still_call (H4.out _)
  still_step
  still_step
  still_call (H5.out _)
  still_step
  still_step
  still_call (H6.out _)
  still_step
  still_step
  still_call (H7.out _)
  still_step
  still_step
  still_step
  still_step
  refine wpStill_nil ?_
  go_wp2
  have hle : w.heap.size ≤ w.heap.size + 1 := by omega
  have hset := (((((((((HRV.out.set_ 0 (.int .i64 B0)).set_ 1 (.int .i64 B1)).set_ 2 (.int .i64 B2)).set_ 3 (.int .i64 B3)).set_ 4 (.int .i64 B4)).set_ 5 (.int .i64 B5)).set_ 6 (.int .i64 B6)).set_ 7 (.int .i64 B7)).set_ 8 (.bool hh))
  refine bodyPost_ret (v := .agg #[.int .i64 B0, .int .i64 B1, .int .i64 B2, .int .i64 B3, .int .i64 B4, .int .i64 B5, .int .i64 B6, .int .i64 B7, .bool hh]) (results_cell_row Try.results58 _ _ (w.heap.size + 1) 88 #[.int .i64 B0, .int .i64 B1, .int .i64 B2, .int .i64 B3, .int .i64 B4, .int .i64 B5, .int .i64 B6, .int .i64 B7, .bool hh] (0, 0) _ rfl hset Try.underlying88 rfl (by kernel_rfl)) rfl ⟨rfl, ?_⟩
  exact (((((((((HBV.out.setCell hle _).setCell hle _).setCell hle _).setCell hle _).setCell hle _).setCell hle _).setCell hle _).setCell hle _).setCell hle _)
end Go.Proofs.Ytbggklhnnjikjaa
