/- FlyHeap on the program's side: the heap behind a tick. -/
import Derived.Test.YtklceohoghjhdaaFy
namespace Go.Proofs.Ytklceohoghjhdaa
open Go.RowKit Fl

open Classical in
/-- what a grain becomes in a tick -/
noncomputable def flyF (x y q : Nat) (g : Gr) : Gr := if hh : ∃ h, FlyW x y q g h then hh.choose else g
theorem flyF_of {x y q : Nat} {g : Gr} (h : ∃ h, FlyW x y q g h) : FlyW x y q g (flyF x y q g) := by
  unfold flyF
  rw [dif_pos h]
  exact h.choose_spec
set_option maxHeartbeats 800000 in
theorem flyOne_of (B C x y q : Nat) (g : Gr) (w : World) (hc : w.cell? ⟨B, 0, none⟩ = some (.complex .f32 x y)) (hd : w.cell? ⟨C, 0, none⟩ = some (.float .f32 q)) (hf : ∃ h, FlyW x y q g h) :
    Calls Try.prog 68 #[g.val, .pointer (some ⟨B, 0, none⟩), .pointer (some ⟨C, 0, none⟩)] w fun e w' => e = .returned (flyF x y q g).val ∧ Below w.heap.size w w' := by
  have HF := Lib.hid fun w => flyGrain_of x y q g (flyF x y q g) w (flyF_of hf)
  generalize flyF x y q g = h at HF ⊢
  obtain ⟨ax, ay, sx, sy, r, m, t, s, gh⟩ := g
  obtain ⟨ax', ay', sx', sy', r', m', t2, s', h'⟩ := h
  unfold Gr.val at HF ⊢
  dsimp only at HF ⊢
  have hB := World.block_lt_of_cell? w _ hc
  have hC := World.block_lt_of_cell? w _ hd
  dsimp only at hB hC
  have hsf := run_store_float' Try.prog
  have hsc := run_store_complex Try.prog
  clear hf
  go_enter Try.func68, Try.ntmps68
  have HBel := Lib.hid (((Below.refl w.heap.size w).alloc (Nat.le_refl _) (.cells #[.complex .f32 ax ay, .complex .f32 sx sy, .float .f32 r, .float .f32 m, .float .f32 t, .float .f32 s, .bool gh] 37)).alloc (by simp) (.cells #[.complex .f32 0 0, .complex .f32 0 0, .float .f32 0, .float .f32 0, .float .f32 0, .float .f32 0, .bool false] 37))
  have HR := Lib.hid (blk_new (w.alloc (.cells #[.complex .f32 ax ay, .complex .f32 sx sy, .float .f32 r, .float .f32 m, .float .f32 t, .float .f32 s, .bool gh] 37)) 37 #[.complex .f32 0 0, .complex .f32 0 0, .float .f32 0, .float .f32 0, .float .f32 0, .float .f32 0, .bool false] (w.heap.size + 1) (by simp))
  go_wp2_with fail
  refine (HF.out _).mono ?_
  rintro e w1 ⟨rfl, hb⟩
  have R1 := Lib.hid (blk_next HR.out hb)
  have L1 := Lib.hid (below_next HBel.out hb)
  have b0 := R1.out.cell 0
  have b1 := R1.out.cell 1
  have b2 := R1.out.cell 2
  have b3 := R1.out.cell 3
  have b4 := R1.out.cell 4
  have b5 := R1.out.cell 5
  have b6 := R1.out.cell 6
  have d0 := R1.out.frozen 0
  have d1 := R1.out.frozen 1
  have d2 := R1.out.frozen 2
  have d3 := R1.out.frozen 3
  have d4 := R1.out.frozen 4
  have d5 := R1.out.frozen 5
  have d6 := R1.out.frozen 6
  have hle : w.heap.size ≤ w.heap.size + 1 := by omega
  clear hb
  go_wp2
  refine bodyPost_ret (v := .agg #[.complex .f32 ax' ay', .complex .f32 sx' sy', .float .f32 r', .float .f32 m', .float .f32 t2, .float .f32 s', .bool h']) (results_cell_row Try.results68 _ _ (w.heap.size + 1) 37 #[.complex .f32 ax' ay', .complex .f32 sx' sy', .float .f32 r', .float .f32 m', .float .f32 t2, .float .f32 s', .bool h'] (0, 0) _ rfl (((((((R1.out.set_ 0 (.complex .f32 ax' ay')).set_ 1 (.complex .f32 sx' sy')).set_ 2 (.float .f32 r')).set_ 3 (.float .f32 m')).set_ 4 (.float .f32 t2)).set_ 5 (.float .f32 s')).set_ 6 (.bool h')) Try.underlying37 rfl (by kernel_rfl)) rfl ⟨rfl, ?_⟩
  exact ((((((L1.out.setCell hle _).setCell hle _).setCell hle _).setCell hle _).setCell hle _).setCell hle _).setCell hle _
set_option maxRecDepth 100000 in
set_option maxHeartbeats 3200000 in
theorem flyHeap_of (b n c x y q : Nat) (gs : List Gr) (w : World) (hb : (fin32 x && fin32 y) = true) (hq : fin32 q = true) (hl : gs.length = n) (hr : GrRow w b gs) (h1 : 1 ≤ n) (hn : n ≤ 24) (hv : gs.all Gr.valid = true) (hv2 : (gs.map (flyF x y q)).all Gr.valid = true)
    (ha : ∀ k, k < n → ∃ h, FlyW x y q (gs.getD k default) h) :
    Calls Try.prog 25 #[.agg #[.slice (some ⟨b, 0, none⟩) n c], .complex .f32 x y, .float .f32 q] w (GaveHeap w (gs.map (flyF x y q))) := by
  have HF := Lib.hid fun w => (show Calls Try.prog 47 #[.complex .f32 x y] w fun e w' => e = .returned (.bool true) ∧ Quiet w w' by rw [← hb]; exact isFiniteComplex_any x y w)
  have HFq := Lib.hid fun w => (show Calls Try.prog 67 #[.float .f32 q] w fun e w' => e = .returned (.bool true) ∧ Quiet w w' by rw [← hq]; exact isFinite_any q w)
  have HC := Lib.hid fun (B C : Nat) W (h : GrRow W b gs) (hB : W.cell? ⟨B, 0, none⟩ = some (.complex .f32 x y)) (hC : W.cell? ⟨C, 0, none⟩ = some (.float .f32 q)) => changeHeap_fly (flyF x y q) B C b n c gs W hl h h1 hn hv hv2 (fun k W' hk hb' => by
    have hlt := World.block_lt_of_cell? W _ hB
    have hlt2 := World.block_lt_of_cell? W _ hC
    refine flyOne_of B C x y q (gs.getD k default) W' ?_ ?_ (ha k hk)
    · rw [hb'.cell (p := ⟨B, 0, none⟩) hlt]; exact hB
    · rw [hb'.cell (p := ⟨C, 0, none⟩) hlt2]; exact hC)
  have hlm : (gs.map (flyF x y q)).length = n := by rw [List.length_map, hl]
  have hbel := ((((Below.refl w.heap.size w).alloc (Nat.le_refl _) (.cells #[.slice (some ⟨b, 0, none⟩) n c] 26)).alloc (by simp) (.cells #[.complex .f32 x y] 31)).alloc (by simp; omega) (.cells #[.float .f32 q] 35)).alloc (by simp; omega) (.cells #[.slice none 0 0] 26)
  have hB1 : Blk ((((w.alloc (.cells #[.slice (some ⟨b, 0, none⟩) n c] 26)).alloc (.cells #[.complex .f32 x y] 31)).alloc (.cells #[.float .f32 q] 35)).alloc (.cells #[.slice none 0 0] 26)) (w.heap.size + 1) 31 _ := ((blk_new (w.alloc (.cells #[.slice (some ⟨b, 0, none⟩) n c] 26)) _ _ _ (by simp)).alloc _).alloc _
  have hC1 : Blk ((((w.alloc (.cells #[.slice (some ⟨b, 0, none⟩) n c] 26)).alloc (.cells #[.complex .f32 x y] 31)).alloc (.cells #[.float .f32 q] 35)).alloc (.cells #[.slice none 0 0] 26)) (w.heap.size + 1 + 1) 35 _ := (blk_new ((w.alloc (.cells #[.slice (some ⟨b, 0, none⟩) n c] 26)).alloc (.cells #[.complex .f32 x y] 31)) _ _ _ (by simp)).alloc _
  have hB2 : Blk ((((w.alloc (.cells #[.slice (some ⟨b, 0, none⟩) n c] 26)).alloc (.cells #[.complex .f32 x y] 31)).alloc (.cells #[.float .f32 q] 35)).alloc (.cells #[.slice none 0 0] 26)) (w.heap.size + 1 + 1 + 1) 26 _ := blk_new _ _ _ _ (by simp)
  have HR0 := Lib.hid (hr.below hbel (Nat.le_refl _))
  have HBel := Lib.hid hbel
  have HB1 := Lib.hid hB1
  have HB2 := Lib.hid hB2
  have HC1 := Lib.hid hC1
  have hsf := run_store_float' Try.prog
  have HLm := Lib.hid hlm
  have hsc := run_store_complex Try.prog
  clear hb hq hl hr hv hv2 ha hlm hbel hB1 hC1 hB2
  go_enter Try.func25, Try.ntmps25
  go_wp2_with (first | (go_at_call 47; (with_reducible refine (HF.out _).mono ?_); rintro e w1 ⟨rfl, n1, rfl⟩) | (go_at_call 67; (with_reducible refine (HFq.out _).mono ?_); rintro e w2 ⟨rfl, n2, rfl⟩))
  refine (HC.out (w.heap.size + 1) (w.heap.size + 1 + 1) _ (HR0.out.quiet ⟨_, rfl⟩) (HB1.out.cell 0) (HC1.out.cell 0)).mono ?_
  unfold GaveHeap
  rw [HLm.out]
  rintro e w4 ⟨bc, cc, rfl, ho, hb⟩
  have O5 := Lib.hid ho
  have P5 := Lib.hid (blk_over HB2.out hb)
  have L5 := Lib.hid (below_over HBel.out hb)
  have hz := HBel.out.size
  have p0 := P5.out.cell 0
  have q0 := P5.out.frozen 0
  clear ho hb
  go_wp2
  refine bodyPost_ret (v := .tuple #[.agg #[.slice (some ⟨bc, 0, none⟩) n cc], .bool true]) (results_row_tmp Try.results25 _ _ (w.heap.size + 1 + 1 + 1) 26 #[.slice (some ⟨bc, 0, none⟩) n cc] _ _ rfl (P5.out.set_ 0 _) rfl Try.underlying26 rfl (by kernel_rfl)) rfl ?_
  first | (unfold GaveHeap; rw [HLm.out]) | rw [HLm.out]
  exact ⟨bc, cc, rfl, own_far (own_from O5.out hz) P5.out neGH' 0 _, L5.out.setCell (by show w.heap.size ≤ w.heap.size + 1 + 1 + 1; omega) _⟩
end Go.Proofs.Ytklceohoghjhdaa
