/- PushHeap on the program's side. -/
import Derived.Test.YtklceohoghjhdaaCh
namespace Go.Proofs.Ytklceohoghjhdaa
open Go.RowKit Fl

set_option maxRecDepth 100000 in
set_option maxHeartbeats 3200000 in
theorem pushHeap_of (b n c x y : Nat) (gs : List Gr) (w : World) (hb : (fin32 x && fin32 y) = true) (hl : gs.length = n) (hr : GrRow w b gs) (h1 : 1 ≤ n) (hn : n ≤ 24) (hv : gs.all Gr.valid = true) (hv2 : (gs.map (pushF x y)).all Gr.valid = true)
    (ha : ∀ k, k < n → (floatBits .add .f32 (gs.getD k default).sx x).isSome = true ∧ (floatBits .add .f32 (gs.getD k default).sy y).isSome = true) :
    Calls Try.prog 26 #[.agg #[.slice (some ⟨b, 0, none⟩) n c], .complex .f32 x y] w (GaveHeap w (gs.map (pushF x y))) := by
  have HF := Lib.hid fun w => (show Calls Try.prog 47 #[.complex .f32 x y] w fun e w' => e = .returned (.bool true) ∧ Quiet w w' by rw [← hb]; exact isFiniteComplex_any x y w)
  have HC := Lib.hid fun (B : Nat) W (h : GrRow W b gs) (hB : W.cell? ⟨B, 0, none⟩ = some (.complex .f32 x y)) => changeHeap_push (pushF x y) B b n c gs W hl h h1 hn hv hv2 (fun k W' hk hb' => by
    have hlt := World.block_lt_of_cell? W _ hB
    refine pushOne_of B x y (gs.getD k default) W' ?_ (Nat.lt_of_lt_of_le hlt hb'.size) (ha k hk).1 (ha k hk).2
    rw [hb'.cell (p := ⟨B, 0, none⟩) hlt]; exact hB)
  have hlm : (gs.map (pushF x y)).length = n := by rw [List.length_map, hl]
  have hbel := (((Below.refl w.heap.size w).alloc (Nat.le_refl _) (.cells #[.slice (some ⟨b, 0, none⟩) n c] 26)).alloc (by simp) (.cells #[.complex .f32 x y] 31)).alloc (by simp; omega) (.cells #[.slice none 0 0] 26)
  have hB1 : Blk (((w.alloc (.cells #[.slice (some ⟨b, 0, none⟩) n c] 26)).alloc (.cells #[.complex .f32 x y] 31)).alloc (.cells #[.slice none 0 0] 26)) (w.heap.size + 1) 31 _ := (blk_new (w.alloc (.cells #[.slice (some ⟨b, 0, none⟩) n c] 26)) _ _ _ (by simp)).alloc _
  have hB2 : Blk (((w.alloc (.cells #[.slice (some ⟨b, 0, none⟩) n c] 26)).alloc (.cells #[.complex .f32 x y] 31)).alloc (.cells #[.slice none 0 0] 26)) (w.heap.size + 1 + 1) 26 _ := blk_new _ _ _ _ (by simp)
  have HR0 := Lib.hid (hr.below hbel (Nat.le_refl _))
  have HBel := Lib.hid hbel
  have HB1 := Lib.hid hB1
  have HB2 := Lib.hid hB2
  have HLm := Lib.hid hlm
  have hsc := run_store_complex Try.prog
  clear hb hl hr hv hv2 ha hlm hbel hB1 hB2
  go_enter Try.func26, Try.ntmps26
  go_wp2_with (go_at_call 47; (with_reducible refine (HF.out _).mono ?_); rintro e w1 ⟨rfl, n1, rfl⟩)
  refine (HC.out (w.heap.size + 1) _ (HR0.out.quiet ⟨n1, rfl⟩) (HB1.out.cell 0)).mono ?_
  unfold GaveHeap
  rw [HLm.out]
  rintro e w4 ⟨bc, cc, rfl, ho, hb⟩
  have O5 := Lib.hid ho
  have P5 := Lib.hid (blk_over HB2.out hb)
  have L5 := Lib.hid (below_over HBel.out hb)
  have hz := HBel.out.size
  have p0 := P5.out.cell 0
  have q0 := P5.out.frozen 0
  clear ho hb
  go_wp2
  refine bodyPost_ret (v := .tuple #[.agg #[.slice (some ⟨bc, 0, none⟩) n cc], .bool true]) (results_row_tmp Try.results26 _ _ (w.heap.size + 1 + 1) 26 #[.slice (some ⟨bc, 0, none⟩) n cc] _ _ rfl (P5.out.set_ 0 _) rfl Try.underlying26 rfl (by kernel_rfl)) rfl ?_
  first | (unfold GaveHeap; rw [HLm.out]) | rw [HLm.out]
  exact ⟨bc, cc, rfl, own_far (own_from O5.out hz) P5.out neGH' 0 _, L5.out.setCell (by show w.heap.size ≤ w.heap.size + 1 + 1; omega) _⟩
end Go.Proofs.Ytklceohoghjhdaa
