/- The draw of a grain. -/
import Derived.Test.YtmkpkkaedhekdaaGri
import Derived.Test.YtmkpkkaedhekdaaGq
namespace Go.Proofs.Ytmkpkkaedhekdaa
open Go.RowKit Fl

theorem Src.over {w w' : World} {b m B : Nat} (h : Src w b m) (hb : Below B w w') (hB : b < B) : Src w' b m := by
  obtain ⟨ao, n, c, k, sd, h1, h2, h3, h4, h5, h6⟩ := h
  refine ⟨ao, n, c, k, sd, h1.below hb hB, h2, h3, h4, h5, fun a ha i hi => ?_⟩
  obtain ⟨hl, v, hv, hc⟩ := h6 a ha i hi
  exact ⟨hl, v, hv, by rw [hb.cell (p := a.add i) (by omega)]; exact hc⟩
theorem Only.put {b : Nat} {w w1 : World} (h : Only b w w1) {p : Addr} (hp : w.heap.size ≤ p.block) (hb : b ≤ w.heap.size) (u : Value) : Only b w (w1.setCell p u) :=
  ⟨h.below.setCell (by omega) u, fun g hne hl => (Below.heap_setCell w1 p u g (by omega)).trans (h.far g hne hl)⟩
/-- a grain is drawn -/
def DrewG (w : World) (b m : Nat) (e : Ending) (w' : World) : Prop := ∃ (g : Gr) (i : GrI), GrQ g i ∧ e = .returned g.val ∧ Src w' b m ∧ Only b w w'
set_option maxRecDepth 100000 in
set_option maxHeartbeats 3200000 in
theorem drawGrain_of (b m : Nat) (w : World) (hm : m < 1000000) (h : Src w b m) :
    Calls Try.prog 19 #[.pointer (some ⟨b, 0, none⟩)] w (DrewG w b (m + 20)) := by
  have hlt := h.lt
  have HD := Lib.hid fun w m (hm : m < 2000000) (h : Src w b m) => drawSmall_of b m w (by omega) h
  have HP := Lib.hid fun w m n (hm : m < 2000000) (h : Src w b m) (h1 : 1 ≤ n) (h2 : n ≤ 65536) => pick_of b m n w (by omega) h h1 h2
  have HO := Lib.hid fun w m n (hm : m < 2000000) (h : Src w b m) (h1 : 1 ≤ n) (h2 : n ≤ 65536) => one_of b m n w (by omega) h h1 h2
  have HS := Lib.hid (h.next ((Below.refl w.heap.size w).alloc (Nat.le_refl _) (.cells #[.complex .f32 0 0, .complex .f32 0 0, .float .f32 0, .float .f32 0, .float .f32 0, .float .f32 0, .bool false] 57)))
  have hO0 := (Only.refl b w).alloc (Nat.le_of_lt hlt) (.cells #[.complex .f32 0 0, .complex .f32 0 0, .float .f32 0, .float .f32 0, .float .f32 0, .float .f32 0, .bool false] 57)
  have hB0 : Blk (w.alloc (.cells #[.complex .f32 0 0, .complex .f32 0 0, .float .f32 0, .float .f32 0, .float .f32 0, .float .f32 0, .bool false] 57)) w.heap.size 57 _ := blk_new w _ _ _ rfl
  have HO0 := Lib.hid hO0
  have HB0 := Lib.hid hB0
  clear hO0 hB0
  have hsf := run_store_float' Try.prog
  have hsc := run_store_complex Try.prog
  clear h
  go_enter Try.func19, Try.ntmps19
  go_wp2_with fail
  refine (HD.out _ m (by omega) HS.out).mono ?_
  rintro e w1 ⟨x, nx, bx1, bx2, hx, rfl, hs, ho⟩
  have HX := Lib.hid hx
  have HS1 := Lib.hid hs
  have HO1 := Lib.hid (HO0.out.trans ho)
  have HB1 := Lib.hid (ho.blk HB0.out (by omega))
  clear hs ho hx
  go_wp2_with fail
  refine (HD.out _ _ (by omega) HS1.out).mono ?_
  rintro e w2 ⟨y, ny, by1, by2, hy, rfl, hs, ho⟩
  have HY := Lib.hid hy
  have hRG : w.heap.size < w2.heap.size := (ho.blk HB1.out (by omega)).lt
  have hsz := HO1.out.below.size
  have HS2 := Lib.hid (hs.next ((Below.refl w2.heap.size w2).alloc (Nat.le_refl _) (.cells #[.complex .f32 x y, .complex .f32 0 0, .float .f32 0, .float .f32 0, .float .f32 0, .float .f32 0, .bool false] 57)))
  have HO2 := Lib.hid ((HO1.out.trans ho).alloc (by omega) (.cells #[.complex .f32 x y, .complex .f32 0 0, .float .f32 0, .float .f32 0, .float .f32 0, .float .f32 0, .bool false] 57))
  have HB2 := Lib.hid ((ho.blk HB1.out (by omega)).alloc (.cells #[.complex .f32 x y, .complex .f32 0 0, .float .f32 0, .float .f32 0, .float .f32 0, .float .f32 0, .bool false] 57))
  have HG2 := Lib.hid (blk_new w2 57 #[.complex .f32 x y, .complex .f32 0 0, .float .f32 0, .float .f32 0, .float .f32 0, .float .f32 0, .bool false] _ rfl)
  clear hs ho hy hsz
  go_wp2_with fail
  refine (HP.out _ _ 9 (by omega) HS2.out (by omega) (by omega)).mono ?_
  rintro e w3 ⟨z3, l3, u3, rfl, hs, ho⟩
  obtain ⟨r3, hq, hx⟩ := quo4 (z3 - 4) (by omega)
  have e3 := fun w => run_float_arith (P := Try.prog) w .quo 46 .f32 _ _ _ hq
  have HX3 := Lib.hid hx
  have HS3 := Lib.hid hs
  have HO3 := Lib.hid (HO2.out.trans ho)
  have HB3 := Lib.hid (ho.blk HB2.out (by omega))
  have HG3 := Lib.hid (ho.blk HG2.out (by omega))
  clear hs ho hq hx
  go_wp2_with fail
  refine (HP.out _ _ 9 (by omega) HS3.out (by omega) (by omega)).mono ?_
  rintro e w4 ⟨z4, l4, u4, rfl, hs, ho⟩
  obtain ⟨r4, hq, hx⟩ := quo4 (z4 - 4) (by omega)
  have e4 := fun w => run_float_arith (P := Try.prog) w .quo 46 .f32 _ _ _ hq
  have HX4 := Lib.hid hx
  have hg := ho.blk HG3.out (by omega)
  have c4 := hg.cell 1
  have f4 := hg.frozen 1
  have HS4 := Lib.hid (hs.over ((Below.refl w2.heap.size w4).setCell (p := ⟨w2.heap.size, 1, none⟩) (Nat.le_refl _) (.complex .f32 r3 r4)) (by omega))
  have HO4 := Lib.hid ((HO3.out.trans ho).put (p := ⟨w2.heap.size, 1, none⟩) (by show w.heap.size ≤ w2.heap.size; omega) (by omega) (.complex .f32 r3 r4))
  have HB4 := Lib.hid ((ho.blk HB3.out (by omega)).far (p := ⟨w2.heap.size, 1, none⟩) (by show w.heap.size ≠ w2.heap.size; omega) (.complex .f32 r3 r4))
  have HG4 := Lib.hid (show Blk (w4.setCell ⟨w2.heap.size, 1, none⟩ (.complex .f32 r3 r4)) w2.heap.size 57 #[.complex .f32 x y, .complex .f32 r3 r4, .float .f32 0, .float .f32 0, .float .f32 0, .float .f32 0, .bool false] from hg.set_ 1 (.complex .f32 r3 r4))
  clear hg hs ho hq hx
  go_wp2_with fail
  refine (HP.out _ _ 6 (by omega) HS4.out (by omega) (by omega)).mono ?_
  rintro e w5 ⟨z5, l5, u5, rfl, hs, ho⟩
  obtain ⟨r5, hq, hx⟩ := quo4 (1 + z5) (by omega)
  have e5 := fun w => run_float_arith (P := Try.prog) w .quo 46 .f32 _ _ _ hq
  have HX5 := Lib.hid hx
  have hg := ho.blk HG4.out (by omega)
  have c5 := hg.cell 2
  have f5 := hg.frozen 2
  have HS5 := Lib.hid (hs.over ((Below.refl w2.heap.size w5).setCell (p := ⟨w2.heap.size, 2, none⟩) (Nat.le_refl _) (.float .f32 r5)) (by omega))
  have HO5 := Lib.hid ((HO4.out.trans ho).put (p := ⟨w2.heap.size, 2, none⟩) (by show w.heap.size ≤ w2.heap.size; omega) (by omega) (.float .f32 r5))
  have HB5 := Lib.hid ((ho.blk HB4.out (by omega)).far (p := ⟨w2.heap.size, 2, none⟩) (by show w.heap.size ≠ w2.heap.size; omega) (.float .f32 r5))
  have HG5 := Lib.hid (show Blk (w5.setCell ⟨w2.heap.size, 2, none⟩ (.float .f32 r5)) w2.heap.size 57 #[.complex .f32 x y, .complex .f32 r3 r4, .float .f32 r5, .float .f32 0, .float .f32 0, .float .f32 0, .bool false] from hg.set_ 2 (.float .f32 r5))
  clear hg hs ho hq hx
  go_wp2_with fail
  refine (HP.out _ _ 8 (by omega) HS5.out (by omega) (by omega)).mono ?_
  rintro e w6 ⟨z6, l6, u6, rfl, hs, ho⟩
  obtain ⟨r6, hq, hx⟩ := quo4 (1 + z6) (by omega)
  have e6 := fun w => run_float_arith (P := Try.prog) w .quo 46 .f32 _ _ _ hq
  have HX6 := Lib.hid hx
  have hg := ho.blk HG5.out (by omega)
  have c6 := hg.cell 3
  have f6 := hg.frozen 3
  have HS6 := Lib.hid (hs.over ((Below.refl w2.heap.size w6).setCell (p := ⟨w2.heap.size, 3, none⟩) (Nat.le_refl _) (.float .f32 r6)) (by omega))
  have HO6 := Lib.hid ((HO5.out.trans ho).put (p := ⟨w2.heap.size, 3, none⟩) (by show w.heap.size ≤ w2.heap.size; omega) (by omega) (.float .f32 r6))
  have HB6 := Lib.hid ((ho.blk HB5.out (by omega)).far (p := ⟨w2.heap.size, 3, none⟩) (by show w.heap.size ≠ w2.heap.size; omega) (.float .f32 r6))
  have HG6 := Lib.hid (show Blk (w6.setCell ⟨w2.heap.size, 3, none⟩ (.float .f32 r6)) w2.heap.size 57 #[.complex .f32 x y, .complex .f32 r3 r4, .float .f32 r5, .float .f32 r6, .float .f32 0, .float .f32 0, .bool false] from hg.set_ 3 (.float .f32 r6))
  clear hg hs ho hq hx
  go_wp2_with fail
  refine (HP.out _ _ 17 (by omega) HS6.out (by omega) (by omega)).mono ?_
  rintro e w7 ⟨z7, l7, u7, rfl, hs, ho⟩
  obtain ⟨r7, hq, hx⟩ := quo16 (z7 - 8) (by omega)
  have e7 := fun w => run_float_arith (P := Try.prog) w .quo 46 .f32 _ _ _ hq
  have HX7 := Lib.hid hx
  have hg := ho.blk HG6.out (by omega)
  have c7 := hg.cell 4
  have f7 := hg.frozen 4
  have HS7 := Lib.hid (hs.over ((Below.refl w2.heap.size w7).setCell (p := ⟨w2.heap.size, 4, none⟩) (Nat.le_refl _) (.float .f32 r7)) (by omega))
  have HO7 := Lib.hid ((HO6.out.trans ho).put (p := ⟨w2.heap.size, 4, none⟩) (by show w.heap.size ≤ w2.heap.size; omega) (by omega) (.float .f32 r7))
  have HB7 := Lib.hid ((ho.blk HB6.out (by omega)).far (p := ⟨w2.heap.size, 4, none⟩) (by show w.heap.size ≠ w2.heap.size; omega) (.float .f32 r7))
  have HG7 := Lib.hid (show Blk (w7.setCell ⟨w2.heap.size, 4, none⟩ (.float .f32 r7)) w2.heap.size 57 #[.complex .f32 x y, .complex .f32 r3 r4, .float .f32 r5, .float .f32 r6, .float .f32 r7, .float .f32 0, .bool false] from hg.set_ 4 (.float .f32 r7))
  clear hg hs ho hq hx
  go_wp2_with fail
  refine (HP.out _ _ 9 (by omega) HS7.out (by omega) (by omega)).mono ?_
  rintro e w8 ⟨z8, l8, u8, rfl, hs, ho⟩
  obtain ⟨r8, hq, hx⟩ := quo2 (z8 - 4) (by omega)
  have e8 := fun w => run_float_arith (P := Try.prog) w .quo 46 .f32 _ _ _ hq
  have HX8 := Lib.hid hx
  have hg := ho.blk HG7.out (by omega)
  have c8 := hg.cell 5
  have f8 := hg.frozen 5
  have HS8 := Lib.hid (hs.over ((Below.refl w2.heap.size w8).setCell (p := ⟨w2.heap.size, 5, none⟩) (Nat.le_refl _) (.float .f32 r8)) (by omega))
  have HO8 := Lib.hid ((HO7.out.trans ho).put (p := ⟨w2.heap.size, 5, none⟩) (by show w.heap.size ≤ w2.heap.size; omega) (by omega) (.float .f32 r8))
  have HB8 := Lib.hid ((ho.blk HB7.out (by omega)).far (p := ⟨w2.heap.size, 5, none⟩) (by show w.heap.size ≠ w2.heap.size; omega) (.float .f32 r8))
  have HG8 := Lib.hid (show Blk (w8.setCell ⟨w2.heap.size, 5, none⟩ (.float .f32 r8)) w2.heap.size 57 #[.complex .f32 x y, .complex .f32 r3 r4, .float .f32 r5, .float .f32 r6, .float .f32 r7, .float .f32 r8, .bool false] from hg.set_ 5 (.float .f32 r8))
  clear hg hs ho hq hx
  go_wp2_with fail
  refine (HO.out _ _ 6 (by omega) HS8.out (by omega) (by omega)).mono ?_
  rintro e w9 ⟨⟨v9, rfl⟩, hs, ho⟩
  have hg := ho.blk HG8.out (by omega)
  have c9 := hg.cell 6
  have f9 := hg.frozen 6
  have HS9 := Lib.hid (hs.over ((Below.refl w2.heap.size w9).setCell (p := ⟨w2.heap.size, 6, none⟩) (Nat.le_refl _) (.bool v9)) (by omega))
  have HO9 := Lib.hid ((HO8.out.trans ho).put (p := ⟨w2.heap.size, 6, none⟩) (by show w.heap.size ≤ w2.heap.size; omega) (by omega) (.bool v9))
  have HB9 := Lib.hid ((ho.blk HB8.out (by omega)).far (p := ⟨w2.heap.size, 6, none⟩) (by show w.heap.size ≠ w2.heap.size; omega) (.bool v9))
  have HG9 := Lib.hid (show Blk (w9.setCell ⟨w2.heap.size, 6, none⟩ (.bool v9)) w2.heap.size 57 #[.complex .f32 x y, .complex .f32 r3 r4, .float .f32 r5, .float .f32 r6, .float .f32 r7, .float .f32 r8, .bool v9] from hg.set_ 6 (.bool v9))
  clear hg hs ho
  have g0 := HG9.out.cell 0
  have g1 := HG9.out.cell 1
  have g2 := HG9.out.cell 2
  have g3 := HG9.out.cell 3
  have g4 := HG9.out.cell 4
  have g5 := HG9.out.cell 5
  have g6 := HG9.out.cell 6
  have b0 := HB9.out.cell 0
  have b1 := HB9.out.cell 1
  have b2 := HB9.out.cell 2
  have b3 := HB9.out.cell 3
  have b4 := HB9.out.cell 4
  have b5 := HB9.out.cell 5
  have b6 := HB9.out.cell 6
  have d0 := HB9.out.frozen 0
  have d1 := HB9.out.frozen 1
  have d2 := HB9.out.frozen 2
  have d3 := HB9.out.frozen 3
  have d4 := HB9.out.frozen 4
  have d5 := HB9.out.frozen 5
  have d6 := HB9.out.frozen 6
  go_wp2
  have hle : w.heap.size ≤ w.heap.size := Nat.le_refl _
  refine bodyPost_ret (v := .agg #[.complex .f32 x y, .complex .f32 r3 r4, .float .f32 r5, .float .f32 r6, .float .f32 r7, .float .f32 r8, .bool v9]) (results_cell_row Try.results19 _ _ w.heap.size 57 #[.complex .f32 x y, .complex .f32 r3 r4, .float .f32 r5, .float .f32 r6, .float .f32 r7, .float .f32 r8, .bool v9] (0, 0) _ rfl (((((((HB9.out.set_ 0 (.complex .f32 x y)).set_ 1 (.complex .f32 r3 r4)).set_ 2 (.float .f32 r5)).set_ 3 (.float .f32 r6)).set_ 4 (.float .f32 r7)).set_ 5 (.float .f32 r8)).set_ 6 (.bool v9)) Try.underlying57 rfl (by kernel_rfl)) rfl ?_
  refine ⟨⟨x, y, r3, r4, r5, r6, r7, r8, v9⟩, ⟨nx, ny, z3 - 4, z4 - 4, 1 + z5, 1 + z6, z7 - 8, z8 - 4⟩, ?_, rfl, ?_, ?_⟩
  · exact ⟨HX.out, by show -64 ≤ nx ∧ nx ≤ 64; omega, HY.out, by show -16 ≤ ny ∧ ny ≤ 16; omega, HX3.out, by show -4 ≤ z3 - 4 ∧ z3 - 4 ≤ 4; omega, HX4.out, by show -4 ≤ z4 - 4 ∧ z4 - 4 ≤ 4; omega, HX5.out, by show 1 ≤ 1 + z5 ∧ 1 + z5 ≤ 6; omega, HX6.out, by show 1 ≤ 1 + z6 ∧ 1 + z6 ≤ 8; omega, HX7.out, by show -8 ≤ z7 - 8 ∧ z7 - 8 ≤ 8; omega, HX8.out, by show -4 ≤ z8 - 4 ∧ z8 - 4 ≤ 4; omega⟩
  · refine (HS9.out.over (B := w.heap.size) (((((((Below.refl w.heap.size _).setCell hle _).setCell hle _).setCell hle _).setCell hle _).setCell hle _).setCell hle _ |>.setCell hle _) hlt).mono (by omega)
  · exact (((((((HO9.out.put hle (by omega) _).put hle (by omega) _).put hle (by omega) _).put hle (by omega) _).put hle (by omega) _).put hle (by omega) _).put hle (by omega) _)
end Go.Proofs.Ytmkpkkaedhekdaa
