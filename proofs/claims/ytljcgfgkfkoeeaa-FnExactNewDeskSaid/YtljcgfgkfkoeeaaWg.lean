/- NewDesk, the given side. -/
import Derived.Test.YtljcgfgkfkoeeaaWf
namespace Go.Proofs.Ytljcgfgkfkoeeaa
open Go.RowKit Fl

set_option maxHeartbeats 800000 in
theorem newDesk_spec (w : World) :
    Calls Try.prog 4 #[] w fun e w' => ∃ b c wb wc nb, e = .returned (deskV b c wb wc (.slice (some ⟨nb, 0, none⟩) 0 0)) ∧
      w'.ownsRow w.heap.size 51 7 (.slice (some ⟨b, 0, none⟩) 3 c) 3 (gcells deskGs) ∧
      w'.ownsRow w.heap.size 62 3 (.slice (some ⟨wb, 0, none⟩) 4 wc) 4 (wcells boxW) ∧ b < wb ∧ Below w.heap.size w w' := by
  have HP := Lib.hid fun w => pile_desk w
  have HB := Lib.hid fun w => l04Box_of w
  go_enter Try.func4, Try.ntmps4
  have hsf := run_store_float' Try.prog
  have hsf := run_store_float' Try.prog
  go_wp2_with (first | (go_at_call 9; (with_reducible refine (HP.out _).mono ?_); rintro e w1 ⟨b, c, rfl, ho, hb⟩; have HO := Lib.hid ho; have H1 := Lib.hid hb; have HZ := Lib.hid (blk_next (blk_new w 31 #[.slice none 0 0, .float .f32 0, .float .f32 0, .float .f32 0, .float .f32 0, .slice none 0 0, .slice none 0 0] _ rfl) hb); have HN := Lib.hid (blk_new w1 31 #[.slice (some ⟨b, 0, none⟩) 3 c, .float .f32 1098907648, .float .f32 1065353216, .float .f32 1056964608, .float .f32 1090519040, .slice none 0 0, .slice none 0 0] _ rfl); have hne : w.heap.size ≠ w1.heap.size := (by have := hb.size; simp at this; omega); clear ho hb) | (go_at_call 10; (with_reducible refine (HB.out _).mono ?_); rintro e w2 ⟨wb, wc, rfl, ho2, hb2⟩; have HO2 := Lib.hid ho2; have H2 := Lib.hid hb2; have Hd := Lib.hid (blk_next HN.out hb2); have HZ2 := Lib.hid (blk_next (HZ.out.alloc (.cells #[.slice (some ⟨b, 0, none⟩) 3 c, .float .f32 1098907648, .float .f32 1065353216, .float .f32 1056964608, .float .f32 1090519040, .slice none 0 0, .slice none 0 0] 31)) hb2); have c5 := Hd.out.cell 5; have f5 := Hd.out.frozen 5; have D5 := Lib.hid (Hd.out.set_ 5 (.slice (some ⟨wb, 0, none⟩) 4 wc)); have c6 := (D5.out.alloc (.cells #[] 65)).cell 6; have f6 := (D5.out.alloc (.cells #[] 65)).frozen 6; have D6 := Lib.hid ((D5.out.alloc (.cells #[] 65)).set_ 6 (.slice (some ⟨w2.heap.size, 0, none⟩) 0 0)); have HZ6 := Lib.hid (((HZ2.out.far (p := ⟨w1.heap.size, 5, none⟩) hne (.slice (some ⟨wb, 0, none⟩) 4 wc)).alloc (.cells #[] 65)).far (p := ⟨w1.heap.size, 6, none⟩) hne (.slice (some ⟨w2.heap.size, 0, none⟩) 0 0)); have g0 := D6.out.cell 0; have z0 := HZ6.out.cell 0; have y0 := HZ6.out.frozen 0; have g1 := D6.out.cell 1; have z1 := HZ6.out.cell 1; have y1 := HZ6.out.frozen 1; have g2 := D6.out.cell 2; have z2 := HZ6.out.cell 2; have y2 := HZ6.out.frozen 2; have g3 := D6.out.cell 3; have z3 := HZ6.out.cell 3; have y3 := HZ6.out.frozen 3; have g4 := D6.out.cell 4; have z4 := HZ6.out.cell 4; have y4 := HZ6.out.frozen 4; have g5 := D6.out.cell 5; have z5 := HZ6.out.cell 5; have y5 := HZ6.out.frozen 5; have g6 := D6.out.cell 6; have z6 := HZ6.out.cell 6; have y6 := HZ6.out.frozen 6; clear ho2 hb2))
  have hset := ((((((HZ6.out.set_ 0 (.slice (some ⟨b, 0, none⟩) 3 c)).set_ 1 (.float .f32 1098907648)).set_ 2 (.float .f32 1065353216)).set_ 3 (.float .f32 1056964608)).set_ 4 (.float .f32 1090519040)).set_ 5 (.slice (some ⟨wb, 0, none⟩) 4 wc)).set_ 6 (.slice (some ⟨w2.heap.size, 0, none⟩) 0 0)
  refine bodyPost_ret (v := deskV b c wb wc (.slice (some ⟨w2.heap.size, 0, none⟩) 0 0)) (results_cell_row Try.results4 _ _ w.heap.size 31 (deskArr b c wb wc (.slice (some ⟨w2.heap.size, 0, none⟩) 0 0)) (0, 0) _ rfl hset Try.underlying31 rfl (by kernel_rfl)) rfl ⟨b, c, wb, wc, w2.heap.size, rfl, ?_, ?_, ?_, ?_⟩
  · exact sets7_own (own_far ((own_far (own_from (own_below (HO.out.alloc (.cells #[.slice (some ⟨b, 0, none⟩) 3 c, .float .f32 1098907648, .float .f32 1065353216, .float .f32 1056964608, .float .f32 1090519040, .slice none 0 0, .slice none 0 0] 31)) H2.out (Nat.le_refl _)) (by simp)) Hd.out (by decide) 5 _).alloc _) (D5.out.alloc _) (by decide) 6 _) HZ6.out (by decide) _ _ _ _ _ _ _
  · exact sets7_own (own_far ((own_far (own_from HO2.out (by have := H1.out.size; simp at this ⊢; omega)) Hd.out (by decide) 5 _).alloc _) (D5.out.alloc _) (by decide) 6 _) HZ6.out (by decide) _ _ _ _ _ _ _
  · obtain ⟨b', c', hv, -, hlt⟩ := own_form HO.out (by decide)
    obtain ⟨b2, c2, hv2, hge, -⟩ := own_form3 HO2.out (by decide)
    simp at hv hv2 hge
    omega
  · have hle : w.heap.size ≤ w1.heap.size := by have := H1.out.size; simp at this; omega
    have hb2 := below_next ((below_next ((Below.refl w.heap.size w).alloc (Nat.le_refl _) _) H1.out).alloc hle _) H2.out
    exact sets7_below (((hb2.setCell hle _).alloc (hb2.setCell hle _).size _).setCell hle _) (Nat.le_refl _) _ _ _ _ _ _ _
end Go.Proofs.Ytljcgfgkfkoeeaa
