/- NewDesk, the program's side. -/
import Derived.Test.YtljcgfgkfkoeeaaWe
namespace Go.Proofs.Ytljcgfgkfkoeeaa
open Go.RowKit Fl

def deskArr (b c wb wc : Nat) (bonds : Value) : Array Value := #[.slice (some ⟨b, 0, none⟩) 3 c, .float .f32 1098907648, .float .f32 1065353216, .float .f32 1056964608, .float .f32 1090519040, .slice (some ⟨wb, 0, none⟩) 4 wc, bonds]
def deskV (b c wb wc : Nat) (bonds : Value) : Value := .agg (deskArr b c wb wc bonds)
def sets7 (w : World) (g : Nat) (u0 u1 u2 u3 u4 u5 u6 : Value) : World := (((((((w.setCell ⟨g, 0, none⟩ u0).setCell ⟨g, 1, none⟩ u1).setCell ⟨g, 2, none⟩ u2).setCell ⟨g, 3, none⟩ u3).setCell ⟨g, 4, none⟩ u4).setCell ⟨g, 5, none⟩ u5).setCell ⟨g, 6, none⟩ u6)
theorem sets7_own {w : World} {base g e size n : Nat} {v : Value} {xs : List Value} {cs : Array Value} (h : w.ownsRow base e size v n xs) (hg : Blk w g 31 cs) (hne : e ≠ 31) (u0 u1 u2 u3 u4 u5 u6 : Value) : (sets7 w g u0 u1 u2 u3 u4 u5 u6).ownsRow base e size v n xs := (own_far (own_far (own_far (own_far (own_far (own_far (own_far h hg hne 0 u0) (hg.set_ 0 u0) hne 1 u1) ((hg.set_ 0 u0).set_ 1 u1) hne 2 u2) (((hg.set_ 0 u0).set_ 1 u1).set_ 2 u2) hne 3 u3) ((((hg.set_ 0 u0).set_ 1 u1).set_ 2 u2).set_ 3 u3) hne 4 u4) (((((hg.set_ 0 u0).set_ 1 u1).set_ 2 u2).set_ 3 u3).set_ 4 u4) hne 5 u5) ((((((hg.set_ 0 u0).set_ 1 u1).set_ 2 u2).set_ 3 u3).set_ 4 u4).set_ 5 u5) hne 6 u6)
theorem sets7_below {w0 w : World} {B g : Nat} (h : Below B w0 w) (hB : B ≤ g) (u0 u1 u2 u3 u4 u5 u6 : Value) : Below B w0 (sets7 w g u0 u1 u2 u3 u4 u5 u6) := (((((((h.setCell hB u0).setCell hB u1).setCell hB u2).setCell hB u3).setCell hB u4).setCell hB u5).setCell hB u6)
set_option maxHeartbeats 800000 in
theorem newDesk_impl (w : World) :
    Calls Try.prog 5 #[] w fun e w' => ∃ b c wb, e = .returned (deskV b c wb 4 (.slice none 0 0)) ∧
      w'.ownsRow w.heap.size 51 7 (.slice (some ⟨b, 0, none⟩) 3 c) 3 (gcells deskGs) ∧
      w'.ownsRow w.heap.size 62 3 (.slice (some ⟨wb, 0, none⟩) 4 4) 4 (wcells boxW) ∧ b < wb ∧ Below w.heap.size w w' := by
  have HP := Lib.hid fun w => pile_impl w
  have HB := Lib.hid fun w => boxOfWalls_of w
  go_enter Try.func5, Try.ntmps5
  have hsf := run_store_float' Try.prog
  go_wp2_with (first | (go_at_call 11; (with_reducible refine (HP.out _).mono ?_); rintro e w1 ⟨b, c, rfl, ho, hb⟩; have HO := Lib.hid ho; have H1 := Lib.hid hb; have HD := Lib.hid (blk_next (blk_new w 31 #[.slice none 0 0, .float .f32 0, .float .f32 0, .float .f32 0, .float .f32 0, .slice none 0 0, .slice none 0 0] _ rfl) hb); have HH := Lib.hid (blk_new w1 24 #[.slice (some ⟨b, 0, none⟩) 3 c] _ rfl); clear ho hb) | (go_at_call 12; (with_reducible refine (HB.out _).mono ?_); rintro e w2 ⟨wb, rfl, ho2, hb2⟩; have HO2 := Lib.hid ho2; have H2 := Lib.hid hb2; have ch := (blk_next HH.out hb2).cell 0; have HD2 := Lib.hid (blk_next (HD.out.alloc (.cells #[.slice (some ⟨b, 0, none⟩) 3 c] 24)) hb2); have d0 := HD2.out.cell 0; have d1 := HD2.out.cell 1; have d2 := HD2.out.cell 2; have d3 := HD2.out.cell 3; have d4 := HD2.out.cell 4; have d5 := HD2.out.cell 5; have d6 := HD2.out.cell 6; have e0 := HD2.out.frozen 0; have e1 := HD2.out.frozen 1; have e2 := HD2.out.frozen 2; have e3 := HD2.out.frozen 3; have e4 := HD2.out.frozen 4; have e5 := HD2.out.frozen 5; have e6 := HD2.out.frozen 6; clear ho2 hb2))
  have hset := ((((((HD2.out.set_ 0 (.slice (some ⟨b, 0, none⟩) 3 c)).set_ 1 (.float .f32 1098907648)).set_ 2 (.float .f32 1065353216)).set_ 3 (.float .f32 1056964608)).set_ 4 (.float .f32 1090519040)).set_ 5 (.slice (some ⟨wb, 0, none⟩) 4 4)).set_ 6 (.slice none 0 0)
  refine bodyPost_ret (v := deskV b c wb 4 (.slice none 0 0)) (results_cell_row Try.results5 _ _ w.heap.size 31 (deskArr b c wb 4 (.slice none 0 0)) (0, 0) _ rfl hset Try.underlying31 rfl (by kernel_rfl)) rfl ⟨b, c, wb, rfl, ?_, ?_, ?_, ?_⟩
  · exact sets7_own (own_from (own_below (HO.out.alloc (.cells #[.slice (some ⟨b, 0, none⟩) 3 c] 24)) H2.out (Nat.le_refl _)) (by simp)) HD2.out (by decide) _ _ _ _ _ _ _
  · exact sets7_own (own_from HO2.out (by have := H1.out.size; simp at this ⊢; omega)) HD2.out (by decide) _ _ _ _ _ _ _
  · obtain ⟨b', c', hv, -, hlt⟩ := own_form HO.out (by decide)
    obtain ⟨b2, c2, hv2, hge, -⟩ := own_form3 HO2.out (by decide)
    simp at hv hv2 hge
    omega
  · exact sets7_below (below_next ((below_next ((Below.refl w.heap.size w).alloc (Nat.le_refl _) _) H1.out).alloc (by have := H1.out.size; simp at this ⊢; omega) _) H2.out) (Nat.le_refl _) _ _ _ _ _ _ _
end Go.Proofs.Ytljcgfgkfkoeeaa
