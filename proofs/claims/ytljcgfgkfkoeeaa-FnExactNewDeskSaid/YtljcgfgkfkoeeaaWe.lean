/- NewDesk: both sides. -/
import Derived.Test.YtljcgfgkfkoeeaaWc
import Derived.Test.YtljcgfgkfkoeeaaWd
namespace Go.Proofs.Ytljcgfgkfkoeeaa
open Go.RowKit Fl

def deskGs : List Gr := pileGs 1056964608 1065353216 2
theorem desk_ok : okPile 1056964608 1065353216 2 = true := by decide +kernel
theorem desk_len : deskGs.length = 3 := by decide +kernel
theorem pile_desk (w : World) :
    Calls Try.prog 9 #[.int .i64 2, .float .f32 1056964608, .float .f32 1065353216] w fun e w' => ∃ b c, e = .returned (.agg #[.slice (some ⟨b, 0, none⟩) 3 c]) ∧
      w'.ownsRow w.heap.size 51 7 (.slice (some ⟨b, 0, none⟩) 3 c) 3 (gcells deskGs) ∧ Below w.heap.size w w' := by
  refine (l02Pile_of 2 1056964608 1065353216 w (by decide)).mono ?_
  rintro e w' ⟨vs, N, b, c, hN, hr, rfl, ho, hb⟩
  have e1 : vs.map (mkP 1056964608 1065353216) = deskGs := reps_places hr desk_ok
  have e2 : N = 3 := by rw [← hN, ← desk_len, ← e1, List.length_map]
  subst e2
  rw [e1] at ho
  exact ⟨b, c, rfl, ho, hb⟩
theorem pile_impl (w : World) :
    Calls Try.prog 11 #[.int .i64 2, .float .f32 1056964608, .float .f32 1065353216] w fun e w' => ∃ b c, e = .returned (.tuple #[.agg #[.slice (some ⟨b, 0, none⟩) 3 c], .bool true]) ∧
      w'.ownsRow w.heap.size 51 7 (.slice (some ⟨b, 0, none⟩) 3 c) 3 (gcells deskGs) ∧ Below w.heap.size w w' := by
  refine (implPile_in 2 1056964608 1065353216 w (by decide) (by decide)).mono ?_
  intro e w' h
  rw [desk_ok] at h
  obtain ⟨b, c, rfl, ho, hb⟩ := h
  rw [show (pileGs 1056964608 1065353216 2).length = 3 from desk_len] at ho
  exact ⟨b, c, by rw [show (pileGs 1056964608 1065353216 2).length = 3 from desk_len], ho, hb⟩
end Go.Proofs.Ytljcgfgkfkoeeaa
