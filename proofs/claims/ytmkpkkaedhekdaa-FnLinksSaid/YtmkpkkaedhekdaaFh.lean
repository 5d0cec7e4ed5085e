/- Heaps whose grains are all changed: the program's side. -/
import Derived.Test.YtmkpkkaedhekdaaHg
namespace Go.Proofs.Ytmkpkkaedhekdaa
open Go.RowKit Fl

theorem scale_of (x y m p q : Nat) (h1 : floatBits .mul .f32 x m = some p) (h2 : floatBits .mul .f32 y m = some q) (w : World) :
    Calls Try.prog 23 #[.complex .f32 x y, .float .f32 m] w fun e w' => e = .returned (.complex .f32 p q) ∧ w = w' := by
  have HP := Lib.hid fun w => mulNumber_ok x m p h1 w
  have HQ := Lib.hid fun w => mulNumber_ok y m q h2 w
  clear h1 h2
  go_enter Try.func23, Try.ntmps23
  go_wp2_with (first | (go_at_call 30; (with_reducible refine (HP.out _).mono ?_); rintro e w' ⟨rfl, rfl⟩) | (go_at_call 30; (with_reducible refine (HQ.out _).mono ?_); rintro e w' ⟨rfl, rfl⟩))
  go_ret
  exact ⟨rfl, rfl⟩
/-- a grain's speed with something added to it, where it is not held -/
def pushF (x y : Nat) (g : Gr) : Gr := if g.h then g else { g with sx := (floatBits .add .f32 g.sx x).getD 0, sy := (floatBits .add .f32 g.sy y).getD 0 }
structure ChInv (w W : World) (R : Nat) (F : Gr → Gr) (gs : List Gr) (n k : Nat) : Prop where
  own : W.ownsRow w.heap.size 57 7 (.slice (some ⟨R, 0, none⟩) n n) n (gcells ((gs.map F).take k ++ List.replicate (n - k) zGr))
  p : Blk W (w.heap.size + 1) 26 #[.slice none 0 0]
  l : Below w.heap.size w W
theorem ch_set (F : Gr → Gr) (gs : List Gr) (n k : Nat) (hl : gs.length = n) (hk : k < n) : ((gs.map F).take k ++ List.replicate (n - k) zGr).set k (F (gs.getD k default)) = (gs.map F).take (k + 1) ++ List.replicate (n - (k + 1)) zGr := by
  have h1 : ((gs.map F).take k).length = k := by simp; omega
  rw [List.set_append_right _ _ (by omega), h1, Nat.sub_self, show n - k = (n - (k + 1)) + 1 by omega, List.replicate_succ, List.set_cons_zero, List.take_succ_eq_append_getElem (by simp; omega)]
  simp [List.getD, List.getElem?_eq_getElem (show k < gs.length by omega)]
end Go.Proofs.Ytmkpkkaedhekdaa
