/- A grain of a heap is held, or not. -/
import Derived.Test.YtmkpkkaedhekdaaLf
import Derived.Lib.SliceRun
namespace Go.Proofs.Ytmkpkkaedhekdaa
open Go.RowKit Fl

theorem GrRow.alloc {w : World} {b : Nat} {gs : List Gr} (h : GrRow w b gs) (o : Obj) : GrRow (w.alloc o) b gs := h.below ((Below.refl w.heap.size w).alloc (Nat.le_refl _) o) (Nat.le_refl _)
theorem isIndex_yes (ao : Option Addr) (n c i : Nat) (w : World) (hi : i < n) (_hn : n ≤ 24) :
    Calls Try.prog 45 #[.agg #[.slice ao n c], .int .i64 i] w fun e w' => e = .returned (.bool true) ∧ Below w.heap.size w w' := by
  have HBel := Lib.hid ((Below.refl w.heap.size w).alloc (Nat.le_refl _) (.cells #[.slice ao n c] 26))
  go_enter Try.func45, Try.ntmps45
  go_wp2
  go_ret
  exact ⟨rfl, HBel.out⟩
/-- a heap of the call's own -/
def GaveHeap (w : World) (gs : List Gr) (e : Ending) (w' : World) : Prop := ∃ b c, e = .returned (.tuple #[.agg #[.slice (some ⟨b, 0, none⟩) gs.length c], .bool true]) ∧ w'.ownsRow w.heap.size 57 7 (.slice (some ⟨b, 0, none⟩) gs.length c) gs.length (gcells gs) ∧ Below w.heap.size w w'
end Go.Proofs.Ytmkpkkaedhekdaa
