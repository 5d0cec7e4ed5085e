/- Contracts on lists of 32-bit numbers: copied, compared, added. -/
import Derived.Test.YtjcjijfemedojaaGreatDoorBits
import Derived.Lib.Hide
import Derived.Deep.QuietTactic
import Derived.BigQuiet
import Derived.BigRegion
import Derived.Deep.RegionWith
import Derived.Laws.OwnMore
namespace Go.Proofs.YtjcjijfemedojaaGreatDoor
open Go.RowKit Fl

/-- A slice value of n elements, whose cells hold the numbers zs. -/
structure FRow (w : World) (ao : Option Addr) (n : Nat) (zs : List Nat) : Prop where
  len : zs.length = n
  addr : 0 < n → ∃ a : Addr, ao = some a
  cell : ∀ a : Addr, ao = some a → ∀ i, i < n → w.cell? (a.add i) = some (.float .f32 (zs.getD i 0))

theorem FRow.quiet {w w' : World} {ao : Option Addr} {n : Nat} {zs : List Nat} (h : FRow w ao n zs) (hq : Quiet w w') : FRow w' ao n zs := by
  obtain ⟨m, rfl⟩ := hq
  exact ⟨h.len, h.addr, fun a ha i hi => h.cell a ha i hi⟩

theorem FRow.below {w w' : World} {ao : Option Addr} {n : Nat} {zs : List Nat} (h : FRow w ao n zs) {B : Nat} (hb : Below B w w') (hB : w.heap.size ≤ B) : FRow w' ao n zs :=
  ⟨h.len, h.addr, fun a ha i hi => by
    have hc := h.cell a ha i hi
    rw [hb.cell (p := a.add i) (Nat.lt_of_lt_of_le (World.block_lt_of_cell? w _ hc) hB)]; exact hc⟩

theorem Quiet.below {w w' : World} (h : Quiet w w') (B : Nat) : Below B w w' := by
  obtain ⟨n, rfl⟩ := h; exact below_drewN (Below.refl _ _) n
theorem Quiet.size {w w' : World} (h : Quiet w w') : w'.heap.size = w.heap.size := by obtain ⟨n, rfl⟩ := h; rfl


end Go.Proofs.YtjcjijfemedojaaGreatDoor
