/- Slices of bytes that came in. -/
import Derived.Test.YtjcjijfemedojaaGreatDoorList
namespace Go.Proofs.YtjcjijfemedojaaGreatDoor
open Go.RowKit Fl

/-- a slice of bytes that came in -/
structure BRow (w : World) (ao : Option Addr) (n : Nat) : Prop where
  len : n ≤ 9223372036854775807
  addr : 0 < n → ∃ a : Addr, ao = some a
  cell : ∀ a, ao = some a → ∀ i, i < n → ∃ v : Nat, v < 256 ∧ w.cell? (a.add i) = some (.int .u8 v)
theorem BRow.next {w w' : World} {ao : Option Addr} {n : Nat} (h : BRow w ao n) (hb : Below w.heap.size w w') : BRow w' ao n :=
  ⟨h.len, h.addr, fun a ha i hi => by
    obtain ⟨v, hv, hc⟩ := h.cell a ha i hi
    exact ⟨v, hv, by rw [hb.cell (p := a.add i) (World.block_lt_of_cell? w _ hc)]; exact hc⟩⟩
end Go.Proofs.YtjcjijfemedojaaGreatDoor
