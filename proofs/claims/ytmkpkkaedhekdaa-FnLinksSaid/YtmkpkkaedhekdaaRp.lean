/- A place in quarters that two bytes choose. -/
import Derived.Test.YtmkpkkaedhekdaaRh
namespace Go.Proofs.Ytmkpkkaedhekdaa
open Go.RowKit Fl

/-- the byte at a place of a slice, if there is one -/
def ByteAt (w : World) (ao : Option Addr) (n i : Nat) (o : Option Nat) : Prop := (i < n → ∃ (a : Addr) (v : Nat), ao = some a ∧ v < 256 ∧ w.cell? (a.add i) = some (.int .u8 v) ∧ o = some v) ∧ (n ≤ i → o = none)
theorem ByteAt.of_row {w : World} {ao : Option Addr} {n : Nat} (h : BRow w ao n) (i : Nat) : ∃ o, ByteAt w ao n i o := by
  by_cases hi : i < n
  · obtain ⟨a, rfl⟩ := h.addr (by omega)
    obtain ⟨v, hv, hc⟩ := h.cell a rfl i hi
    exact ⟨some v, fun _ => ⟨a, v, rfl, hv, hc, rfl⟩, fun h => by omega⟩
  · exact ⟨none, fun h => by omega, fun _ => rfl⟩
theorem ByteAt.next {w w' : World} {ao : Option Addr} {n i : Nat} {o : Option Nat} (h : ByteAt w ao n i o) (hb : Below w.heap.size w w') : ByteAt w' ao n i o :=
  ⟨fun hi => by
    obtain ⟨a, v, h1, hv, h2, h3⟩ := h.1 hi
    exact ⟨a, v, h1, hv, by rw [hb.cell (p := a.add i) (World.block_lt_of_cell? w _ h2)]; exact h2, h3⟩, h.2⟩
/-- the number that a byte chooses, or d -/
def placeW (o : Option Nat) (d : Nat) : Nat := match o with
  | some v => (floatBits .quo .f32 (floatOfInt .f32 ((v : Int) % 33 - 16)) 1082130432).getD 0
  | none => d
theorem emod33 (v : Nat) : 0 ≤ (v : Int) % 33 ∧ (v : Int) % 33 < 33 := by omega
theorem placeW_exa (o : Option Nat) (d : Nat) (q : Int) (hd : Exa Ieee.single (-2) d q) (hq : -16 ≤ q ∧ q ≤ 16) : ∃ a : Int, Exa Ieee.single (-2) (placeW o d) a ∧ -16 ≤ a ∧ a ≤ 16 := by
  cases o with
  | none => exact ⟨q, hd, hq⟩
  | some v =>
    have hm := emod33 v
    obtain ⟨r, h1, h2⟩ := quo4 ((v : Int) % 33 - 16) (by omega)
    refine ⟨(v : Int) % 33 - 16, ?_, by omega, by omega⟩
    show Exa _ _ ((floatBits .quo .f32 (floatOfInt .f32 ((v : Int) % 33 - 16)) 1082130432).getD 0) _
    rw [h1]; exact h2
theorem exa_one4 : Exa Ieee.single (-2) 1065353216 4 := ⟨fun _ => by decide +kernel, fun h => by cases h⟩
theorem exa_half4 : Exa Ieee.single (-2) 3204448256 (-2) := ⟨fun _ => by decide +kernel, fun h => by cases h⟩
structure RpInv (w wr : World) (x y : Nat) : Prop where
  blk : Blk wr w.heap.size 46 #[.float .f32 x, .float .f32 y]
  below : Below w.heap.size w wr
end Go.Proofs.Ytmkpkkaedhekdaa
