/- Contracts of the small functions on numbers: bits, not-a-numbers, finiteness, sameness. Every 32-bit or 64-bit number; the world may have drawn. -/
import Derived.Test.YtokllkngikcoiaaDoorFw
namespace Go.Proofs.YtokllkngikcoiaaDoor
open Go.RowKit Fl

def Quiet (w w' : World) : Prop := ∃ n, w' = w.drewN n
theorem Quiet.refl (w : World) : Quiet w w := ⟨0, rfl⟩
theorem Quiet.drew {w w' : World} (h : Quiet w w') : Quiet w w'.drew := by obtain ⟨n, rfl⟩ := h; exact ⟨n + 1, rfl⟩
theorem Quiet.one (w : World) : Quiet w w.drew := ⟨1, rfl⟩
theorem Quiet.trans {a b c : World} (h : Quiet a b) (h' : Quiet b c) : Quiet a c := by
  obtain ⟨n, rfl⟩ := h; obtain ⟨m, rfl⟩ := h'; exact ⟨n + m, by simp [World.drewN, Nat.add_assoc]⟩

theorem Quiet.alike {w w' : World} (h : Quiet w w') : w'.Alike w := by obtain ⟨n, rfl⟩ := h; exact ⟨rfl, rfl, rfl⟩

/-- BitsOf -/
def bitsOf (a : Nat) : Int := if nan32 a then 2143289344 else a

theorem ord32 (a : Nat) : FloatKind.f32.format.order a a = if nan32 a then none else some .eq := order_self _ a
theorem ord64 (a : Nat) : FloatKind.f64.format.order a a = if nan64 a then none else some .eq := order_self _ a








theorem nanc64_lt (a : Nat) (w : World) : nanc .f64 a w < 18446744073709551616 := by
  show (w.tape w.drawn (.nanConv .f64 a)) % 2 * 2 ^ 63 + 0x7ff0000000000000 + 1 + (w.tape w.drawn (.nanConv .f64 a)) / 2 % (2 ^ 52 - 1) < _
  omega
theorem wide_lt (a : Nat) : wide a < 18446744073709551616 := Ieee.double.write_lt _






end Go.Proofs.YtokllkngikcoiaaDoor
