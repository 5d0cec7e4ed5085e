/- The draws of lists of numbers. -/
import Derived.Test.YtjcjijfemedojaaGreatDoorSrf
import Derived.Test.YtjcjijfemedojaaGreatDoorRfi
namespace Go.Proofs.YtjcjijfemedojaaGreatDoor
open Go.RowKit Fl

theorem Only.grown {b : Nat} {w w1 w2 : World} {row : Option Nat} (h : Only b w w1) (hg : w1.grownBy w2 row) (hr : ∀ k, row = some k → w.heap.size ≤ k) (hb : b < w.heap.size) : Only b w w2 :=
  ⟨h.below.grown hg (by have := h.below.size; omega) (fun k hk => by have := hr k hk; omega), fun g hne hl => (hg.block g (Nat.lt_of_lt_of_le hl h.below.size) (by intro e; have := hr g e.symm; omega)).trans (h.far g hne hl)⟩
theorem Src.grown {b m : Nat} {w w1 : World} {row : Option Nat} (h : Src w b m) (hg : w.grownBy w1 row) (hb : row ≠ some b) (hr : ∀ k, row = some k → b ≤ k) : Src w1 b m := by
  obtain ⟨ao, n, c, k, sd, h1, h2, h3, h4, h5, h6⟩ := h
  refine Src.put (w := w) (h1.grown hg (Ne.symm hb)) ?_ h2 h3 h4 h5 h6
  exact (Below.refl _ _).grown hg (Nat.le_of_lt h1.lt) hr
/-- a list of n numbers is drawn -/
def DrewFs (w : World) (b n : Nat) (e : Ending) (w' : World) : Prop := ∃ (v : Value) (zs : List Nat), e = .returned v ∧ zs.length = n ∧ (∀ z ∈ zs, z < 4294967296) ∧ w'.ownsRow w.heap.size 28 1 v n (zs.map (Value.float .f32)) ∧ Only b w w'
theorem own_only {b : Nat} {w0 w w' : World} {e size n : Nat} {v : Value} {xs : List Value} (h : Only b w w') (ho : w.ownsRow w0.heap.size e size v n xs) (hb : b < w0.heap.size) : w'.ownsRow w0.heap.size e size v n xs :=
  h.own ho (by intro e; have := (ho.lt b e).1; omega)
theorem snoc_lt {zs : List Nat} {r : Nat} (h : ∀ z ∈ zs, z < 4294967296) (hr : r < 4294967296) : ∀ z ∈ zs ++ [r], z < 4294967296 := by
  intro z hz
  rcases List.mem_append.1 hz with h1 | h1
  · exact h z h1
  · have : z = r := by simpa using h1
    omega
end Go.Proofs.YtjcjijfemedojaaGreatDoor
