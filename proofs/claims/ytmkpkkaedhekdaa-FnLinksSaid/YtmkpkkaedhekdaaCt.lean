/- Is an integer among some indices? -/
import Derived.Test.YtmkpkkaedhekdaaHr
namespace Go.Proofs.Ytmkpkkaedhekdaa
open Go.RowKit Fl

/-- a slice of integers that reads as zs -/
def NRow (w : World) (ao : Option Addr) (n : Nat) (zs : List Nat) : Prop := zs.length = n ∧ (0 < n → ∃ b, ao = some ⟨b, 0, none⟩ ∧ ∀ k, k < n → w.cell? ⟨b, k, none⟩ = some (.int .i64 ((zs.getD k 0 : Nat) : Int)))
theorem NRow.below {w w' : World} {ao : Option Addr} {n : Nat} {zs : List Nat} (h : NRow w ao n zs) {B : Nat} (hb : Below B w w') (hB : w.heap.size ≤ B) : NRow w' ao n zs :=
  ⟨h.1, fun hn => by
    obtain ⟨b, hb1, hb2⟩ := h.2 hn
    exact ⟨b, hb1, fun k hk => by
      have hc := hb2 k hk
      rw [hb.cell (p := ⟨b, k, none⟩) (Nat.lt_of_lt_of_le (World.block_lt_of_cell? w _ hc) hB)]; exact hc⟩⟩
theorem NRow.next {w w' : World} {ao : Option Addr} {n : Nat} {zs : List Nat} (h : NRow w ao n zs) (hb : Below w.heap.size w w') : NRow w' ao n zs := h.below hb (Nat.le_refl _)
theorem NRow.quiet {w w' : World} {ao : Option Addr} {n : Nat} {zs : List Nat} (h : NRow w ao n zs) (hq : Quiet w w') : NRow w' ao n zs := by obtain ⟨m, rfl⟩ := hq; exact h
theorem own_form' {w : World} {base e size n : Nat} {v : Value} {xs : List Value} (h : w.ownsRow base e size v n xs) (hn : 0 < n) : ∃ b cap, v = .slice (some ⟨b, 0, none⟩) n cap ∧ base ≤ b ∧ b < w.heap.size := by
  rcases h.2 with ⟨_, h0⟩ | ⟨g, cap, cur, hv, hb, hg, _⟩
  · omega
  · exact ⟨g, cap, hv, hb, (Array.getElem?_eq_some_iff.1 hg).1⟩
theorem NRow.of_own {w : World} {base n c : Nat} {ao : Option Addr} {zs : List Nat} (h : w.ownsRow base 2 1 (.slice ao n c) n (ints zs)) (hl : zs.length = n) : NRow w ao n zs := by
  refine ⟨hl, fun hn => ?_⟩
  obtain ⟨b, cap, hv, _, _⟩ := own_form' h hn
  have : ao = some ⟨b, 0, none⟩ ∧ c = cap := by simpa using hv
  obtain ⟨rfl, rfl⟩ := this
  refine ⟨b, rfl, fun k hk => ?_⟩
  rw [h.cellAt k (by omega)]
  simp [ints, List.getD, List.getElem?_eq_getElem (show k < zs.length by omega)]
theorem contains_take (zs : List Nat) (x k : Nat) (h : k < zs.length) : (zs.take (k + 1)).contains x = ((zs.take k).contains x || x == zs.getD k 0) := by
  rw [List.take_succ_eq_append_getElem h, List.contains_append]
  simp [List.getD, List.getElem?_eq_getElem h]
  rfl
/-- an index of at least 0 if there is one, else -1 -/
def IdxAns (c : Bool) (w : World) (e : Ending) (w' : World) : Prop := ∃ r : Int, (-1 ≤ r ∧ r < 1000) ∧ (decide (0 ≤ r)) = c ∧ e = .returned (.int .i64 r) ∧ Quiet w w'
end Go.Proofs.Ytmkpkkaedhekdaa
