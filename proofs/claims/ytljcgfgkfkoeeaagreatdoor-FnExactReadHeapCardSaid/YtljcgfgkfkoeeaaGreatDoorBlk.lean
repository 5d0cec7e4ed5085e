/- Rows in memory, told by their block (the general part of Grw's facts, for seats without grains). -/
import Derived.Test.YtljcgfgkfkoeeaaGreatDoorRls
import Derived.Test.YtljcgfgkfkoeeaaGreatDoorGrw
namespace Go.Proofs.YtljcgfgkfkoeeaaGreatDoor
open Go.RowKit

theorem blk_app {wr w1 : World} {g : Nat} {o : Obj} {t e : TypeId} {cs : Array Value} {v : Value} {base size n : Nat} {xs : List Value} (h : Blk wr g t cs) (hO : wr.ownsRow base e size v n xs) (hne : e ≠ t) (hg : (wr.alloc o).grownBy w1 v.ownBlock) : Blk w1 g t cs :=
  (h.alloc o).grown hg (own_blk_ne (hO.alloc o) (h.alloc o) hne)
/-- the cells of a row of texts -/
def Txt (w : World) (g : Nat) (P : List ByteArray) : Prop := ∃ cs, Blk w g 9 cs ∧ ∀ j, j < P.length → cs[j]? = some (.string (P.getD j ⟨#[]⟩))
theorem txt_own {w : World} {base g n cap : Nat} {P : List ByteArray} (h : w.ownsRow base 9 1 (.slice (some ⟨g, 0, none⟩) n cap) n (sts P)) : Txt w g P := by
  obtain ⟨h1, h2⟩ := h
  rcases h2 with ⟨h2, _⟩ | ⟨g', cap', cur, hv, _, hb, _, _, hs, ht⟩
  · cases h2
  · obtain ⟨rfl, rfl⟩ : g' = g ∧ cap' = cap := by simp at hv; exact ⟨hv.1.symm, hv.2.symm⟩
    refine ⟨cur, hb, fun j hj => ?_⟩
    have hl : P.length = n := by simpa [sts] using h1
    have h3 : (cur.toList.take (n * 1))[j]? = some (.string (P.getD j ⟨#[]⟩)) := by rw [ht]; simp [sts, List.getD, List.getElem?_eq_getElem hj]
    rw [List.getElem?_take, if_pos (by omega)] at h3
    simpa using h3
theorem Txt.cell {w : World} {g : Nat} {P : List ByteArray} (h : Txt w g P) {j : Nat} (hj : j < P.length) : w.cell? ⟨g, j, none⟩ = some (.string (P.getD j ⟨#[]⟩)) := by
  obtain ⟨cs, hb, hc⟩ := h
  rw [hb.cell]; exact hc j hj
theorem Txt.next {w w' : World} {g : Nat} {P : List ByteArray} (h : Txt w g P) (hb : Below w.heap.size w w') : Txt w' g P := by
  obtain ⟨cs, h1, hc⟩ := h
  exact ⟨cs, blk_next h1 hb, hc⟩
theorem Txt.app {wr w1 : World} {g : Nat} {o : Obj} {e : TypeId} {P : List ByteArray} {v : Value} {base size n : Nat} {xs : List Value} (h : Txt wr g P) (hO : wr.ownsRow base e size v n xs) (hne : e ≠ 9) (hg : (wr.alloc o).grownBy w1 v.ownBlock) : Txt w1 g P := by
  obtain ⟨cs, h1, hc⟩ := h
  exact ⟨cs, blk_app h1 hO hne hg, hc⟩
theorem Txt.set_ {w : World} {g : Nat} {e : TypeId} {P : List ByteArray} {v : Value} {base size n : Nat} {xs : List Value} (h : Txt w g P) (hO : w.ownsRow base e size v n xs) (hne : e ≠ 9) {b i : Nat} (hb : v.ownBlock = some b) (u : Value) : Txt (w.setCell ⟨b, i, none⟩ u) g P := by
  obtain ⟨cs, h1, hc⟩ := h
  refine ⟨cs, h1.far (fun e => ?_) u, hc⟩
  have := own_blk_ne hO h1 hne
  rw [hb] at this
  exact this (congrArg some e)
theorem neIS : 2 ≠ 9 := by decide
end Go.Proofs.YtljcgfgkfkoeeaaGreatDoor
