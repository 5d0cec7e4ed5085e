/- Rows in memory, told by their block (the general part of Grw's facts, for seats without grains). -/
import Derived.Test.YtjcjijfemedojaaGreatDoorRls
namespace Go.Proofs.YtjcjijfemedojaaGreatDoor
open Go.RowKit

def Blk (w : World) (g : Nat) (t : TypeId) (cs : Array Value) : Prop := w.heap[g]? = some (.cells cs t (0, 0))
theorem Blk.lt {w : World} {g : Nat} {t : TypeId} {cs : Array Value} (h : Blk w g t cs) : g < w.heap.size := (Array.getElem?_eq_some_iff.1 h).1
theorem Blk.cell {w : World} {g : Nat} {t : TypeId} {cs : Array Value} (h : Blk w g t cs) (i : Nat) : w.cell? ⟨g, i, none⟩ = cs[i]? := cell_of_row w g i cs t (0, 0) h
theorem Blk.frozen {w : World} {g : Nat} {t : TypeId} {cs : Array Value} (h : Blk w g t cs) (i : Nat) : w.frozen? ⟨g, i, none⟩ = false := by
  unfold Blk at h; simp [World.frozen?, h]
theorem Blk.alloc {w : World} {g : Nat} {t : TypeId} {cs : Array Value} (h : Blk w g t cs) (o : Obj) : Blk (w.alloc o) g t cs := (Below.heap_alloc w o g h.lt).trans h
theorem Blk.far {w : World} {g : Nat} {t : TypeId} {cs : Array Value} (h : Blk w g t cs) {p : Addr} (hp : g ≠ p.block) (u : Value) : Blk (w.setCell p u) g t cs := (Below.heap_setCell w p u g hp).trans h
theorem Blk.below {w w' : World} {g : Nat} {t : TypeId} {cs : Array Value} {B : Nat} (h : Blk w g t cs) (hb : Below B w w') (hg : g < B) : Blk w' g t cs := (hb.block g hg).trans h
theorem Blk.grown {w w' : World} {g : Nat} {t : TypeId} {cs : Array Value} {row : Option Nat} (h : Blk w g t cs) (hb : w.grownBy w' row) (hg : some g ≠ row) : Blk w' g t cs := (hb.block g h.lt hg).trans h
theorem Blk.ne_ {w : World} {g g' : Nat} {t t' : TypeId} {cs cs' : Array Value} (h : Blk w g t cs) (h' : Blk w g' t' cs') (hne : t ≠ t') : g ≠ g' := by
  rintro rfl
  unfold Blk at h h'
  rw [h] at h'
  injection h' with h'
  injection h' with _ ht
  exact hne ht
theorem own_blk_ne {w : World} {base g : Nat} {e t : TypeId} {size n : Nat} {v : Value} {xs : List Value} {cs : Array Value} (h : w.ownsRow base e size v n xs) (hg : Blk w g t cs) (hne : e ≠ t) : some g ≠ v.ownBlock := by
  rcases h.2 with ⟨rfl, _⟩ | ⟨g', cap, cur, rfl, _, hh, _⟩
  · simp [Value.ownBlock]
  · intro he
    have : g' = g := by simpa [Value.ownBlock] using he.symm
    subst this
    exact Blk.ne_ (t := e) hh hg hne rfl
theorem blk_new (w : World) (t : TypeId) (cs : Array Value) (n : Nat) (h : w.heap.size = n) : Blk (w.alloc (.cells cs t)) n t cs := by subst h; exact heap_alloc_new w _
theorem blk_next {w0 w2 : World} {g : Nat} {t : TypeId} {cs : Array Value} (h : Blk w0 g t cs) (hb : Below w0.heap.size w0 w2) : Blk w2 g t cs := h.below hb h.lt
theorem blk_app {wr w1 : World} {g : Nat} {o : Obj} {t e : TypeId} {cs : Array Value} {v : Value} {base size n : Nat} {xs : List Value} (h : Blk wr g t cs) (hO : wr.ownsRow base e size v n xs) (hne : e ≠ t) (hg : (wr.alloc o).grownBy w1 v.ownBlock) : Blk w1 g t cs :=
  (h.alloc o).grown hg (own_blk_ne (hO.alloc o) (h.alloc o) hne)
theorem below_next {w w0 w2 : World} (h : Below w.heap.size w w0) (hb : Below w0.heap.size w0 w2) : Below w.heap.size w w2 := h.trans (hb.mono h.size)
theorem own_from {w : World} {base base' e size n : Nat} {v : Value} {xs : List Value} (h : w.ownsRow base e size v n xs) (hb : base' ≤ base) : w.ownsRow base' e size v n xs := by
  rcases h with ⟨h1, h2 | ⟨g, cap, cur, hv, hg, rest⟩⟩
  · exact ⟨h1, Or.inl h2⟩
  · exact ⟨h1, Or.inr ⟨g, cap, cur, hv, Nat.le_trans hb hg, rest⟩⟩
theorem own_below {w w' : World} {base e size n : Nat} {v : Value} {xs : List Value} (h : w.ownsRow base e size v n xs) {B : Nat} (hb : Below B w w') (hB : w.heap.size ≤ B) : w'.ownsRow base e size v n xs :=
  h.kept (row := none) ⟨hb.os, hb.tape, hb.output, hb.size, fun i hi _ => hb.block i (Nat.lt_of_lt_of_le hi hB)⟩ (by cases hv : v.ownBlock <;> simp)
/-- the cells of a row of texts -/
def Txt (w : World) (g : Nat) (P : List ByteArray) : Prop := ∃ cs, Blk w g 9 cs ∧ ∀ j, j < P.length → cs[j]? = some (.string (P.getD j ⟨#[]⟩))
theorem txt_own {w : World} {base g n cap : Nat} {P : List ByteArray} (h : w.ownsRow base 9 1 (.slice (some ⟨g, 0, none⟩) n cap) n (sts P)) : Txt w g P := by
  obtain ⟨h1, h2⟩ := h
  rcases h2 with ⟨h2, _⟩ | ⟨g', cap', cur, hv, _, hb, _, _, hs, ht⟩
  · cases h2
  · obtain ⟨rfl, rfl⟩ : g' = g ∧ cap' = cap := by simp at hv; exact ⟨hv.1.symm, hv.2.symm⟩
    refine ⟨cur, hb, fun j hj => ?_⟩
    have hl : P.length = n := by simpa [sts] using h1
    have h3 : (cur.toList.take (n * 1))[j]? = some (.string (P.getD j ⟨#[]⟩)) := by rw [ht]; simp [sts, List.getD, List.getElem?_eq_getElem hj]
    rw [List.getElem?_take, if_pos (by omega)] at h3
    simpa using h3
theorem Txt.cell {w : World} {g : Nat} {P : List ByteArray} (h : Txt w g P) {j : Nat} (hj : j < P.length) : w.cell? ⟨g, j, none⟩ = some (.string (P.getD j ⟨#[]⟩)) := by
  obtain ⟨cs, hb, hc⟩ := h
  rw [hb.cell]; exact hc j hj
theorem Txt.next {w w' : World} {g : Nat} {P : List ByteArray} (h : Txt w g P) (hb : Below w.heap.size w w') : Txt w' g P := by
  obtain ⟨cs, h1, hc⟩ := h
  exact ⟨cs, blk_next h1 hb, hc⟩
theorem Txt.app {wr w1 : World} {g : Nat} {o : Obj} {e : TypeId} {P : List ByteArray} {v : Value} {base size n : Nat} {xs : List Value} (h : Txt wr g P) (hO : wr.ownsRow base e size v n xs) (hne : e ≠ 9) (hg : (wr.alloc o).grownBy w1 v.ownBlock) : Txt w1 g P := by
  obtain ⟨cs, h1, hc⟩ := h
  exact ⟨cs, blk_app h1 hO hne hg, hc⟩
theorem Txt.set_ {w : World} {g : Nat} {e : TypeId} {P : List ByteArray} {v : Value} {base size n : Nat} {xs : List Value} (h : Txt w g P) (hO : w.ownsRow base e size v n xs) (hne : e ≠ 9) {b i : Nat} (hb : v.ownBlock = some b) (u : Value) : Txt (w.setCell ⟨b, i, none⟩ u) g P := by
  obtain ⟨cs, h1, hc⟩ := h
  refine ⟨cs, h1.far (fun e => ?_) u, hc⟩
  have := own_blk_ne hO h1 hne
  rw [hb] at this
  exact this (congrArg some e)
theorem neIS : 2 ≠ 9 := by decide
end Go.Proofs.YtjcjijfemedojaaGreatDoor
