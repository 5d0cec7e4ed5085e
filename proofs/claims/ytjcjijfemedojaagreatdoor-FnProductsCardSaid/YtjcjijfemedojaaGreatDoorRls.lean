/- Lists read: the reference's side. -/
import Derived.Test.YtjcjijfemedojaaGreatDoorRlf
import Derived.Test.YtjcjijfemedojaaGreatDoorRdw
import Derived.Test.YtjcjijfemedojaaGreatDoorIList
namespace Go.Proofs.YtjcjijfemedojaaGreatDoor
open Go.RowKit

theorem sinfo : (Tryz.prog.info? 9).map (fun i => (i.zero, i.size, i.bytes)) = some (some (.string ⟨#[]⟩), 1, 16) := by kernel_rfl
def bts (P : List ByteArray) : List (List UInt8) := P.map (·.data.toList)
def sts (P : List ByteArray) : List Value := P.map Value.string
theorem own_form1 {w : World} {base e n : Nat} {v : Value} {xs : List Value} (h : w.ownsRow base e 1 v n xs) (hn : 0 < n) : ∃ b cap, v = .slice (some ⟨b, 0, none⟩) n cap ∧ base ≤ b ∧ b < w.heap.size := by
  rcases h.2 with ⟨_, h0⟩ | ⟨g, cap, cur, hv, hb, hg, _⟩
  · omega
  · exact ⟨g, cap, hv, hb, (Array.getElem?_eq_some_iff.1 hg).1⟩
theorem own_nil1 (w : World) (e : TypeId) (base : Nat) (hb : base ≤ w.heap.size) : (w.alloc (.cells #[] e)).ownsRow base e 1 (.slice (some ⟨w.heap.size, 0, none⟩) 0 0) 0 [] := World.ownsRow_lit w #[] 0 hb (by decide) rfl

theorem ext_bytes (s : ByteArray) (f k : Nat) : (s.extract f k).data.toList = (s.data.toList.take k).drop f := by
  rw [ByteArray.data_extract, Array.toList_extract, List.extract_eq_take_drop, List.drop_take]
theorem below_app {w wr w1 : World} {o : Obj} {e : TypeId} {v : Value} {size n : Nat} {xs : List Value} (h : Below w.heap.size w wr) (hO : wr.ownsRow w.heap.size e size v n xs) (hg : (wr.alloc o).grownBy w1 v.ownBlock) : Below w.heap.size w w1 :=
  (h.alloc h.size o).grown hg (by have := h.size; simp; omega) (fun k hk => (hO.lt k hk).1)
theorem below_app0 {w wr w1 : World} {e : TypeId} {v : Value} {size n : Nat} {xs : List Value} (h : Below w.heap.size w wr) (hO : wr.ownsRow w.heap.size e size v n xs) (hg : wr.grownBy w1 v.ownBlock) : Below w.heap.size w w1 :=
  h.grown hg h.size (fun k hk => (hO.lt k hk).1)
theorem sts_snoc (P : List ByteArray) (x : ByteArray) : sts (P ++ [x]) = sts P ++ [.string x] := by simp [sts]
theorem bts_snoc (P : List ByteArray) (x : ByteArray) : bts (P ++ [x]) = bts P ++ [x.data.toList] := by simp [bts]
end Go.Proofs.YtjcjijfemedojaaGreatDoor
