/- Lists of numbers read: what both sides give, and the program's side. -/
import Derived.Test.YtjcjijfemedojaaGreatDoorRnn
import Derived.Test.YtjcjijfemedojaaGreatDoorRlt
import Derived.Test.YtjcjijfemedojaaGreatDoorRli
import Derived.Test.YtjcjijfemedojaaGreatDoorList
namespace Go.Proofs.YtjcjijfemedojaaGreatDoor
open Go.RowKit Fl

theorem f32info : (Tryz.prog.info? 28).map (fun i => (i.zero, i.size, i.bytes)) = some (some (.float .f32 0), 1, 4) := by kernel_rfl
def rnOk (p : List UInt8) : Bool := (rn p).isSome
def rnN (p : List UInt8) : Nat := (rn p).getD 0
theorem rn_end_yes {p : List UInt8} (h : rnOk p = true) : rnEnd (rn p) = .returned (.tuple #[.float .f32 (rnN p), .bool true]) := by
  unfold rnOk rnN at *
  cases hr : rn p with
  | none => rw [hr] at h; cases h
  | some n => rfl
theorem rn_end_no {p : List UInt8} (h : rnOk p = false) : rnEnd (rn p) = .returned (.tuple #[.float .f32 0, .bool false]) := by
  unfold rnOk at h
  cases hr : rn p with
  | none => rfl
  | some n => rw [hr] at h; cases h
def flOk (l : List UInt8) : Bool := decide (l = noneL) || (decide ((parts l).length ≤ 256) && (parts l).all rnOk)
def flZ (l : List UInt8) : List Nat := if l = noneL then [] else if flOk l then (parts l).map rnN else []
theorem fl_none {l : List UInt8} (h : l = noneL) : flOk l = true ∧ flZ l = [] := by simp [flOk, flZ, h]
theorem fl_long {l : List UInt8} (hn : ¬ l = noneL) (h : ¬ (parts l).length ≤ 256) : flOk l = false ∧ flZ l = [] := by
  have : flOk l = false := by simp [flOk, hn, h]
  exact ⟨this, by simp [flZ, hn, this]⟩
theorem fl_bad {l : List UInt8} (hn : ¬ l = noneL) (h : (parts l).all rnOk = false) : flOk l = false ∧ flZ l = [] := by
  have : flOk l = false := by simp only [flOk, hn, h]; simp
  exact ⟨this, by simp [flZ, hn, this]⟩
theorem fl_yes {l : List UInt8} (hn : ¬ l = noneL) (h : (parts l).length ≤ 256) (ha : (parts l).all rnOk = true) : flOk l = true ∧ flZ l = (parts l).map rnN := by
  have : flOk l = true := by simp only [flOk, ha]; simp [h]
  exact ⟨this, by simp [flZ, hn, this]⟩
/-- the numbers of the first k parts -/
def fsf (P : List ByteArray) (k : Nat) : List Value := ((bts P).take k).map (fun l => Value.float .f32 (rnN l))
theorem fsf_succ (P : List ByteArray) (k : Nat) (h : k < P.length) : fsf P (k + 1) = fsf P k ++ [.float .f32 (rnN (P.getD k ⟨#[]⟩).data.toList)] := by
  unfold fsf
  rw [List.take_succ_eq_append_getElem (by simpa [bts] using h), List.map_append]
  simp [bts, List.getD, List.getElem?_eq_getElem h]
theorem fsf_len (P : List ByteArray) (k : Nat) (h : k ≤ P.length) : (fsf P k).length = k := by simp [fsf, bts]; omega
theorem fsf_all (P : List ByteArray) : fsf P P.length = ((bts P).map rnN).map (Value.float .f32) := by
  unfold fsf; rw [List.take_of_length_le (by simp [bts]), List.map_map]; rfl
theorem okf_succ (P : List ByteArray) (k : Nat) (h : k < P.length) : ((bts P).take (k + 1)).all rnOk = (((bts P).take k).all rnOk && rnOk (P.getD k ⟨#[]⟩).data.toList) := by
  rw [List.take_succ_eq_append_getElem (by simpa [bts] using h), List.all_append]
  simp [bts, List.getD, List.getElem?_eq_getElem h]
theorem okf_no (P : List ByteArray) (k : Nat) (h : k < P.length) (hb : rnOk (P.getD k ⟨#[]⟩).data.toList = false) : (bts P).all rnOk = false := by
  rw [← List.take_append_drop (k + 1) (bts P), List.all_append, okf_succ P k h, hb]; simp
def FlAns (zs : List Nat) (ok : Bool) (w : World) (e : Ending) (w' : World) : Prop := ∃ v, e = .returned (.tuple #[v, .bool ok]) ∧ w'.ownsRow w.heap.size 28 1 v zs.length (zs.map (Value.float .f32)) ∧ Below w.heap.size w w'

theorem neFS : 28 ≠ 9 := by decide
end Go.Proofs.YtjcjijfemedojaaGreatDoor
