/- Lists read: the reference's numbers. -/
import Derived.Test.YtjcjijfemedojaaGreatDoorBlk
namespace Go.Proofs.YtjcjijfemedojaaGreatDoor
open Go.RowKit

def noneL : List UInt8 := [110, 111, 110, 101]
def rlOk (l : List UInt8) : Bool := decide (l = noneL) || (decide ((parts l).length ≤ 64) && (parts l).all rdOk)
def rlZ (l : List UInt8) : List Int := if l = noneL then [] else if rlOk l then (parts l).map rdN else []
theorem rl_none {l : List UInt8} (h : l = noneL) : rlOk l = true ∧ rlZ l = [] := by simp [rlOk, rlZ, h]
theorem rl_long {l : List UInt8} (hn : ¬ l = noneL) (h : ¬ (parts l).length ≤ 64) : rlOk l = false ∧ rlZ l = [] := by
  have : rlOk l = false := by simp [rlOk, hn, h]
  exact ⟨this, by simp [rlZ, hn, this]⟩
theorem rl_bad {l : List UInt8} (hn : ¬ l = noneL) (h : (parts l).all rdOk = false) : rlOk l = false ∧ rlZ l = [] := by
  have : rlOk l = false := by simp only [rlOk, hn, h]; simp
  exact ⟨this, by simp [rlZ, hn, this]⟩
theorem rl_yes {l : List UInt8} (hn : ¬ l = noneL) (h : (parts l).length ≤ 64) (ha : (parts l).all rdOk = true) : rlOk l = true ∧ rlZ l = (parts l).map rdN := by
  have : rlOk l = true := by simp only [rlOk, ha]; simp [h]
  exact ⟨this, by simp [rlZ, hn, this]⟩
/-- the numbers of the first k parts -/
def fst (P : List ByteArray) (k : Nat) : List Value := ((bts P).take k).map (fun l => Value.int .i64 (rdN l))
theorem fst_succ (P : List ByteArray) (k : Nat) (h : k < P.length) : fst P (k + 1) = fst P k ++ [.int .i64 (rdN (P.getD k ⟨#[]⟩).data.toList)] := by
  unfold fst
  rw [List.take_succ_eq_append_getElem (by simpa [bts] using h), List.map_append]
  simp [bts, List.getD, List.getElem?_eq_getElem h]
theorem fst_len (P : List ByteArray) (k : Nat) (h : k ≤ P.length) : (fst P k).length = k := by simp [fst, bts]; omega
theorem fst_all (P : List ByteArray) : fst P P.length = ((bts P).map rdN).map (Value.int .i64) := by
  unfold fst; rw [List.take_of_length_le (by simp [bts]), List.map_map]; rfl
theorem ok_succ (P : List ByteArray) (k : Nat) (h : k < P.length) : ((bts P).take (k + 1)).all rdOk = (((bts P).take k).all rdOk && rdOk (P.getD k ⟨#[]⟩).data.toList) := by
  rw [List.take_succ_eq_append_getElem (by simpa [bts] using h), List.all_append]
  simp [bts, List.getD, List.getElem?_eq_getElem h]
theorem ok_no (P : List ByteArray) (k : Nat) (h : k < P.length) (hb : rdOk (P.getD k ⟨#[]⟩).data.toList = false) : (bts P).all rdOk = false := by
  rw [← List.take_append_drop (k + 1) (bts P), List.all_append, ok_succ P k h, hb]; simp
theorem parts_le : ∀ (l p : List UInt8), p ∈ parts l → p.length ≤ l.length
  | [], p, h => by
    have : p = [] := by simpa [parts] using h
    simp [this]
  | c :: r, p, h => by
    have ih := parts_le r
    by_cases hc : c = 44
    · subst hc
      rw [parts_comma] at h
      rcases List.mem_cons.1 h with rfl | h
      · simp
      · have := ih p h; simp; omega
    · cases hr : parts r with
      | nil => exact absurd hr (parts_ne r)
      | cons q qs =>
        rw [parts_cons hc hr] at h
        rw [hr] at ih
        rcases List.mem_cons.1 h with rfl | h
        · have := ih q (by simp); simp; omega
        · have := ih p (by simp [h]); simp; omega
theorem bts_le {P : List ByteArray} {l : List UInt8} (h : bts P = parts l) {k : Nat} (hk : k < P.length) : (P.getD k ⟨#[]⟩).size ≤ l.length := by
  have := parts_le l (P.getD k ⟨#[]⟩).data.toList (by
    rw [← h]
    simp only [bts, List.getD, List.getElem?_eq_getElem hk, Option.getD_some]
    exact List.mem_map.2 ⟨_, List.getElem_mem hk, rfl⟩)
  simpa using this

def RlAns (zs : List Int) (ok : Bool) (w : World) (e : Ending) (w' : World) : Prop := ∃ v, e = .returned (.tuple #[v, .bool ok]) ∧ w'.ownsRow w.heap.size 2 1 v zs.length (zs.map (Value.int .i64)) ∧ Below w.heap.size w w'

end Go.Proofs.YtjcjijfemedojaaGreatDoor
