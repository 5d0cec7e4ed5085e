/- The journal of lines: plain facts. -/
import Derived.Test.YtokllkngikcoiaaDoorStr
import Derived.Test.YtokllkngikcoiaaDoorRdw
import Derived.Test.YtokllkngikcoiaaDoorCl
namespace Go.Proofs.YtokllkngikcoiaaDoor

def jline (n : Int) (l : List UInt8) : List UInt8 := Lib.itoa (chk n l) ++ (32 :: (l ++ [10]))
def jour (n : Int) : List (List UInt8) → List UInt8
  | [] => []
  | l :: L => jline n l ++ jour (chk n l) L
def jchk (n : Int) (L : List (List UInt8)) : Int := L.foldl chk n
theorem jchk_snoc (n : Int) (L : List (List UInt8)) (l : List UInt8) : jchk n (L ++ [l]) = chk (jchk n L) l := by simp [jchk, List.foldl_append]
theorem jchk_bd (n : Int) (L : List (List UInt8)) (h : 0 ≤ n ∧ n ≤ 65002) : 0 ≤ jchk n L ∧ jchk n L ≤ 65002 := by
  induction L generalizing n with
  | nil => exact h
  | cons l L ih => exact ih _ (chk_bd n l h.1 h.2)
theorem jour_snoc (n : Int) (L : List (List UInt8)) (l : List UInt8) : jour n (L ++ [l]) = jour n L ++ jline (jchk n L) l := by
  induction L generalizing n with
  | nil => simp [jour, jchk]
  | cons x L ih =>
    rw [List.cons_append, jour, ih, jour, List.append_assoc]
    rfl
theorem itoa_le (z : Int) (h : 0 ≤ z ∧ z ≤ 65002) : (Lib.itoa z).length ≤ 17 := (itoa_len z (by omega) (by omega)).2
theorem itoa_ge (z : Int) (h : 0 ≤ z ∧ z ≤ 65002) : 1 ≤ (Lib.itoa z).length := (itoa_len z (by omega) (by omega)).1
theorem jline_len (n : Int) (l : List UInt8) (h : 0 ≤ n ∧ n ≤ 65002) : l.length + 3 ≤ (jline n l).length ∧ (jline n l).length ≤ l.length + 19 := by
  have h1 := itoa_le _ (chk_bd n l h.1 h.2)
  have h2 := itoa_ge _ (chk_bd n l h.1 h.2)
  unfold jline
  simp only [List.length_append, List.length_cons, List.length_nil]
  omega
/-- the least that lines take -/
def jleast (L : List (List UInt8)) : Nat := (L.map fun l => l.length + 3).sum
theorem jleast_le (n : Int) (L : List (List UInt8)) (h : 0 ≤ n ∧ n ≤ 65002) : jleast L ≤ (jour n L).length := by
  induction L generalizing n with
  | nil => exact Nat.le_refl _
  | cons l L ih =>
    have h1 := (jline_len n l h).1
    have h2 := ih _ (chk_bd n l h.1 h.2)
    rw [jour, List.length_append]
    unfold jleast at *
    rw [List.map_cons, List.sum_cons]
    omega
theorem jleast_snoc (L : List (List UInt8)) (l : List UInt8) : jleast (L ++ [l]) = jleast L + (l.length + 3) := by simp [jleast]
theorem jleast_mono (A B : List (List UInt8)) : jleast A ≤ jleast (A ++ B) := by simp [jleast]
def noNl (l : List UInt8) : Bool := l.all fun c => decide (c ≠ 10)
def jOk (L : List (List UInt8)) : Bool := L.all noNl && decide ((jour 0 L).length ≤ 16000)
def jTxt (L : List (List UInt8)) : ByteArray := if jOk L then ⟨(jour 0 L).toArray⟩ else ⟨#[]⟩
def jAns (L : List (List UInt8)) : Ending := .returned (.tuple #[.string (jTxt L), .bool (jOk L)])
theorem j_no {L : List (List UInt8)} (h : jOk L = false) : jAns L = .returned (.tuple #[.string ⟨#[]⟩, .bool false]) := by
  unfold jAns jTxt; rw [h]; rfl
theorem j_yes {L : List (List UInt8)} (h : jOk L = true) : jAns L = .returned (.tuple #[.string ⟨(jour 0 L).toArray⟩, .bool true]) := by
  unfold jAns jTxt; rw [h]; rfl
theorem jour_mono (n : Int) (A B : List (List UInt8)) : (jour n A).length ≤ (jour n (A ++ B)).length := by
  induction A generalizing n with
  | nil => simp [jour]
  | cons l A ih =>
    rw [List.cons_append, jour, jour, List.length_append, List.length_append]
    have := ih (chk n l)
    omega
theorem j_least {L : List (List UInt8)} {k : Nat} (h : 16000 < jleast (L.take k)) : jOk L = false := by
  have h1 := jleast_mono (L.take k) (L.drop k)
  rw [List.take_append_drop] at h1
  have h2 := jleast_le 0 L (by omega)
  unfold jOk
  rw [decide_eq_false (by omega), Bool.and_false]
theorem j_long {L : List (List UInt8)} {k : Nat} (h : 16000 < (jour 0 (L.take k)).length) : jOk L = false := by
  have h1 := jour_mono 0 (L.take k) (L.drop k)
  rw [List.take_append_drop] at h1
  unfold jOk
  rw [decide_eq_false (by omega), Bool.and_false]
theorem j_nl {L : List (List UInt8)} {k : Nat} (h : k < L.length) (h2 : noNl (L.getD k []) = false) : jOk L = false := by
  have : L.all noNl = false := by
    rw [List.all_eq_false]
    refine ⟨L[k], List.getElem_mem h, ?_⟩
    simp only [List.getD, List.getElem?_eq_getElem h, Option.getD_some] at h2
    simp [h2]
  unfold jOk
  rw [this, Bool.false_and]
theorem nl_succ (L : List (List UInt8)) (k : Nat) (h : k < L.length) : (L.take (k + 1)).all noNl = ((L.take k).all noNl && noNl (L.getD k [])) := by
  rw [List.take_succ_eq_append_getElem h, List.all_append]
  simp [List.getD, List.getElem?_eq_getElem h]
theorem take_get {α : Type} (L : List α) (k : Nat) (d : α) (h : k < L.length) : L.take (k + 1) = L.take k ++ [L.getD k d] := by
  rw [List.take_succ_eq_append_getElem h]
  simp [List.getD, List.getElem?_eq_getElem h]
end Go.Proofs.YtokllkngikcoiaaDoor
