/- Lines of a text: plain facts; no program. -/
import Derived.Test.YtokllkngikcoiaaDoorCf
import Derived.Lib.Split
namespace Go.Proofs.YtokllkngikcoiaaDoor

/-- the lines of a text, each ended by a newline -/
def lns (l : List UInt8) : List (List UInt8) := (cparts 10 l).dropLast
/-- what is left behind them -/
def lrest (l : List UInt8) : List UInt8 := (cparts 10 l).getLast (cparts_ne l)
theorem lns_eq (l : List UInt8) : cparts 10 l = lns l ++ [lrest l] := (List.dropLast_concat_getLast (cparts_ne l)).symm
theorem lns_nil : lns [] = [] := rfl
theorem lrest_nil : lrest [] = [] := rfl
theorem lns_close (l : List UInt8) : lns (l ++ [10]) = cparts 10 l ∧ lrest (l ++ [10]) = [] := by
  have h := lns_eq (l ++ [10])
  rw [cparts_close] at h
  have h2 := clast_eq h
  exact ⟨h2.1.symm, h2.2.symm⟩
theorem lrest_more (l : List UInt8) (c : UInt8) (h : c ≠ 10) : lrest (l ++ [c]) ≠ [] := by
  have h1 := cparts_more c h l _ _ (lns_eq l)
  rw [lns_eq (l ++ [c])] at h1
  have h2 := clast_eq h1
  rw [h2.2]; simp
theorem snoc_cases (l : List UInt8) : l = [] ∨ ∃ b c, l = b ++ [c] := by
  cases l with
  | nil => exact Or.inl rfl
  | cons a t => exact Or.inr ⟨_, _, (List.dropLast_concat_getLast (List.cons_ne_nil a t)).symm⟩
/-- whether nothing is left behind the lines -/
def lend (l : List UInt8) : Bool := decide (lrest l = [])
theorem lend_nil : lend [] = true := rfl
theorem lend_close (l : List UInt8) : lend (l ++ [10]) = true := by simp [lend, (lns_close l).2]
theorem lend_more (l : List UInt8) (c : UInt8) (h : c ≠ 10) : lend (l ++ [c]) = false := by simp [lend, lrest_more l c h]
theorem suf_close (l : List UInt8) : Lib.hasSuffix (l ++ [10]) [10] = true ∧ Lib.trimSuffix (l ++ [10]) [10] = l := by
  have : Lib.hasSuffix (l ++ [10]) [10] = true := by simp [Lib.hasSuffix]
  refine ⟨this, ?_⟩
  unfold Lib.trimSuffix
  rw [if_pos this]
  simp
theorem suf_more (l : List UInt8) (c : UInt8) (h : c ≠ 10) : Lib.hasSuffix (l ++ [c]) [10] = false := by
  rw [Bool.eq_false_iff]
  intro h2
  obtain ⟨t, ht⟩ := List.isSuffixOf_iff_suffix.1 h2
  exact h (by simpa using (List.append_inj' ht rfl).2.symm)
theorem cparts_le : ∀ (l p : List UInt8), p ∈ cparts 10 l → p.length ≤ l.length
  | [], p, h => by
    have : p = [] := by simpa [cparts] using h
    simp [this]
  | c :: r, p, h => by
    have ih := cparts_le r
    by_cases hc : c = 10
    · subst hc
      rw [cparts_comma] at h
      rcases List.mem_cons.1 h with rfl | h
      · simp
      · have := ih p h; simp; omega
    · cases hr : cparts 10 r with
      | nil => exact absurd hr (cparts_ne r)
      | cons q qs =>
        rw [cparts_cons hc hr] at h
        rw [hr] at ih
        rcases List.mem_cons.1 h with rfl | h
        · have := ih q (by simp); simp; omega
        · have := ih p (by simp [h]); simp; omega
theorem lns_len (l : List UInt8) : (lns l).length ≤ l.length := by
  have h1 := congrArg List.length (lns_eq l)
  rw [cparts_len, List.length_append] at h1
  have h2 : l.count 10 ≤ l.length := List.count_le_length
  have : (lns l).length = l.count 10 := by simpa using h1.symm
  omega
/-- how many lines are no or what -/
def isBad (l : List UInt8) : Bool := l == [110, 111] || l == [119, 104, 97, 116]
def bads (L : List (List UInt8)) : Nat := (L.filter isBad).length
theorem bads_le (L : List (List UInt8)) : bads L ≤ L.length := List.length_filter_le _ _
theorem bads_snoc (L : List (List UInt8)) (k : Nat) (h : k < L.length) : bads (L.take (k + 1)) = bads (L.take k) + if isBad (L.getD k []) then 1 else 0 := by
  unfold bads
  rw [List.take_succ_eq_append_getElem h, List.filter_append, List.length_append]
  congr 1
  simp only [List.getD, List.getElem?_eq_getElem h, Option.getD_some]
  by_cases hb : isBad L[k] = true
  · simp [hb]
  · simp [hb]
end Go.Proofs.YtokllkngikcoiaaDoor
