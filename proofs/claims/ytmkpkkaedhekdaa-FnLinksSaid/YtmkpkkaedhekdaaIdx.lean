/- The indices at which something holds, and what is left: plain facts on lists. -/
namespace Go.Proofs.Ytmkpkkaedhekdaa
section
variable {α : Type} [Inhabited α]
/-- the indices below k at which B holds -/
def idxB (B : α → Bool) (gs : List α) (k : Nat) : List Nat := (List.range k).filter fun i => B (gs.getD i default)
theorem idxB_succ (B : α → Bool) (gs : List α) (k : Nat) : idxB B gs (k + 1) = if B (gs.getD k default) then idxB B gs k ++ [k] else idxB B gs k := by
  unfold idxB
  rw [List.range_succ, List.filter_append]
  generalize hb : B (gs.getD k default) = c
  have : List.filter (fun i => B (gs.getD i default)) [k] = if c then [k] else [] := by rw [List.filter_cons, hb]; cases c <;> rfl
  rw [this]
  cases c <;> simp
theorem idxB_le (B : α → Bool) (gs : List α) (k : Nat) : (idxB B gs k).length ≤ k := by
  unfold idxB
  have := List.length_filter_le (fun i => B (gs.getD i default)) (List.range k)
  rwa [List.length_range] at this
theorem idxB_mem (B : α → Bool) (gs : List α) (k i : Nat) (h : i < k) : (idxB B gs k).contains i = B (gs.getD i default) := by
  rw [Bool.eq_iff_iff, List.contains_iff_mem]
  unfold idxB
  rw [List.mem_filter]
  simp [h]
theorem idxB_prefix (B : α → Bool) (gs : List α) (k : Nat) : ∀ d, ∃ t, idxB B gs (k + d) = idxB B gs k ++ t
  | 0 => ⟨[], by simp⟩
  | d + 1 => by
    obtain ⟨t, ht⟩ := idxB_prefix B gs k d
    rw [show k + (d + 1) = (k + d) + 1 by omega, idxB_succ, ht]
    split
    · exact ⟨t ++ [k + d], by simp⟩
    · exact ⟨t, rfl⟩
theorem idxB_at (B : α → Bool) (gs : List α) (n i : Nat) (h : i < n) (hb : B (gs.getD i default) = true) : (idxB B gs i).length < (idxB B gs n).length ∧ (idxB B gs n)[(idxB B gs i).length]? = some i := by
  obtain ⟨t, ht⟩ := idxB_prefix B gs (i + 1) (n - (i + 1))
  rw [show i + 1 + (n - (i + 1)) = n by omega, idxB_succ, if_pos hb] at ht
  rw [ht]
  constructor
  · simp
  · simp
theorem idxB_lt (B : α → Bool) (gs : List α) (k : Nat) : ∀ x ∈ idxB B gs k, x < k := by
  intro x hx
  unfold idxB at hx
  exact List.mem_range.1 (List.mem_filter.1 hx).1
theorem left_succ (B : α → Bool) (gs : List α) (k : Nat) (h : k < gs.length) : (gs.take (k + 1)).filter (fun g => !B g) = if B (gs.getD k default) then (gs.take k).filter (fun g => !B g) else (gs.take k).filter (fun g => !B g) ++ [gs.getD k default] := by
  rw [List.take_succ_eq_append_getElem h, List.filter_append]
  have e : gs.getD k default = gs[k] := by simp [List.getD, List.getElem?_eq_getElem h]
  rw [e]
  cases hb : B gs[k] <;> simp [hb]
theorem idx_left (B : α → Bool) (gs : List α) : ∀ k, k ≤ gs.length → (idxB B gs k).length + ((gs.take k).filter fun g => !B g).length = k
  | 0, _ => by simp [idxB]
  | k + 1, h => by
    have ih := idx_left B gs k (by omega)
    rw [idxB_succ, left_succ B gs k (by omega)]
    split <;> simp <;> omega
theorem idxB_none (B : α → Bool) (gs : List α) (h : ∀ i, i < gs.length → B (gs.getD i default) = false) : idxB B gs gs.length = [] := by
  unfold idxB
  rw [List.filter_eq_nil_iff]
  intro i hi
  rw [h i (List.mem_range.1 hi)]
  simp
end
end Go.Proofs.Ytmkpkkaedhekdaa
