/- A text cut at a byte: plain facts; no program. -/
import Derived.Lib.Hide
import Derived.Lib.Split
import Derived.Lib.CountLaws
import Derived.Lib.IndexBytes
import Derived.Lib.IndexLaws
namespace Go.Proofs.YtljcgfgkfkoeeaaGreatDoor

/-- the parts between the bytes sep -/
def cparts (sep : UInt8) : List UInt8 → List (List UInt8)
  | [] => [[]]
  | c :: r => if c = sep then [] :: cparts sep r else match cparts sep r with
    | [] => [[c]]
    | p :: ps => (c :: p) :: ps
variable {sep : UInt8}
theorem cparts_ne : ∀ l, cparts sep l ≠ []
  | [] => by simp [cparts]
  | c :: r => by
    unfold cparts
    split
    · simp
    · split <;> simp
theorem clast_eq {P P' : List (List UInt8)} {q q' : List UInt8} (h : P ++ [q] = P' ++ [q']) : P = P' ∧ q = q' := by
  have := List.append_inj' h rfl
  exact ⟨this.1, by simpa using this.2⟩
theorem cparts_split (l : List UInt8) : ∃ P q, cparts sep l = P ++ [q] := ⟨(cparts sep l).dropLast, (cparts sep l).getLast (cparts_ne l), (List.dropLast_concat_getLast (cparts_ne l)).symm⟩
theorem cparts_cons {d : UInt8} {l : List UInt8} (hd : d ≠ sep) {p : List UInt8} {ps : List (List UInt8)} (h : cparts sep l = p :: ps) : cparts sep (d :: l) = (d :: p) :: ps := by
  rw [cparts, if_neg hd, h]
theorem cparts_comma (l : List UInt8) : cparts sep (sep :: l) = [] :: cparts sep l := by rw [cparts, if_pos rfl]
/-- a comma closes a part -/
theorem cparts_close : ∀ (l : List UInt8), cparts sep (l ++ [sep]) = cparts sep l ++ [[]]
  | [] => by simp [cparts]
  | d :: l => by
    have ih := cparts_close l
    rw [List.cons_append]
    by_cases hd : d = sep
    · subst hd; rw [cparts_comma, cparts_comma, ih]; rfl
    · cases h : cparts sep l with
      | nil => exact absurd h (cparts_ne l)
      | cons p ps => rw [cparts_cons hd h, cparts_cons hd (by rw [ih, h]; rfl)]; rfl
/-- another byte makes the last part longer -/
theorem cparts_more (c : UInt8) (hc : c ≠ sep) : ∀ (l : List UInt8) (P : List (List UInt8)) (q : List UInt8), cparts sep l = P ++ [q] → cparts sep (l ++ [c]) = P ++ [q ++ [c]]
  | [], P, q, h => by
    obtain ⟨rfl, rfl⟩ := clast_eq (P := []) (q := []) (P' := P) (q' := q) (by rw [← h]; rfl)
    show cparts sep [c] = [[c]]
    rw [cparts, if_neg hc]; rfl
  | d :: l, P, q, h => by
    obtain ⟨P', q', hp⟩ := cparts_split l
    have ih := cparts_more c hc l P' q' hp
    rw [List.cons_append]
    by_cases hd : d = sep
    · subst hd
      rw [cparts_comma, hp] at h
      obtain ⟨rfl, rfl⟩ := clast_eq (P := P) (q := q) (P' := [] :: P') (q' := q') (by rw [← h]; rfl)
      rw [cparts_comma, ih]; rfl
    · cases P' with
      | nil =>
        rw [cparts_cons hd (ps := []) (p := q') (by rw [hp]; rfl)] at h
        obtain ⟨rfl, rfl⟩ := clast_eq (P := P) (q := q) (P' := []) (q' := d :: q') (by rw [← h]; rfl)
        rw [cparts_cons hd (ps := []) (p := q' ++ [c]) (by rw [ih]; rfl)]; rfl
      | cons p P' =>
        rw [cparts_cons hd (ps := P' ++ [q']) (p := p) (by rw [hp]; rfl)] at h
        obtain ⟨rfl, rfl⟩ := clast_eq (P := P) (q := q) (P' := (d :: p) :: P') (q' := q') (by rw [← h]; rfl)
        rw [cparts_cons hd (ps := P' ++ [q ++ [c]]) (p := p) (by rw [ih]; rfl)]; rfl
theorem cparts_len : ∀ l, (cparts sep l).length = l.count sep + 1
  | [] => rfl
  | c :: r => by
    have ih := cparts_len r
    unfold cparts
    by_cases hc : c = sep
    · rw [if_pos hc, List.length_cons, ih, hc, List.count_cons_self]
    · rw [if_neg hc, List.count_cons_of_ne (by simpa using hc)]
      cases h : cparts sep r with
      | nil => exact absurd h (cparts_ne r)
      | cons p ps => rw [h] at ih; simpa using ih
theorem cparts_free : ∀ l : List UInt8, (∀ k : Nat, l[k]? ≠ some sep) → cparts sep l = [l]
  | [], _ => rfl
  | c :: r, h => by
    have hc : c ≠ sep := fun e => h 0 (by simp [e])
    have ih := cparts_free r (fun k => by have := h (k + 1); simpa using this)
    unfold cparts
    rw [if_neg hc, ih]
theorem cparts_hit : ∀ (i : Nat) (l : List UInt8), l[i]? = some sep → (∀ k, k < i → l[k]? ≠ some sep) → cparts sep l = l.take i :: cparts sep (l.drop (i + 1))
  | 0, [], h, _ => by simp at h
  | 0, c :: r, h, _ => by
    have : c = sep := by simpa using h
    subst this
    simp [cparts]
  | i + 1, [], h, _ => by simp at h
  | i + 1, c :: r, h, hn => by
    have hc : c ≠ sep := fun e => hn 0 (by omega) (by simp [e])
    have ih := cparts_hit i r (by simpa using h) (fun k hk => by have := hn (k + 1) (by omega); simpa using this)
    rw [cparts_cons hc ih]
    simp
theorem csplitK_parts : ∀ (n : Nat) (l : List UInt8), l.length ≤ n → Lib.splitK [sep] 0 (Lib.count l [sep]) l = cparts sep l := by
  intro n
  induction n with
  | zero =>
    intro l hl
    have : l = [] := List.eq_nil_of_length_eq_zero (by omega)
    subst this
    rfl
  | succ n ih =>
    intro l hl
    rcases Int.lt_or_le (Lib.index l [sep]) 0 with h | h
    · have hm : Lib.index l [sep] = -1 := by
        have := Lib.indexByte_ge l sep
        rw [← Lib.index_one] at this
        omega
      rw [Lib.count_miss hm, cparts_free l (Lib.indexByte_none (by rw [← Lib.index_one]; exact hm))]
      rfl
    · obtain ⟨i, hi⟩ := Int.eq_ofNat_of_zero_le h
      have hb := Lib.indexByte_some (l := l) (c := sep) (o := i) (by rw [← Lib.index_one]; exact hi)
      have hil : i < l.length := (List.getElem?_eq_some_iff.1 hb.1).1
      rw [Lib.count_hit (by simp) hi, Nat.add_comm, cparts_hit i l hb.1 hb.2, ← ih (l.drop (i + 1)) (by simp; omega)]
      have ei : (Lib.index l [sep]).toNat = i := by omega
      have hne : ¬ (Lib.index l [sep] == -1) = true := fun e => by have := beq_iff_eq.1 e; omega
      show Lib.splitK [sep] 0 (Lib.count (l.drop (i + [sep].length)) [sep] + 1) l = _
      rw [Lib.splitK, if_neg hne, ei]
      rfl
end Go.Proofs.YtljcgfgkfkoeeaaGreatDoor
