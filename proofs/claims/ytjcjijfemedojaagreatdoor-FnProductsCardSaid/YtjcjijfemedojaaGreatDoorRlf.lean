/- A text cut at its commas: plain facts; no program. -/
import Derived.Test.YtjcjijfemedojaaGreatDoorRdf
import Derived.Lib.Split
import Derived.Lib.CountLaws
import Derived.Lib.IndexBytes
import Derived.Lib.IndexLaws
namespace Go.Proofs.YtjcjijfemedojaaGreatDoor

/-- the parts between commas -/
def parts : List UInt8 → List (List UInt8)
  | [] => [[]]
  | c :: r => if c = 44 then [] :: parts r else match parts r with
    | [] => [[c]]
    | p :: ps => (c :: p) :: ps
theorem parts_ne : ∀ l, parts l ≠ []
  | [] => by simp [parts]
  | c :: r => by
    unfold parts
    split
    · simp
    · split <;> simp
theorem last_eq {P P' : List (List UInt8)} {q q' : List UInt8} (h : P ++ [q] = P' ++ [q']) : P = P' ∧ q = q' := by
  have := List.append_inj' h rfl
  exact ⟨this.1, by simpa using this.2⟩
theorem parts_split (l : List UInt8) : ∃ P q, parts l = P ++ [q] := ⟨(parts l).dropLast, (parts l).getLast (parts_ne l), (List.dropLast_concat_getLast (parts_ne l)).symm⟩
theorem parts_cons {d : UInt8} {l : List UInt8} (hd : d ≠ 44) {p : List UInt8} {ps : List (List UInt8)} (h : parts l = p :: ps) : parts (d :: l) = (d :: p) :: ps := by
  rw [parts, if_neg hd, h]
theorem parts_comma (l : List UInt8) : parts (44 :: l) = [] :: parts l := by rw [parts, if_pos rfl]
/-- a comma closes a part -/
theorem parts_close : ∀ (l : List UInt8), parts (l ++ [44]) = parts l ++ [[]]
  | [] => rfl
  | d :: l => by
    have ih := parts_close l
    rw [List.cons_append]
    by_cases hd : d = 44
    · subst hd; rw [parts_comma, parts_comma, ih]; rfl
    · cases h : parts l with
      | nil => exact absurd h (parts_ne l)
      | cons p ps => rw [parts_cons hd h, parts_cons hd (by rw [ih, h]; rfl)]; rfl
/-- another byte makes the last part longer -/
theorem parts_more (c : UInt8) (hc : c ≠ 44) : ∀ (l : List UInt8) (P : List (List UInt8)) (q : List UInt8), parts l = P ++ [q] → parts (l ++ [c]) = P ++ [q ++ [c]]
  | [], P, q, h => by
    obtain ⟨rfl, rfl⟩ := last_eq (P := []) (q := []) (P' := P) (q' := q) (by rw [← h]; rfl)
    show parts [c] = [[c]]
    rw [parts, if_neg hc]; rfl
  | d :: l, P, q, h => by
    obtain ⟨P', q', hp⟩ := parts_split l
    have ih := parts_more c hc l P' q' hp
    rw [List.cons_append]
    by_cases hd : d = 44
    · subst hd
      rw [parts_comma, hp] at h
      obtain ⟨rfl, rfl⟩ := last_eq (P := P) (q := q) (P' := [] :: P') (q' := q') (by rw [← h]; rfl)
      rw [parts_comma, ih]; rfl
    · cases P' with
      | nil =>
        rw [parts_cons hd (ps := []) (p := q') (by rw [hp]; rfl)] at h
        obtain ⟨rfl, rfl⟩ := last_eq (P := P) (q := q) (P' := []) (q' := d :: q') (by rw [← h]; rfl)
        rw [parts_cons hd (ps := []) (p := q' ++ [c]) (by rw [ih]; rfl)]; rfl
      | cons p P' =>
        rw [parts_cons hd (ps := P' ++ [q']) (p := p) (by rw [hp]; rfl)] at h
        obtain ⟨rfl, rfl⟩ := last_eq (P := P) (q := q) (P' := (d :: p) :: P') (q' := q') (by rw [← h]; rfl)
        rw [parts_cons hd (ps := P' ++ [q ++ [c]]) (p := p) (by rw [ih]; rfl)]; rfl
theorem parts_len : ∀ l, (parts l).length = l.count 44 + 1
  | [] => rfl
  | c :: r => by
    have ih := parts_len r
    unfold parts
    by_cases hc : c = 44
    · rw [if_pos hc, List.length_cons, ih, hc, List.count_cons_self]
    · rw [if_neg hc, List.count_cons_of_ne (by simpa using hc)]
      cases h : parts r with
      | nil => exact absurd h (parts_ne r)
      | cons p ps => rw [h] at ih; simpa using ih
theorem parts_free : ∀ l : List UInt8, (∀ k : Nat, l[k]? ≠ some 44) → parts l = [l]
  | [], _ => rfl
  | c :: r, h => by
    have hc : c ≠ 44 := fun e => h 0 (by simp [e])
    have ih := parts_free r (fun k => by have := h (k + 1); simpa using this)
    unfold parts
    rw [if_neg hc, ih]
theorem parts_hit : ∀ (i : Nat) (l : List UInt8), l[i]? = some 44 → (∀ k, k < i → l[k]? ≠ some 44) → parts l = l.take i :: parts (l.drop (i + 1))
  | 0, [], h, _ => by simp at h
  | 0, c :: r, h, _ => by
    have : c = 44 := by simpa using h
    subst this
    simp [parts]
  | i + 1, [], h, _ => by simp at h
  | i + 1, c :: r, h, hn => by
    have hc : c ≠ 44 := fun e => hn 0 (by omega) (by simp [e])
    have ih := parts_hit i r (by simpa using h) (fun k hk => by have := hn (k + 1) (by omega); simpa using this)
    rw [parts_cons hc ih]
    simp
theorem splitK_parts : ∀ (n : Nat) (l : List UInt8), l.length ≤ n → Lib.splitK [44] 0 (Lib.count l [44]) l = parts l := by
  intro n
  induction n with
  | zero =>
    intro l hl
    have : l = [] := List.eq_nil_of_length_eq_zero (by omega)
    subst this
    rfl
  | succ n ih =>
    intro l hl
    rcases Int.lt_or_le (Lib.index l [44]) 0 with h | h
    · have hm : Lib.index l [44] = -1 := by
        have := Lib.indexByte_ge l 44
        rw [← Lib.index_one] at this
        omega
      rw [Lib.count_miss hm, parts_free l (Lib.indexByte_none (by rw [← Lib.index_one]; exact hm))]
      rfl
    · obtain ⟨i, hi⟩ := Int.eq_ofNat_of_zero_le h
      have hb := Lib.indexByte_some (l := l) (c := 44) (o := i) (by rw [← Lib.index_one]; exact hi)
      have hil : i < l.length := (List.getElem?_eq_some_iff.1 hb.1).1
      rw [Lib.count_hit (by simp) hi, Nat.add_comm, parts_hit i l hb.1 hb.2, ← ih (l.drop (i + 1)) (by simp; omega)]
      have ei : (Lib.index l [44]).toNat = i := by omega
      have hne : ¬ (Lib.index l [44] == -1) = true := fun e => by have := beq_iff_eq.1 e; omega
      show Lib.splitK [44] 0 (Lib.count (l.drop (i + [44].length)) [44] + 1) l = _
      rw [Lib.splitK, if_neg hne, ei]
      rfl
end Go.Proofs.YtjcjijfemedojaaGreatDoor
