/- Journals recovered: plain facts. -/
import Derived.Test.YtokllkngikcoiaaDoorJf
import Derived.Lib.IndexMore
namespace Go.Proofs.YtokllkngikcoiaaDoor

theorem digs_no (u : Nat) : ∀ c ∈ Lib.decDigits u, c.toNat ≠ 10 := by
  induction u using Nat.strongRecOn with
  | _ u ih =>
    rw [← digs_step]
    intro c hc
    rcases List.mem_append.1 hc with h | h
    · unfold digs at h
      split at h
      · simp at h
      · rename_i hne
        exact ih (u / 10) (by omega) c h
    · have : c = UInt8.ofNat (48 + u % 10) := by simpa using h
      rw [this, UInt8.toNat_ofNat']
      have : u % 10 < 10 := Nat.mod_lt _ (by decide)
      omega
theorem itoa_no (z : Int) (h : 0 ≤ z) : ∀ c ∈ Lib.itoa z, c ≠ 10 := by
  rw [dec_itoa, if_neg (by omega)]
  intro c hc e
  exact digs_no _ c hc (by rw [e]; rfl)
/-- the line behind the first blank -/
def xOf (r : List UInt8) : List UInt8 := (r.dropWhile (fun c => decide (c ≠ 32))).tail
theorem xOf_hit : ∀ (j : Nat) (r : List UInt8), r[j]? = some 32 → (∀ k, k < j → r[k]? ≠ some 32) → xOf r = r.drop (j + 1)
  | j, [], h, _ => by simp at h
  | 0, c :: r, h, _ => by
    have : c = 32 := by simpa using h
    subst this; simp [xOf]
  | j + 1, c :: r, h, hn => by
    have hc : c ≠ 32 := fun e => hn 0 (by omega) (by simp [e])
    have ih := xOf_hit j r (by simpa using h) (fun k hk => by have := hn (k + 1) (by omega); simpa using this)
    unfold xOf at ih ⊢
    rw [List.dropWhile_cons_of_pos (by simpa using hc), ih]
    simp
theorem xOf_none : ∀ (r : List UInt8), (∀ k : Nat, r[k]? ≠ some 32) → xOf r = []
  | [], _ => rfl
  | c :: r, hn => by
    have hc : c ≠ 32 := fun e => hn 0 (by simp [e])
    have ih := xOf_none r (fun k => by have := hn (k + 1); simpa using this)
    unfold xOf at ih ⊢
    rw [List.dropWhile_cons_of_pos (by simpa using hc), ih]
theorem xOf_mem (r : List UInt8) (c : UInt8) (h : c ∈ xOf r) : c ∈ r :=
  (List.dropWhile_sublist _).subset (List.mem_of_mem_tail h)
theorem xOf_len (r : List UInt8) : (xOf r).length ≤ r.length := by
  unfold xOf
  have := (List.dropWhile_sublist (l := r) (fun c : UInt8 => decide (c ≠ 32))).length_le
  rw [List.length_tail]; omega
theorem cut_one (s : List UInt8) (c : UInt8) : (∃ i : Nat, s[i]? = some c ∧ (∀ k, k < i → s[k]? ≠ some c) ∧ Lib.cut s [c] = (s.take i, s.drop (i + 1), true)) ∨ ((∀ k : Nat, s[k]? ≠ some c) ∧ Lib.cut s [c] = (s, [], false)) := by
  unfold Lib.cut
  rw [Lib.index_one]
  rcases Int.lt_or_le (Lib.indexByte s c) 0 with h | h
  · right
    have hm : Lib.indexByte s c = -1 := by have := Lib.indexByte_ge s c; omega
    exact ⟨Lib.indexByte_none hm, by rw [if_neg (by omega)]⟩
  · left
    obtain ⟨i, hi⟩ := Int.eq_ofNat_of_zero_le h
    have hb := Lib.indexByte_some hi
    exact ⟨i, hb.1, hb.2, by rw [if_pos h, hi]; rfl⟩
theorem cut_x (r : List UInt8) : (Lib.cut r [32]).2.1 = xOf r := by
  rcases cut_one r 32 with ⟨i, h1, h2, h3⟩ | ⟨h1, h2⟩
  · rw [h3, xOf_hit i r h1 h2]
  · rw [h2, xOf_none r h1]
/-- whether a row of a journal is intact -/
def good (n : Int) (r : List UInt8) : Bool := decide (r = Lib.itoa (chk n (xOf r)) ++ 32 :: xOf r)
def rcv (n : Int) : List (List UInt8) → List (List UInt8)
  | [] => []
  | r :: L => if good n r then xOf r :: rcv (chk n (xOf r)) L else []
def rln (n : Int) : List (List UInt8) → Nat
  | [] => 0
  | r :: L => if good n r then r.length + 1 + rln (chk n (xOf r)) L else 0
theorem rcv_yes {n : Int} {r : List UInt8} {L : List (List UInt8)} (h : good n r = true) : rcv n (r :: L) = xOf r :: rcv (chk n (xOf r)) L ∧ rln n (r :: L) = r.length + 1 + rln (chk n (xOf r)) L := by
  exact ⟨by rw [rcv, if_pos h], by rw [rln, if_pos h]⟩
theorem rcv_no {n : Int} {r : List UInt8} {L : List (List UInt8)} (h : good n r = false) : rcv n (r :: L) = [] ∧ rln n (r :: L) = 0 := by
  exact ⟨by rw [rcv, if_neg (by rw [h]; decide)], by rw [rln, if_neg (by rw [h]; decide)]⟩
/-- the first newline parts -/
theorem first_nl : ∀ (q r t s : List UInt8), (∀ c ∈ q, c ≠ 10) → (∀ c ∈ r, c ≠ 10) → q ++ 10 :: t = r ++ 10 :: s → q = r ∧ t = s
  | [], [], t, s, _, _, h => ⟨rfl, by simpa using h⟩
  | [], c :: r, t, s, _, hr, h => by
    have : (10 : UInt8) = c := by simpa using congrArg List.head? h
    exact absurd this.symm (hr c (by simp))
  | c :: q, [], t, s, hq, _, h => by
    have : c = 10 := by simpa using congrArg List.head? h
    exact absurd this (hq c (by simp))
  | c :: q, d :: r, t, s, hq, hr, h => by
    rw [List.cons_append, List.cons_append, List.cons.injEq] at h
    have ih := first_nl q r t s (fun x hx => hq x (by simp [hx])) (fun x hx => hr x (by simp [hx])) h.2
    exact ⟨by rw [h.1, ih.1], ih.2⟩
theorem jline_form (n : Int) (x : List UInt8) : jline n x = (Lib.itoa (chk n x) ++ 32 :: x) ++ [10] := by simp [jline]
theorem row_no (n : Int) (x : List UInt8) (h0 : 0 ≤ chk n x) (hx : ∀ c ∈ x, c ≠ 10) : ∀ c ∈ Lib.itoa (chk n x) ++ 32 :: x, c ≠ 10 := by
  intro c hc
  rcases List.mem_append.1 hc with h | h
  · exact itoa_no _ h0 c h
  · rcases List.mem_cons.1 h with rfl | h
    · decide
    · exact hx c h
/-- a text that has a newline -/
theorem hit_good (n : Int) (row rest : List UInt8) (hn : 0 ≤ n ∧ n ≤ 65002) (hrow : ∀ c ∈ row, c ≠ 10) :
    Lib.hasPrefix (row ++ 10 :: rest) (jline n (xOf row)) = good n row ∧ (good n row = true → Lib.trimPrefix (row ++ 10 :: rest) (jline n (xOf row)) = rest) := by
  have h0 := (chk_bd n (xOf row) hn.1 hn.2).1
  have hq := row_no n (xOf row) h0 (fun c hc => hrow c (xOf_mem row c hc))
  have key : Lib.hasPrefix (row ++ 10 :: rest) (jline n (xOf row)) = true ↔ good n row = true := by
    unfold Lib.hasPrefix good
    rw [List.isPrefixOf_iff_prefix, decide_eq_true_iff, jline_form]
    constructor
    · rintro ⟨t, ht⟩
      rw [List.append_assoc] at ht
      exact (first_nl _ _ t rest hq hrow (by simpa using ht)).1.symm
    · intro e
      exact ⟨rest, by rw [← e]; simp⟩
  have e1 := Bool.eq_iff_iff.2 key
  refine ⟨e1, fun hg => ?_⟩
  unfold Lib.trimPrefix
  rw [if_pos (by rw [e1]; exact hg)]
  have : row = _ := decide_eq_true_iff.1 hg
  rw [jline_form, ← this]
  simp
theorem miss_good (n : Int) (row : List UInt8) (hrow : ∀ k : Nat, row[k]? ≠ some 10) : Lib.hasPrefix row (jline n (xOf row)) = false := by
  rw [Bool.eq_false_iff]
  intro h
  obtain ⟨t, ht⟩ := List.isPrefixOf_iff_prefix.1 h
  have hm : (10 : UInt8) ∈ row := by rw [← ht, jline_form]; simp
  obtain ⟨k, hk⟩ := List.getElem?_of_mem hm
  exact hrow k hk
theorem lns_hit (i : Nat) (l : List UInt8) (h : l[i]? = some 10) (hn : ∀ k, k < i → l[k]? ≠ some 10) : lns l = l.take i :: lns (l.drop (i + 1)) := by
  unfold lns
  rw [cparts_hit i l h hn]
  exact List.dropLast_cons_of_ne_nil (cparts_ne _)
theorem lns_miss (l : List UInt8) (h : ∀ k : Nat, l[k]? ≠ some 10) : lns l = [] := by
  unfold lns; rw [cparts_free l h]; rfl
theorem take_drop_hit (i : Nat) (l : List UInt8) (c : UInt8) (h : l[i]? = some c) : l = l.take i ++ c :: l.drop (i + 1) := by
  obtain ⟨hi, hc⟩ := List.getElem?_eq_some_iff.1 h
  conv => lhs; rw [← List.take_append_drop i l, List.drop_eq_getElem_cons hi, hc]
theorem take_no (i : Nat) (l : List UInt8) (hn : ∀ k, k < i → l[k]? ≠ some 10) : ∀ c ∈ l.take i, c ≠ 10 := by
  intro c hc e
  obtain ⟨k, hk⟩ := List.getElem?_of_mem hc
  rw [List.getElem?_take] at hk
  split at hk
  · exact hn k ‹_› (by rw [hk, e])
  · cases hk
/-- the reference's way to it: the first blank at j -/
theorem good_blank (n : Int) (r : List UInt8) (j : Nat) (h : r[j]? = some 32) (hn : ∀ k, k < j → r[k]? ≠ some 32) : good n r = decide (r.take j = Lib.itoa (chk n (r.drop (j + 1)))) := by
  have hx := xOf_hit j r h hn
  unfold good
  rw [hx]
  have hr := take_drop_hit j r 32 h
  have : (r = Lib.itoa (chk n (r.drop (j + 1))) ++ 32 :: r.drop (j + 1)) ↔ r.take j = Lib.itoa (chk n (r.drop (j + 1))) := by
    constructor
    · intro e
      have e2 : r.take j ++ 32 :: r.drop (j + 1) = Lib.itoa (chk n (r.drop (j + 1))) ++ 32 :: r.drop (j + 1) := hr.symm.trans e
      exact List.append_cancel_right e2
    · intro e
      rw [← e]; exact hr
  exact Bool.eq_iff_iff.2 (by simp [this])
theorem good_bare (n : Int) (r : List UInt8) (hn : ∀ k : Nat, r[k]? ≠ some 32) : good n r = false := by
  unfold good
  rw [decide_eq_false_iff_not]
  intro e
  have hm : (32 : UInt8) ∈ r := by rw [e]; simp
  obtain ⟨k, hk⟩ := List.getElem?_of_mem hm
  exact hn k hk
theorem rcv_len (n : Int) (L : List (List UInt8)) : (rcv n L).length ≤ L.length := by
  induction L generalizing n with
  | nil => simp [rcv]
  | cons r L ih =>
    unfold rcv
    split
    · have := ih (chk n (xOf r)); simp; omega
    · simp
end Go.Proofs.YtokllkngikcoiaaDoor
