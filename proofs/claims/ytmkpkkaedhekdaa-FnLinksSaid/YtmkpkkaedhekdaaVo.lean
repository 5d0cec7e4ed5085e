/- Parts of a graph: what is reached through unmarked things, by a walk in depth and by a list. Plain. -/
import Derived.RowKit
namespace Go.Proofs.Ytmkpkkaedhekdaa

/-- reached from i through W -/
inductive Rch (W : Nat → Prop) (nb : Nat → Nat → Prop) (i : Nat) : Nat → Prop
  | base : W i → Rch W nb i i
  | step {j k : Nat} : Rch W nb i j → nb j k → W k → Rch W nb i k
theorem Rch.start {W : Nat → Prop} {nb : Nat → Nat → Prop} {i j : Nat} (h : Rch W nb i j) : W i := by
  induction h with
  | base h => exact h
  | step _ _ _ ih => exact ih
theorem Rch.end_ {W : Nat → Prop} {nb : Nat → Nat → Prop} {i j : Nat} (h : Rch W nb i j) : W j := by
  cases h with
  | base h => exact h
  | step _ _ h => exact h
theorem Rch.congr {W V : Nat → Prop} {nb : Nat → Nat → Prop} (h : ∀ k, W k ↔ V k) {i j : Nat} (r : Rch W nb i j) : Rch V nb i j := by
  induction r with
  | base h0 => exact .base ((h _).1 h0)
  | step _ hn hw ih => exact .step ih hn ((h _).1 hw)
/-- a walk in depth: the first thing, then what is reached from its neighbours without it -/
theorem rch_depth {W : Nat → Prop} {nb : Nat → Nat → Prop} {i j : Nat} : Rch W nb i j ↔ W i ∧ (j = i ∨ ∃ k, nb i k ∧ Rch (fun x => W x ∧ x ≠ i) nb k j) := by
  constructor
  · intro h
    refine ⟨h.start, ?_⟩
    induction h with
    | base _ => exact .inl rfl
    | @step a b hr hn hw ih =>
      by_cases hb : b = i
      · exact .inl hb
      · refine .inr ?_
        rcases ih with rfl | ⟨k, hk, hkr⟩
        · exact ⟨b, hn, .base ⟨hw, hb⟩⟩
        · exact ⟨k, hk, .step hkr hn ⟨hw, hb⟩⟩
  · rintro ⟨hi, rfl | ⟨k, hk, hr⟩⟩
    · exact .base hi
    · induction hr with
      | base h => exact .step (.base hi) hk h.1
      | step _ hn hw ih => exact .step ih hn hw.1
/-- closed: what lies beside it, in W, is of it -/
def Shut (W : Nat → Prop) (nb : Nat → Nat → Prop) (U : Nat → Prop) : Prop := ∀ x, U x → ∀ y, nb x y → W y → U y
theorem Rch.shut {W : Nat → Prop} {nb : Nat → Nat → Prop} {i : Nat} : Shut W nb (Rch W nb i) := fun _ hx _ hn hw => .step hx hn hw
theorem Shut.or {W : Nat → Prop} {nb : Nat → Nat → Prop} {U V : Nat → Prop} (hu : Shut W nb U) (hv : Shut W nb V) : Shut W nb (fun x => U x ∨ V x) := fun x hx y hn hw => by
  rcases hx with h | h
  · exact .inl (hu x h y hn hw)
  · exact .inr (hv x h y hn hw)
/-- what a closed set leaves to reach -/
theorem rch_rest {W : Nat → Prop} {nb : Nat → Nat → Prop} {U : Nat → Prop} (hu : Shut W nb U) {i j : Nat} : (U j ∨ Rch (fun x => W x ∧ ¬U x) nb i j) ↔ (U j ∨ Rch W nb i j) := by
  constructor
  · rintro (h | h)
    · exact .inl h
    · refine .inr ?_
      induction h with
      | base h => exact .base h.1
      | step _ hn hw ih => exact .step ih hn hw.1
  · rintro (h | h)
    · exact .inl h
    · induction h with
      | base h =>
        by_cases hi : U i
        · exact .inl hi
        · exact .inr (.base ⟨h, hi⟩)
      | @step a b _ hn hw ih =>
        by_cases hb : U b
        · exact .inl hb
        · rcases ih with h | h
          · exact .inl (hu a h b hn hw)
          · exact .inr (.step h hn ⟨hw, hb⟩)
/-- the things of R get the mark c, the others keep theirs -/
def Lab (p : Nat → Int) (R : Nat → Prop) (c : Int) (q : Nat → Int) : Prop := ∀ k, (R k → q k = c) ∧ (¬R k → q k = p k)
theorem Lab.uniq {p q q' : Nat → Int} {R : Nat → Prop} {c : Int} (h : Lab p R c q) (h' : Lab p R c q') : q = q' := by
  funext k
  by_cases hk : R k
  · rw [(h k).1 hk, (h' k).1 hk]
  · rw [(h k).2 hk, (h' k).2 hk]
theorem Lab.congr {p q : Nat → Int} {R S : Nat → Prop} {c : Int} (h : Lab p R c q) (e : ∀ k, R k ↔ S k) : Lab p S c q := fun k => ⟨fun hs => (h k).1 ((e k).2 hs), fun hs => (h k).2 (fun hr => hs ((e k).1 hr))⟩
theorem Lab.none {p : Nat → Int} {R : Nat → Prop} {c : Int} (h : ∀ k, ¬R k) : Lab p R c p := fun k => ⟨fun hr => absurd hr (h k), fun _ => rfl⟩
theorem Lab.trans {p q r : Nat → Int} {R S : Nat → Prop} {c : Int} (h : Lab p R c q) (h' : Lab q S c r) : Lab p (fun k => R k ∨ S k) c r := fun k => by
  constructor
  · rintro (hr | hs)
    · by_cases hs : S k
      · exact (h' k).1 hs
      · rw [(h' k).2 hs, (h k).1 hr]
    · exact (h' k).1 hs
  · intro hn
    rw [(h' k).2 (fun hs => hn (.inr hs)), (h k).2 (fun hr => hn (.inl hr))]
/-- not yet marked, and in -/
def White (N : Nat) (isIn : Nat → Bool) (p : Nat → Int) (k : Nat) : Prop := k < N ∧ p k < 0 ∧ isIn k = true
theorem white_lab {N : Nat} {isIn : Nat → Bool} {p q : Nat → Int} {R : Nat → Prop} {c : Int} (hc : 0 ≤ c) (h : Lab p R c q) (k : Nat) : White N isIn q k ↔ White N isIn p k ∧ ¬R k := by
  unfold White
  constructor
  · rintro ⟨h1, h2, h3⟩
    by_cases hr : R k
    · rw [(h k).1 hr] at h2; omega
    · rw [(h k).2 hr] at h2; exact ⟨⟨h1, h2, h3⟩, hr⟩
  · rintro ⟨⟨h1, h2, h3⟩, hr⟩
    exact ⟨h1, by rw [(h k).2 hr]; exact h2, h3⟩
/-- one call of the walk in depth: the state behind t neighbours -/
def Deep (W : Nat → Prop) (nb : Nat → Nat → Prop) (p1 : Nat → Int) (ks : List Nat) (c : Int) (q : Nat → Int) : Prop := Lab p1 (fun j => ∃ k, k ∈ ks ∧ Rch W nb k j) c q
theorem shut_some {W : Nat → Prop} {nb : Nat → Nat → Prop} (ks : List Nat) : Shut W nb (fun j => ∃ k, k ∈ ks ∧ Rch W nb k j) := fun _ ⟨k, hk, hr⟩ _ hn hw => ⟨k, hk, .step hr hn hw⟩
theorem deep_nil {W : Nat → Prop} {nb : Nat → Nat → Prop} {p1 : Nat → Int} {c : Int} : Deep W nb p1 [] c p1 := Lab.none (fun _ ⟨_, hk, _⟩ => by cases hk)
theorem deep_snoc {N : Nat} {isIn : Nat → Bool} {nb : Nat → Nat → Prop} {p1 q r : Nat → Int} {ks : List Nat} {k : Nat} {c : Int} (hc : 0 ≤ c) (h : Deep (White N isIn p1) nb p1 ks c q) (h' : Lab q (Rch (White N isIn q) nb k) c r) : Deep (White N isIn p1) nb p1 (ks ++ [k]) c r := by
  refine (h.trans h').congr (fun j => ?_)
  have e : ∀ x, White N isIn q x ↔ White N isIn p1 x ∧ ¬(∃ k, k ∈ ks ∧ Rch (White N isIn p1) nb k x) := fun x => white_lab hc h x
  have e1 : Rch (White N isIn q) nb k j ↔ Rch (fun x => White N isIn p1 x ∧ ¬(∃ k, k ∈ ks ∧ Rch (White N isIn p1) nb k x)) nb k j := ⟨Rch.congr e, Rch.congr (fun x => (e x).symm)⟩
  rw [e1, rch_rest (shut_some ks)]
  constructor
  · rintro (⟨m, hm, hr⟩ | hr)
    · exact ⟨m, List.mem_append_left _ hm, hr⟩
    · exact ⟨k, List.mem_append_right _ (.head _), hr⟩
  · rintro ⟨m, hm, hr⟩
    rcases List.mem_append.1 hm with hm | hm
    · exact .inl ⟨m, hm, hr⟩
    · simp only [List.mem_cons, List.not_mem_nil, or_false] at hm
      exact .inr (hm ▸ hr)
/-- the whole call: i is marked, then all its neighbours are gone through -/
theorem deep_done {N : Nat} {isIn : Nat → Bool} {nb : Nat → Nat → Prop} {p p1 q : Nat → Int} {i : Nat} {ks : List Nat} {c : Int} (hc : 0 ≤ c) (hi : White N isIn p i) (hks : ∀ k, k ∈ ks ↔ nb i k) (h1 : Lab p (fun k => k = i) c p1) (h : Deep (White N isIn p1) nb p1 ks c q) : Lab p (Rch (White N isIn p) nb i) c q := by
  refine (h1.trans h).congr (fun j => ?_)
  have e : ∀ x, White N isIn p1 x ↔ White N isIn p x ∧ x ≠ i := fun x => white_lab hc h1 x
  rw [rch_depth]
  constructor
  · rintro (rfl | ⟨k, hk, hr⟩)
    · exact ⟨hi, .inl rfl⟩
    · exact ⟨hi, .inr ⟨k, (hks k).1 hk, hr.congr e⟩⟩
  · rintro ⟨_, rfl | ⟨k, hk, hr⟩⟩
    · exact .inl rfl
    · exact .inr ⟨k, (hks k).2 hk, hr.congr (fun x => (e x).symm)⟩
/-- a call at a thing that is marked or not in does nothing -/
theorem deep_skip {N : Nat} {isIn : Nat → Bool} {nb : Nat → Nat → Prop} {p : Nat → Int} {i : Nat} {c : Int} (hi : ¬White N isIn p i) : Lab p (Rch (White N isIn p) nb i) c p := Lab.none (fun _ hr => hi hr.start)
/-- a list of what is reached, as it grows -/
structure Bfs (N : Nat) (isIn : Nat → Bool) (nb : Nat → Nat → Prop) (p : Nat → Int) (i : Nat) (c : Int) (L : List Nat) (q : Nat → Int) : Prop where
  l : Lab p (fun k => k ∈ L) c q
  r : ∀ k ∈ L, Rch (White N isIn p) nb i k
  i : i ∈ L
  d : L.Nodup
def BfsAt (N : Nat) (isIn : Nat → Bool) (nb : Nat → Nat → Prop) (p : Nat → Int) (L : List Nat) (m : Nat) : Prop := ∀ s, s < m → ∀ y, nb (L.getD s 0) y → White N isIn p y → y ∈ L
def BfsK (N : Nat) (isIn : Nat → Bool) (nb : Nat → Nat → Prop) (p : Nat → Int) (L : List Nat) (x k : Nat) : Prop := ∀ y, y < k → nb x y → White N isIn p y → y ∈ L
section
variable {N : Nat} {isIn : Nat → Bool} {nb : Nat → Nat → Prop} {p q q' : Nat → Int} {i : Nat} {c : Int} {L : List Nat}
theorem bfs_start (hi : White N isIn p i) (h : Lab p (fun k => k = i) c q) : Bfs N isIn nb p i c [i] q :=
  ⟨h.congr (fun k => by simp), fun k hk => by simp at hk; subst hk; exact .base hi, .head _, by simp⟩
theorem bfsAt_zero : BfsAt N isIn nb p L 0 := fun s hs => absurd hs (Nat.not_lt_zero s)
theorem bfsK_zero {x : Nat} : BfsK N isIn nb p L x 0 := fun y hy => absurd hy (Nat.not_lt_zero y)
theorem bfs_skip {x k : Nat} (hc : 0 ≤ c) (h : Bfs N isIn nb p i c L q) (hK : BfsK N isIn nb p L x k) (hn : ¬(q k < 0 ∧ isIn k = true ∧ nb x k)) : BfsK N isIn nb p L x (k + 1) := fun y hy hnb hw => by
  by_cases e : y < k
  · exact hK y e hnb hw
  · obtain rfl : y = k := by omega
    by_cases hm : y ∈ L
    · exact hm
    · exact absurd ⟨((white_lab hc h.l y).2 ⟨hw, hm⟩).2.1, hw.2.2, hnb⟩ hn
theorem bfs_add {x k m : Nat} (hc : 0 ≤ c) (h : Bfs N isIn nb p i c L q) (hA : BfsAt N isIn nb p L m) (hm : m ≤ L.length) (hK : BfsK N isIn nb p L x k) (hx : x ∈ L) (hk : k < N) (h1 : q k < 0) (h2 : isIn k = true) (h3 : nb x k) (h' : Lab q (fun j => j = k) c q') :
    Bfs N isIn nb p i c (L ++ [k]) q' ∧ BfsAt N isIn nb p (L ++ [k]) m ∧ BfsK N isIn nb p (L ++ [k]) x (k + 1) := by
  obtain ⟨hw, hkL⟩ := (white_lab hc h.l k).1 ⟨hk, h1, h2⟩
  refine ⟨⟨(h.l.trans h').congr (fun j => by simp), fun j hj => ?_, List.mem_append_left _ h.i, ?_⟩, fun s hs y hnb hy => ?_, fun y hy hnb hyw => ?_⟩
  · rcases List.mem_append.1 hj with hj | hj
    · exact h.r j hj
    · simp only [List.mem_cons, List.not_mem_nil, or_false] at hj
      subst hj
      exact .step (h.r x hx) h3 hw
  · rw [List.nodup_append]
    exact ⟨h.d, by simp, fun a ha b hb => by simp at hb; subst hb; exact fun e => hkL (e ▸ ha)⟩
  · rw [List.getD_eq_getElem?_getD, List.getElem?_append_left (by omega), ← List.getD_eq_getElem?_getD] at hnb
    exact List.mem_append_left _ (hA s hs y hnb hy)
  · by_cases e : y < k
    · exact List.mem_append_left _ (hK y e hnb hyw)
    · obtain rfl : y = k := by omega
      exact List.mem_append_right _ (.head _)
theorem bfs_next {m : Nat} (hA : BfsAt N isIn nb p L m) (hK : BfsK N isIn nb p L (L.getD m 0) N) : BfsAt N isIn nb p L (m + 1) := fun s hs y hnb hy => by
  by_cases e : s < m
  · exact hA s e y hnb hy
  · obtain rfl : s = m := by omega
    exact hK y hy.1 hnb hy
theorem bfs_done (h : Bfs N isIn nb p i c L q) (hA : BfsAt N isIn nb p L L.length) : Lab p (Rch (White N isIn p) nb i) c q :=
  h.l.congr (fun k => ⟨h.r k, fun hr => by
    induction hr with
    | base _ => exact h.i
    | @step a b _ hn hw ih =>
      obtain ⟨s, hs, rfl⟩ := List.getElem_of_mem ih
      exact hA s hs b (by rw [List.getD_eq_getElem?_getD, List.getElem?_eq_getElem hs, Option.getD_some]; exact hn) hw⟩)
theorem nodup_le : ∀ (N : Nat) (L : List Nat), L.Nodup → (∀ k ∈ L, k < N) → L.length ≤ N
  | 0, L, _, h => by
    cases L with
    | nil => exact Nat.le_refl _
    | cons a l => exact absurd (h a (.head _)) (Nat.not_lt_zero a)
  | N + 1, L, hd, h => by
    by_cases hm : N ∈ L
    · have h1 := nodup_le N (L.erase N) (hd.erase N) (fun k hk => by
        have h2 := h k (List.mem_of_mem_erase hk)
        have h3 : k ≠ N := fun e => by
          subst e
          exact absurd hk (List.Nodup.not_mem_erase hd)
        omega)
      rw [List.length_erase_of_mem hm] at h1
      omega
    · have h1 := nodup_le N L hd (fun k hk => by
        have h2 := h k hk
        have h3 : k ≠ N := fun e => hm (e ▸ hk)
        omega)
      omega
theorem bfs_len (h : Bfs N isIn nb p i c L q) : L.length ≤ N := nodup_le N L h.d (fun k hk => (h.r k hk).end_.1)
end
/-- the parts that are numbered before thing k -/
inductive VoS (N : Nat) (isIn : Nat → Bool) (nb : Nat → Nat → Prop) : Nat → (Nat → Int) → Nat → Prop
  | zero : VoS N isIn nb 0 (fun _ => -1) 0
  | skip {k : Nat} {p : Nat → Int} {n : Nat} : VoS N isIn nb k p n → ¬White N isIn p k → VoS N isIn nb (k + 1) p n
  | mark {k : Nat} {p q : Nat → Int} {n : Nat} : VoS N isIn nb k p n → White N isIn p k → Lab p (Rch (White N isIn p) nb k) (n : Int) q → VoS N isIn nb (k + 1) q (n + 1)
theorem VoS.uniq {N : Nat} {isIn : Nat → Bool} {nb : Nat → Nat → Prop} {k : Nat} {p p' : Nat → Int} {n n' : Nat} (h : VoS N isIn nb k p n) (h' : VoS N isIn nb k p' n') : p = p' ∧ n = n' := by
  induction h generalizing p' n' with
  | zero => cases h'; exact ⟨rfl, rfl⟩
  | skip _ hw ih =>
    cases h' with
    | skip h1 _ => exact ih h1
    | mark h1 hw' _ => obtain ⟨rfl, rfl⟩ := ih h1; exact absurd hw' hw
  | mark _ hw hl ih =>
    cases h' with
    | skip h1 hw' => obtain ⟨rfl, rfl⟩ := ih h1; exact absurd hw hw'
    | mark h1 _ hl' => obtain ⟨rfl, rfl⟩ := ih h1; exact ⟨hl.uniq hl', rfl⟩
theorem VoS.count {N : Nat} {isIn : Nat → Bool} {nb : Nat → Nat → Prop} {k : Nat} {p : Nat → Int} {n : Nat} (h : VoS N isIn nb k p n) : n ≤ k := by
  induction h with
  | zero => exact Nat.le_refl _
  | skip _ _ ih => omega
  | mark _ _ _ ih => omega
/-- all marks lie from -1 on, below the count -/
theorem VoS.marks {N : Nat} {isIn : Nat → Bool} {nb : Nat → Nat → Prop} {k : Nat} {p : Nat → Int} {n : Nat} (h : VoS N isIn nb k p n) (j : Nat) : -1 ≤ p j ∧ p j < n := by
  induction h with
  | zero => exact ⟨Int.le_refl _, by show (-1 : Int) < 0; decide⟩
  | skip _ _ ih => exact ih
  | @mark a p q n _ _ hl ih =>
    by_cases hr : Rch (White N isIn p) nb a j
    · rw [(hl j).1 hr]; omega
    · rw [(hl j).2 hr]; omega
theorem sqN {u v : Nat} (h : u * u + v * v = 1) : (u = 1 ∧ v = 0) ∨ (u = 0 ∧ v = 1) := by
  have big : ∀ x : Nat, 2 ≤ x → 4 ≤ x * x := fun x hx => Nat.mul_le_mul hx hx
  by_cases hu : 2 ≤ u
  · have := big u hu; omega
  · by_cases hv : 2 ≤ v
    · have := big v hv; omega
    · have hu' : u = 0 ∨ u = 1 := by omega
      have hv' : v = 0 ∨ v = 1 := by omega
      rcases hu' with rfl | rfl <;> rcases hv' with rfl | rfl <;> simp at h ⊢
theorem sqI (a b : Int) : a * a + b * b = 1 ↔ (b = 0 ∧ (a = 1 ∨ a = -1)) ∨ (a = 0 ∧ (b = 1 ∨ b = -1)) := by
  constructor
  · intro h
    have ha : a * a = ((a.natAbs * a.natAbs : Nat) : Int) := by rw [Int.natAbs_mul_self]
    have hb : b * b = ((b.natAbs * b.natAbs : Nat) : Int) := by rw [Int.natAbs_mul_self]
    rw [ha, hb] at h
    have h' : a.natAbs * a.natAbs + b.natAbs * b.natAbs = 1 := by omega
    rcases sqN h' with ⟨h1, h2⟩ | ⟨h1, h2⟩
    · left; omega
    · right; omega
  · rintro (⟨rfl, rfl | rfl⟩ | ⟨rfl, rfl | rfl⟩) <;> decide
/-- the cells that have a side in common with cell i of a view of W columns and H rows -/
def sideL (W H i : Nat) : List Nat := (if 0 < i / W then [i - W] else []) ++ (if 0 < i % W then [i - 1] else []) ++ (if i % W < W - 1 then [i + 1] else []) ++ (if i / W < H - 1 then [i + W] else [])
theorem mem_side {W H i k : Nat} : k ∈ sideL W H i ↔ (0 < i / W ∧ k = i - W) ∨ (0 < i % W ∧ k = i - 1) ∨ (i % W < W - 1 ∧ k = i + 1) ∨ (i / W < H - 1 ∧ k = i + W) := by
  have e : ∀ (c : Prop) [Decidable c] (a : Nat), k ∈ (if c then [a] else []) ↔ c ∧ k = a := fun c _ a => by by_cases h : c <;> simp [h]
  unfold sideL
  rw [List.mem_append, List.mem_append, List.mem_append, e, e, e, e, or_assoc, or_assoc]
theorem side_iff {W H i k : Nat} (hW : 0 < W) (hi : i < W * H) (hk : k < W * H) : k ∈ sideL W H i ↔ ((i % W : Nat) - (k % W : Nat) : Int) * ((i % W : Nat) - (k % W : Nat) : Int) + ((i / W : Nat) - (k / W : Nat) : Int) * ((i / W : Nat) - (k / W : Nat) : Int) = 1 := by
  rw [sqI, mem_side]
  have di := Nat.div_add_mod i W
  have dk := Nat.div_add_mod k W
  have mi := Nat.mod_lt i hW
  have mk := Nat.mod_lt k hW
  have yi : i / W < H := Nat.div_lt_of_lt_mul hi
  have yk : k / W < H := Nat.div_lt_of_lt_mul hk
  have key : ∀ x y : Nat, x < W → x + W * y = k → k % W = x ∧ k / W = y := fun x y h1 h2 => ((Nat.div_mod_unique hW).2 ⟨h2, h1⟩).symm
  generalize i % W = x at *
  generalize i / W = y at *
  constructor
  · rintro (⟨h1, h2⟩ | ⟨h1, h2⟩ | ⟨h1, h2⟩ | ⟨h1, h2⟩)
    · obtain ⟨y0, rfl⟩ : ∃ y0, y = y0 + 1 := ⟨y - 1, by omega⟩
      rw [Nat.mul_succ] at di
      obtain ⟨e1, e2⟩ := key x y0 mi (by omega)
      right; rw [e1, e2]; omega
    · obtain ⟨e1, e2⟩ := key (x - 1) y (by omega) (by omega)
      left; rw [e1, e2]; omega
    · obtain ⟨e1, e2⟩ := key (x + 1) y (by omega) (by omega)
      left; rw [e1, e2]; omega
    · obtain ⟨e1, e2⟩ := key x (y + 1) mi (by rw [Nat.mul_succ]; omega)
      right; rw [e1, e2]; omega
  · generalize k % W = x' at *
    generalize k / W = y' at *
    rintro (⟨h1, h2 | h2⟩ | ⟨h1, h2 | h2⟩)
    · obtain rfl : y' = y := by omega
      right; left; omega
    · obtain rfl : y' = y := by omega
      right; right; left; omega
    · obtain rfl : y = y' + 1 := by omega
      rw [Nat.mul_succ] at di
      left; omega
    · obtain rfl : y' = y + 1 := by omega
      rw [Nat.mul_succ] at dk
      right; right; right; omega
theorem side_lt {W H i k : Nat} (hW : 0 < W) (hi : i < W * H) (h : k ∈ sideL W H i) : k < W * H := by
  have di := Nat.div_add_mod i W
  have mi := Nat.mod_lt i hW
  have yi : i / W < H := Nat.div_lt_of_lt_mul hi
  have hm := mem_side.1 h
  generalize i / W = y at *
  generalize i % W = x at *
  rcases hm with ⟨h1, h2⟩ | ⟨h1, h2⟩ | ⟨h1, h2⟩ | ⟨h1, h2⟩
  · omega
  · omega
  · have : W * (y + 1) ≤ W * H := Nat.mul_le_mul_left W yi
    rw [Nat.mul_succ] at this
    omega
  · have : W * (y + 2) ≤ W * H := Nat.mul_le_mul_left W (by omega)
    rw [show y + 2 = y + 1 + 1 from rfl, Nat.mul_succ, Nat.mul_succ] at this
    omega
end Go.Proofs.Ytmkpkkaedhekdaa
