/- strings.SplitN at a byte. -/
import Derived.Test.YtljcgfgkfkoeeaaGreatDoorPq
import Derived.Test.YtljcgfgkfkoeeaaGreatDoorShelgs
import Derived.Lib.SplitLaws
namespace Go.Proofs.YtljcgfgkfkoeeaaGreatDoor
open Go.RowKit

/-- enough cuts: all parts -/
theorem splitK_all (sep : UInt8) : ∀ (k : Nat) (l : List UInt8), l.count sep ≤ k → Lib.splitK [sep] 0 k l = cparts sep l := by
  intro k
  induction k with
  | zero =>
    intro l h
    have : ∀ j : Nat, l[j]? ≠ some sep := fun j hj => by
      have := List.count_pos_iff.2 (List.mem_of_getElem? hj)
      omega
    rw [cparts_free l this]; rfl
  | succ k ih =>
    intro l h
    rcases Int.lt_or_le (Lib.index l [sep]) 0 with hx | hx
    · have hm : Lib.index l [sep] = -1 := by
        have := Lib.indexByte_ge l sep
        rw [← Lib.index_one] at this
        omega
      rw [cparts_free l (Lib.indexByte_none (by rw [← Lib.index_one]; exact hm)), Lib.splitK, if_pos (beq_iff_eq.2 hm)]
    · obtain ⟨i, hi⟩ := Int.eq_ofNat_of_zero_le hx
      have hb := Lib.indexByte_some (l := l) (c := sep) (o := i) (by rw [← Lib.index_one]; exact hi)
      have ei : (Lib.index l [sep]).toNat = i := by omega
      have hne : ¬ (Lib.index l [sep] == -1) = true := fun e => by have := beq_iff_eq.1 e; omega
      have hc : (l.drop (i + 1)).count sep + 1 ≤ l.count sep := by
        obtain ⟨hil, hie⟩ := List.getElem?_eq_some_iff.1 hb.1
        have e := List.take_append_drop i l
        rw [List.drop_eq_getElem_cons hil, hie] at e
        have : l.count sep = (l.take i ++ sep :: l.drop (i + 1)).count sep := by rw [e]
        rw [this, List.count_append, List.count_cons_self]
        omega
      rw [cparts_hit i l hb.1 hb.2, Lib.splitK, if_neg hne, ei, ← ih (l.drop (i + 1)) (by omega)]
      rfl
/-- too few cuts: as many parts as cuts allow -/
theorem splitK_many (sep : UInt8) : ∀ (k : Nat) (l : List UInt8), k ≤ l.count sep → (Lib.splitK [sep] 0 k l).length = k + 1 := by
  intro k
  induction k with
  | zero => intro l _; rfl
  | succ k ih =>
    intro l h
    have hmem : sep ∈ l := List.count_pos_iff.1 (by omega)
    obtain ⟨j, hj⟩ := List.getElem?_of_mem hmem
    rcases Int.lt_or_le (Lib.index l [sep]) 0 with hx | hx
    · have hm : Lib.index l [sep] = -1 := by
        have := Lib.indexByte_ge l sep
        rw [← Lib.index_one] at this
        omega
      exact absurd hj (Lib.indexByte_none (by rw [← Lib.index_one]; exact hm) j)
    · obtain ⟨i, hi⟩ := Int.eq_ofNat_of_zero_le hx
      have hb := Lib.indexByte_some (l := l) (c := sep) (o := i) (by rw [← Lib.index_one]; exact hi)
      have ei : (Lib.index l [sep]).toNat = i := by omega
      have hne : ¬ (Lib.index l [sep] == -1) = true := fun e => by have := beq_iff_eq.1 e; omega
      have hc : l.count sep ≤ (l.drop (i + 1)).count sep + 1 := by
        obtain ⟨hil, hie⟩ := List.getElem?_eq_some_iff.1 hb.1
        have e := List.take_append_drop i l
        rw [List.drop_eq_getElem_cons hil, hie] at e
        have h0 : (l.take i).count sep = 0 := by
          rw [List.count_eq_zero]
          intro hm
          obtain ⟨q, hq⟩ := List.getElem?_of_mem hm
          rw [List.getElem?_take] at hq
          split at hq
          · exact hb.2 q ‹_› hq
          · cases hq
        have : l.count sep = (l.take i ++ sep :: l.drop (i + 1)).count sep := by rw [e]
        rw [this, List.count_append, List.count_cons_self, h0]
        omega
      rw [Lib.splitK, if_neg hne, ei, List.length_cons]
      have := ih (l.drop (i + 1)) (by omega)
      show (Lib.splitK [sep] 0 k (l.drop (i + [sep].length))).length + 1 = _
      rw [show [sep].length = 1 from rfl, this]
/-- what SplitN gives: all parts, or one more than are wanted -/
def SpnAns (l : List UInt8) (sep : UInt8) (most : Nat) (w : World) (e : Ending) (w' : World) : Prop := ∃ P : List ByteArray, e = .returned (.slice (some ⟨w.heap.size, 0, none⟩) P.length (min (most + 1) (l.length + 1))) ∧
  Txt w' w.heap.size P ∧ Below w.heap.size w w' ∧ ((cparts sep l).length ≤ most → bts P = cparts sep l) ∧ (¬ (cparts sep l).length ≤ most → P.length = most + 1)
set_option maxHeartbeats 800000 in
theorem splitN_of (sep : UInt8) (most : Nat) (s : ByteArray) (w : World) (m : Int) (h1 : 1 ≤ most) (h2 : most ≤ 1000) (hs : s.size ≤ 1048576) (hm : w.cell? ⟨2, 0, none⟩ = some (.int .i64 m)) :
    Calls Tryz.prog 31 #[.string s, .string ⟨#[sep]⟩, .int .i64 ((most : Int) + 1)] w (SpnAns s.data.toList sep most w) := by
  have hlen : s.data.toList.length = s.size := by simp
  obtain ⟨N, hN⟩ : ∃ N, N = min (most + 1) (s.data.toList.length + 1) := ⟨_, rfl⟩
  have hG := show Calls Tryz.prog 46 #[.string s, .string ⟨#[sep]⟩, .int .i64 0, .int .i64 ((most : Int) + 1)] w _ from Tryz.strings_genSplit s ⟨#[sep]⟩ 0 ((most : Int) + 1) N m w (by omega) hm (Nat.le_refl _) (Nat.zero_le _) (by omega) (by omega) (by rw [if_neg (by omega)]; omega)
  obtain ⟨P, hP⟩ : ∃ P, P = Lib.splitB ⟨#[sep]⟩ 0 (N - 1) s := ⟨_, rfl⟩
  rw [← hP] at hG
  have hPb : bts P = Lib.splitK [sep] 0 (N - 1) s.data.toList := by
    rw [hP]; unfold bts; rw [Lib.splitB_data]
  have hcl : s.data.toList.count sep ≤ s.data.toList.length := List.count_le_length
  have hpl := cparts_len (sep := sep) s.data.toList
  have hA1 : (cparts sep s.data.toList).length ≤ most → bts P = cparts sep s.data.toList := fun h => by
    rw [hPb]; exact splitK_all sep _ _ (by omega)
  have hA2 : ¬ (cparts sep s.data.toList).length ≤ most → P.length = most + 1 := fun h => by
    have h3 : (bts P).length = P.length := by simp [bts]
    rw [← h3, hPb, splitK_many sep _ _ (by omega)]
    omega
  have hPN : P.length ≤ N := by
    have h3 : (bts P).length = P.length := by simp [bts]
    by_cases h : (cparts sep s.data.toList).length ≤ most
    · rw [← h3, hA1 h, hpl]; omega
    · rw [hA2 h]; omega
  have HT : Txt (w.alloc (.cells (Lib.cellsOf P N) 9)) w.heap.size P := ⟨_, blk_new w _ _ _ rfl, fun j hj => by
    unfold Lib.cellsOf
    rw [List.getElem?_toArray, List.getElem?_append_left (by simpa using hj)]
    simp [List.getD, List.getElem?_eq_getElem hj]⟩
  have HG := Lib.hid hG
  have HA := Lib.hid (And.intro hA1 hA2)
  have HTx := Lib.hid HT
  have HNN := Lib.hid hN
  clear hG hA1 hA2 HT hP hPb hN hpl hcl hlen hm
  go_enter Tryz.func31, Tryz.ntmps31
  go_wp2_with (go_at_call 46; ((with_reducible refine HG.out.mono ?_); rintro e w1 ⟨rfl, rfl⟩))
  go_ret
  exact ⟨P, by rw [← HNN.out]; rfl, HTx.out, (Below.refl _ _).alloc (Nat.le_refl _) _, HA.out.1, HA.out.2⟩
end Go.Proofs.YtljcgfgkfkoeeaaGreatDoor
