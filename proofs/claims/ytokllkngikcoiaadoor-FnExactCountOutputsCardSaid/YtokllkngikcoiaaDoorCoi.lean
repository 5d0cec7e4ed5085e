/- Lines and outputs: the program's side. -/
import Derived.Test.YtokllkngikcoiaaDoorCo
import Derived.Test.YtokllkngikcoiaaDoorShelco
import Derived.Lib.SplitLaws
namespace Go.Proofs.YtokllkngikcoiaaDoor
open Go.RowKit

theorem arr_size (l : List UInt8) : (ByteArray.mk l.toArray).size = l.length := by simp [ByteArray.size]
theorem csplit_of (sep : UInt8) (s : ByteArray) (w : World) (m : Int) (hs : s.size ≤ 1048576) (hm : w.cell? ⟨0, 0, none⟩ = some (.int .i64 m)) :
    Calls Tryd.prog 31 #[.string s, .string ⟨#[sep]⟩] w fun e w' => ∃ P : List ByteArray, bts P = cparts sep s.data.toList ∧ e = .returned (.slice (some ⟨w.heap.size, 0, none⟩) P.length P.length) ∧ Txt w' w.heap.size P ∧ Below w.heap.size w w' := by
  refine (Tryd.strings_Split s ⟨#[sep]⟩ m w (by omega) hm (Nat.le_refl _)).mono ?_
  rintro e w' ⟨rfl, rfl⟩
  have hP : bts (Lib.splitB ⟨#[sep]⟩ 0 (Lib.countB s ⟨#[sep]⟩) s) = cparts sep s.data.toList := by
    unfold bts
    rw [Lib.splitB_data]
    exact csplitK_parts _ _ (Nat.le_refl _)
  have hl : (Lib.splitB ⟨#[sep]⟩ 0 (Lib.countB s ⟨#[sep]⟩) s).length = Lib.countB s ⟨#[sep]⟩ + 1 := by
    have h := congrArg List.length hP
    rw [cparts_len, ← Lib.count_one] at h
    simpa [bts] using h
  refine ⟨_, hP, by rw [hl], ⟨_, blk_new w _ _ _ rfl, fun j hj => ?_⟩, (Below.refl _ _).alloc (Nat.le_refl _) _⟩
  simp [List.getD, List.getElem?_eq_getElem hj]

/-- what linesOf gives -/
def LinesAns (l : List UInt8) (ok : Bool) (w : World) (e : Ending) (w' : World) : Prop := ∃ (ao : Option Addr) (A : List ByteArray) (n c : Nat), e = .returned (.tuple #[.slice ao n c, .bool ok]) ∧ A.length = n ∧ n ≤ 16001 ∧
    (ok = true → bts A = lns l) ∧ (0 < n → ∃ b, ao = some ⟨b, 0, none⟩ ∧ Txt w' b A) ∧ Below w.heap.size w w'
set_option maxRecDepth 100000 in
set_option maxHeartbeats 1600000 in
theorem linesOf_of (s : ByteArray) (w : World) (m : Int) (hs : s.size ≤ 1048576) (hm : w.cell? ⟨0, 0, none⟩ = some (.int .i64 m)) :
    Calls Tryd.prog 18 #[.string s] w (LinesAns s.data.toList (cntOk s.data.toList) w) := by
  have hlen : s.data.toList.length = s.size := by simp
  by_cases h16 : s.size ≤ 16000
  · have h16' : ¬ 16000 < s.size := by omega
    have HCut := Lib.hid fun w => (Tryd.strings_CutSuffix s ⟨#[10]⟩ w (by omega)).mono fun e w' (h : _ ∧ w' = w) => (⟨h.1, h.2.symm⟩ : _ ∧ w = w')
    rcases snoc_cases s.data.toList with h0 | ⟨l, c, hl⟩
    · obtain rfl : s = ⟨#[]⟩ := empty_of h0
      clear h0 hlen HCut hm
      go_enter Tryd.func18, Tryd.ntmps18
      go_wp2
      go_ret2
      exact ⟨none, [], 0, 0, rfl, rfl, by omega, fun _ => rfl, fun h => by omega, Below.refl _ _⟩
    · have hne1 : ¬ s.toList = [] := by rw [ByteArray.toList_eq, hl]; simp
      have hne2 : s.toList.isEmpty = false := by rw [List.isEmpty_eq_false_iff]; exact hne1
      have hl1 : l.length ≤ 16000 := by have := congrArg List.length hl; simp at this; omega
      have HL := Lib.hid hl
      have HM := Lib.hid hm
      have hok : cntOk s.data.toList = decide (c = 10) := by
        unfold cntOk
        rw [hlen, decide_eq_true h16, Bool.true_and, hl]
        by_cases hc : c = 10
        · subst hc; rw [lend_close]; rfl
        · rw [lend_more _ _ hc, decide_eq_false hc]
      have HOk := Lib.hid hok
      have HN := Lib.hid hlen
      clear hok hlen hm
      by_cases hc : c = 10
      · subst hc
        have h1 : Lib.trimSuffix s.data.toList [10] = l := by rw [hl]; exact (suf_close l).2
        have h2 : Lib.hasSuffix s.data.toList [10] = true := by rw [hl]; exact (suf_close l).1
        have HC2 := HCut.out
        rw [show (ByteArray.mk #[10]).data.toList = [10] from rfl, h1, h2] at HC2
        have HC3 := Lib.hid HC2
        have HSp := Lib.hid fun w hm => csplit_of 10 ⟨l.toArray⟩ w m (by rw [arr_size]; omega) hm
        rw [show cntOk s.data.toList = true by rw [HOk.out]; rfl]
        clear hl h1 h2 HC2 HCut HOk
        go_enter Tryd.func18, Tryd.ntmps18
        go_wp2_with (first | (go_at_call 30; (with_reducible refine (HC3.out _).mono ?_); rintro e w2 ⟨rfl, rfl⟩) | (go_at_call 31; (with_reducible refine (HSp.out _ HM.out).mono ?_); rintro e w3 ⟨P, hP, rfl, ht, hb3⟩; have HP := Lib.hid hP; have HT := Lib.hid ht; have HB := Lib.hid hb3; clear hP ht hb3))
        go_ret2
        have hPl : P.length ≤ 16001 := by
          have h := congrArg List.length (HP.out.trans (show cparts 10 (ByteArray.mk l.toArray).data.toList = cparts 10 l from rfl))
          rw [cparts_len] at h
          have h3 : (bts P).length = P.length := by simp [bts]
          have h4 : List.count 10 l ≤ l.length := List.count_le_length
          omega
        exact ⟨_, P, _, _, rfl, rfl, hPl, fun _ => by rw [HP.out, HL.out, (lns_close l).1], fun _ => ⟨_, rfl, HT.out⟩, HB.out⟩
      · have h1 : Lib.hasSuffix s.data.toList [10] = false := by rw [hl]; exact suf_more l c hc
        have h2 : Lib.trimSuffix s.data.toList [10] = s.data.toList := by unfold Lib.trimSuffix; rw [if_neg (by rw [h1]; simp)]
        have HC2 := HCut.out
        rw [show (ByteArray.mk #[10]).data.toList = [10] from rfl, h1, h2] at HC2
        have HC3 := Lib.hid HC2
        have HSp := Lib.hid fun w hm => csplit_of 10 s w m hs hm
        rw [show cntOk s.data.toList = false by rw [HOk.out]; exact decide_eq_false hc]
        clear hl h1 h2 HC2 HCut HOk hc
        go_enter Tryd.func18, Tryd.ntmps18
        go_wp2_with (first | (go_at_call 30; (with_reducible refine (HC3.out _).mono ?_); rintro e w2 ⟨rfl, rfl⟩) | (go_at_call 31; (with_reducible refine (HSp.out _ HM.out).mono ?_); rintro e w3 ⟨P, hP, rfl, ht, hb3⟩; have HP := Lib.hid hP; have HT := Lib.hid ht; have HB := Lib.hid hb3; clear hP ht hb3))
        go_ret2
        have hPl : P.length ≤ 16001 := by
          have h := congrArg List.length HP.out
          rw [cparts_len] at h
          have h3 : (bts P).length = P.length := by simp [bts]
          have h4 : List.count 10 s.data.toList ≤ s.data.toList.length := List.count_le_length
          have := HN.out
          omega
        exact ⟨_, P, _, _, rfl, rfl, hPl, (fun h => by cases h), fun _ => ⟨_, rfl, HT.out⟩, HB.out⟩
  · have h16' : 16000 < s.size := by omega
    have hno : cntOk s.data.toList = false := by unfold cntOk; rw [hlen, decide_eq_false h16]; rfl
    rw [hno]
    clear hno hlen hm
    go_enter Tryd.func18, Tryd.ntmps18
    go_wp2
    go_ret2
    exact ⟨none, [], 0, 0, rfl, rfl, by omega, (fun h => by cases h), (fun h => by omega), Below.refl _ _⟩
set_option maxRecDepth 100000 in
set_option maxHeartbeats 3200000 in
theorem count_of8 (s : ByteArray) (w : World) (m : Int) (hs : s.size ≤ 1048576) (hm : w.cell? ⟨0, 0, none⟩ = some (.int .i64 m)) :
    Calls Tryd.prog 7 #[.string s] w fun e w' => e = cntAns s.data.toList ∧ Below w.heap.size w w' := by
  have HC := Lib.hid (linesOf_of s w m hs hm)
  clear hm
  cases hok : cntOk s.data.toList
  · rw [cnt_no hok]
    rw [hok] at HC
    clear hok
    go_enter Tryd.func7, Tryd.ntmps7
    go_wp2_with (go_at_call 18; (with_reducible refine HC.out.mono ?_); rintro e w2 ⟨ao, A, n, c, rfl, hn, hn2, hA, ht, hb⟩; have HB := Lib.hid hb; clear hA ht hb hn)
    go_ret3
    exact ⟨rfl, HB.out⟩
  · rw [cnt_yes hok]
    rw [hok] at HC
    clear hok
    go_enter Tryd.func7, Tryd.ntmps7
    go_wp2_with (go_at_call 18; (with_reducible refine HC.out.mono ?_); rintro e w2 ⟨ao, A, n, c, rfl, hn, hn2, hA, ht, hb⟩; have HA := Lib.hid (hA rfl); have HT := Lib.hid ht; have HB := Lib.hid hb; have HN := Lib.hid hn; clear hA ht hb hn)
    go_loopw [7, 19] (fun v i wr => ∃ (W : World) (k : Nat), W = wr ∧ k ≤ n ∧ i = .int .i64 k ∧ v = .int .i64 (bads ((lns s.data.toList).take k)) ∧ Hid (0 < n → ∃ b, ao = some ⟨b, 0, none⟩ ∧ Txt wr b A) ∧ Below w.heap.size w wr) (fun _ i _ => n - (intOf i).toNat)
    case atStart => exact ⟨_, 0, rfl, Nat.zero_le _, rfl, rfl, HT, HB.out⟩
    case round =>
      clear HT HB HC
      obtain ⟨W, k, rfl, hk, rfl, rfl, ht, hb⟩ := hrel
      have hal : n = (lns s.data.toList).length := by rw [← HA.out, ← HN.out]; simp [bts]
      have HAL := Lib.hid hal
      clear hal
      have hbl := bads_le ((lns s.data.toList).take k)
      have hbl2 : ((lns s.data.toList).take k).length ≤ k := List.length_take_le _ _
      by_cases hlt : k < n
      · obtain ⟨b, rfl, ht2⟩ := ht.out (by omega)
        have hx := ht2.cell (j := k) (by rw [HN.out]; exact hlt)
        have hgd := bts_getD A k (by rw [HN.out]; exact hlt)
        rw [HA.out] at hgd
        have HS := Lib.hid (bads_snoc (lns s.data.toList) k (by rw [← HAL.out]; exact hlt))
        have HG := Lib.hid hgd
        have HB := Lib.hid hb
        clear hb hgd ht2
        generalize A.getD k ⟨#[]⟩ = t at hx HG
        generalize bads ((lns s.data.toList).take k) = q at hbl HS ⊢
        generalize ((lns s.data.toList).take k).length = p at hbl hbl2
        cases h1 : (t.toList == [110, 111]) <;> cases h2 : (t.toList == [119, 104, 97, 116])
        all_goals
          have HD := Lib.hid (bad_at HG.out h1 h2)
          go_wp2
          go_roundw
          case rel => exact ⟨_, k + 1, rfl, hlt, by go_num, by rw [HS.out, HD.out]; first | rfl | go_num, ht, HB.out⟩
          case measure => simp [intOf]; omega
      · obtain rfl : k = n := by omega
        have hT1 : (lns s.data.toList).take k = lns s.data.toList := List.take_of_length_le (by rw [← HAL.out]; omega)
        rw [hT1] at hbl ⊢
        rw [← HAL.out] at hbl
        have HB := Lib.hid hb
        clear hT1 hbl2 ht hb
        generalize hq : bads (lns s.data.toList) = q at hbl ⊢
        have HQ := Lib.hid hq
        clear hq
        go_wp2
        go_ret3
        exact ⟨by rw [HQ.out, ← HAL.out]; rfl, HB.out⟩
end Go.Proofs.YtokllkngikcoiaaDoor
