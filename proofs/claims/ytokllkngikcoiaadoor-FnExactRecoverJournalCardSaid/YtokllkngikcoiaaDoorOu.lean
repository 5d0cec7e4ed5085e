/- Lines and outputs: the reference's side. -/
import Derived.Test.YtokllkngikcoiaaDoorCl
import Derived.Test.YtokllkngikcoiaaDoorCs
import Derived.Deep.QuietTactic
import Derived.BigQuiet
import Derived.IntWalk
namespace Go.Proofs.YtokllkngikcoiaaDoor
open Go.RowKit

theorem own_form2 {w : World} {base e n : Nat} {v : Value} {xs : List Value} (h : w.ownsRow base e 1 v n xs) {b c : Nat} (hv : v = .slice (some ⟨b, 0, none⟩) n c) : base ≤ b ∧ b < w.heap.size ∧ n ≤ c ∧ c ≤ maxLen := by
  rcases h.2 with ⟨h1, _⟩ | ⟨g, cap, cur, hv1, hb, hg, hc, hm, _⟩
  · rw [h1] at hv; cases hv
  · rw [hv1] at hv
    obtain ⟨rfl, rfl⟩ : g = b ∧ cap = c := by simp at hv; exact hv
    exact ⟨hb, (Array.getElem?_eq_some_iff.1 hg).1, hc, hm⟩
theorem bts_split {P : List ByteArray} {L : List (List UInt8)} {q : List UInt8} (h : bts P = L ++ [q]) : ∃ A x, P = A ++ [x] ∧ bts A = L ∧ x.data.toList = q := by
  have hne : P ≠ [] := by rintro rfl; simp [bts] at h
  refine ⟨P.dropLast, P.getLast hne, (List.dropLast_concat_getLast hne).symm, ?_⟩
  rw [← List.dropLast_concat_getLast hne] at h
  have h2 : bts P.dropLast ++ [(P.getLast hne).data.toList] = L ++ [q] := by rw [← h]; simp [bts]
  exact clast_eq h2
theorem txt_app {w : World} {g : Nat} {A B : List ByteArray} (h : Txt w g (A ++ B)) : Txt w g A := by
  obtain ⟨cs, h1, hc⟩ := h
  refine ⟨cs, h1, fun j hj => ?_⟩
  have := hc j (by simp; omega)
  rw [this]; simp [List.getD, List.getElem?_append_left hj]
theorem txt_last {w : World} {g : Nat} {A : List ByteArray} {x : ByteArray} (h : Txt w g (A ++ [x])) : w.cell? ⟨g, A.length, none⟩ = some (.string x) := by
  have := h.cell (j := A.length) (by simp)
  rw [this]; simp [List.getD]
theorem Txt.quiet {w w' : World} {g : Nat} {P : List ByteArray} (h : Txt w g P) (hq : Quiet w w') : Txt w' g P := by
  obtain ⟨m, rfl⟩ := hq
  exact h
theorem below_quiet {B : Nat} {w w1 w2 : World} (h : Below B w w1) (hq : Quiet w1 w2) : Below B w w2 := by
  obtain ⟨m, rfl⟩ := hq
  exact below_drewN h m
set_option maxRecDepth 100000 in
set_option maxHeartbeats 1600000 in
theorem l08Lines_of (s : ByteArray) (w : World) (hs : s.size ≤ 1048576) :
    Calls Tryd.prog 17 #[.string s] w fun e w' => ∃ (A : List ByteArray) (q : ByteArray) (b c : Nat), bts A = lns s.data.toList ∧ q.data.toList = lrest s.data.toList ∧
      e = .returned (.tuple #[.slice (some ⟨b, 0, none⟩) A.length c, .string q]) ∧ Txt w' b A ∧ w.heap.size ≤ b ∧ Below w.heap.size w w' := by
  have HC := Lib.hid fun w => ccut_of 10 10 s w (Lib.hid rfl) hs
  have hlen : (cparts 10 s.data.toList).length ≤ 1048577 := by
    rw [cparts_len]
    have : s.data.toList.count 10 ≤ s.data.toList.length := List.count_le_length
    rw [show s.data.toList.length = s.size by simp] at this
    omega
  have HL := Lib.hid hlen
  clear hlen
  go_enter Tryd.func17, Tryd.ntmps17
  go_wp2_with (go_at_call 29; (with_reducible refine (HC.out _).mono ?_); rintro e w2 ⟨P, b, c, hP, rfl, hown, hb⟩; have HP := Lib.hid hP; have HO := Lib.hid hown; have HB := Lib.hid hb; clear hP hown hb)
  obtain ⟨A, q, hA, hA1, hq⟩ := bts_split (HP.out.trans (lns_eq _))
  have hAl : A.length + 1 ≤ 1048577 := by
    have h1 : (bts P).length = _ := congrArg List.length HP.out
    have h2 : P.length = A.length + 1 := by rw [hA]; simp
    have h3 : (bts P).length = P.length := by simp [bts]
    have := HL.out
    omega
  subst hA
  rw [show (A ++ [q]).length = A.length + 1 by simp]
  have hown := HO.out
  rw [show (A ++ [q]).length = A.length + 1 by simp] at hown
  obtain ⟨hbb, _, hcap, hmx⟩ := own_form2 hown rfl
  unfold maxLen at hmx
  have HT := Lib.hid (txt_own hown)
  have hx := txt_last HT.out
  have HA := Lib.hid hA1
  have HQ := Lib.hid hq
  clear hown hA1 hq HO HP
  generalize hn : A.length = n at hAl hx hcap ⊢
  have HN := Lib.hid hn
  clear hn
  have hxn : ∀ m, (w2.drewN m).cell? ⟨b, n, none⟩ = some (.string q) := fun m => hx
  have e1 : IntKind.i64.wrap ((n : Int) + 1 - 1) = (n : Int) := by rw [IntWalk.i64_in _ (by omega)]; omega
  go_quiet (fail)
  go_wp2
  go_ret2
  exact ⟨A, q, b, c, HA.out, HQ.out, by rw [HN.out]; rfl, (txt_app HT.out).quiet ⟨_, rfl⟩, hbb, below_quiet HB.out ⟨_, rfl⟩⟩
theorem empty_of {q : ByteArray} (h : q.data.toList = []) : q = ⟨#[]⟩ := by
  cases q with | mk d => exact congrArg ByteArray.mk (Array.toList_eq_nil_iff.1 h)
theorem bad_at {x : List UInt8} {t : ByteArray} {b1 b2 : Bool} (h : x = t.data.toList) (h1 : (t.toList == [110, 111]) = b1) (h2 : (t.toList == [119, 104, 97, 116]) = b2) : isBad x = (b1 || b2) := by
  rw [h, ← ByteArray.toList_eq]; unfold isBad; rw [h1, h2]
def cntOk (l : List UInt8) : Bool := decide (l.length ≤ 16000) && lend l
def cntA (l : List UInt8) : Int := if cntOk l then (bads (lns l) : Int) else 0
def cntB (l : List UInt8) : Int := if cntOk l then ((lns l).length : Int) - (bads (lns l) : Int) else 0
def cntAns (l : List UInt8) : Ending := .returned (.tuple #[.int .i64 (cntA l), .int .i64 (cntB l), .bool (cntOk l)])
theorem cnt_no {l : List UInt8} (h : cntOk l = false) : cntAns l = .returned (.tuple #[.int .i64 0, .int .i64 0, .bool false]) := by
  unfold cntAns cntA cntB; rw [h]; rfl
theorem cnt_yes {l : List UInt8} (h : cntOk l = true) : cntAns l = .returned (.tuple #[.int .i64 (bads (lns l)), .int .i64 (((lns l).length : Int) - (bads (lns l) : Int)), .bool true]) := by
  unfold cntAns cntA cntB; rw [h]; rfl
set_option maxRecDepth 100000 in
set_option maxHeartbeats 3200000 in
theorem specCount_of (s : ByteArray) (w : World) (hs : s.size ≤ 1048576) :
    Calls Tryd.prog 6 #[.string s] w fun e w' => e = cntAns s.data.toList ∧ Below w.heap.size w w' := by
  have hlen : s.data.toList.length = s.size := by simp
  by_cases h16 : s.size ≤ 16000
  · have h16' : ¬ 16000 < s.size := by omega
    have HC := Lib.hid fun w => l08Lines_of s w hs
    have hll := lns_len s.data.toList
    rw [hlen] at hll
    have HLL := Lib.hid hll
    have HLen := Lib.hid hlen
    clear hll hlen
    by_cases hr : lrest s.data.toList = []
    · have hyes : cntOk s.data.toList = true := by unfold cntOk lend; rw [HLen.out, decide_eq_true h16, decide_eq_true hr]; rfl
      rw [cnt_yes hyes]
      have HR := Lib.hid hr
      clear hyes hr
      go_enter Tryd.func6, Tryd.ntmps6
      go_wp2_with (go_at_call 17; (with_reducible refine (HC.out _).mono ?_); rintro e w2 ⟨A, q, b, c, hA, hq, rfl, ht, hbb, hb⟩; obtain rfl : q = ⟨#[]⟩ := empty_of (hq.trans HR.out); have HA := Lib.hid hA; have HT := Lib.hid ht; have HB := Lib.hid hb; clear hA hq ht hb hbb)
      go_loopw [7, 8] (fun v i wr => ∃ (W : World) (k : Nat), W = wr ∧ k ≤ A.length ∧ i = .int .i64 k ∧ v = .int .i64 (bads ((lns s.data.toList).take k)) ∧ Txt wr b A ∧ Below w.heap.size w wr) (fun _ i _ => A.length - (intOf i).toNat)
      case atStart => exact ⟨_, 0, rfl, Nat.zero_le _, rfl, rfl, HT.out, HB.out⟩
      case round =>
        clear HT HB HC
        obtain ⟨W, k, rfl, hk, rfl, rfl, ht, hb⟩ := hrel
        have hal : A.length = (lns s.data.toList).length := by rw [← HA.out]; simp [bts]
        have hal2 : A.length ≤ 16000 := by have := HLL.out; omega
        have HAL := Lib.hid hal
        clear hal
        have hbl := bads_le ((lns s.data.toList).take k)
        have hbl2 : ((lns s.data.toList).take k).length ≤ k := List.length_take_le _ _
        by_cases hlt : k < A.length
        · have hx := ht.cell hlt
          have hgd := bts_getD A k hlt
          rw [HA.out] at hgd
          have HS := Lib.hid (bads_snoc (lns s.data.toList) k (by rw [← HAL.out]; exact hlt))
          have HG := Lib.hid hgd
          have HT := Lib.hid ht
          have HB := Lib.hid hb
          clear ht hb hgd
          generalize A.getD k ⟨#[]⟩ = t at hx HG
          generalize bads ((lns s.data.toList).take k) = n at hbl HS ⊢
          generalize ((lns s.data.toList).take k).length = m at hbl hbl2
          cases h1 : (t.toList == [110, 111]) <;> cases h2 : (t.toList == [119, 104, 97, 116])
          all_goals
            have HD := Lib.hid (bad_at HG.out h1 h2)
            go_wp2
            go_roundw
            case rel => exact ⟨_, k + 1, rfl, hlt, by go_num, by rw [HS.out, HD.out]; first | rfl | go_num, HT.out, HB.out⟩
            case measure => simp [intOf]; omega
        · obtain rfl : k = A.length := by omega
          have hT1 : (lns s.data.toList).take A.length = lns s.data.toList := List.take_of_length_le (by rw [HAL.out]; omega)
          rw [hT1] at hbl ⊢
          rw [← HAL.out] at hbl
          have HB := Lib.hid hb
          clear hT1 hbl2 ht hb
          generalize hn : bads (lns s.data.toList) = n at hbl ⊢
          have HN := Lib.hid hn
          clear hn
          go_wp2
          go_ret3
          exact ⟨by rw [HN.out, ← HAL.out]; rfl, HB.out⟩
    · have hno : cntOk s.data.toList = false := by unfold cntOk lend; rw [decide_eq_false hr, Bool.and_false]
      rw [cnt_no hno]
      have HR := Lib.hid hr
      clear hno hr
      go_enter Tryd.func6, Tryd.ntmps6
      go_wp2_with (go_at_call 17; (with_reducible refine (HC.out _).mono ?_); rintro e w2 ⟨A, q, b, c, hA, hq, rfl, ht, hbb, hb⟩; have hq1 : ¬ q.toList = [] := (by rw [ByteArray.toList_eq, hq]; exact HR.out); have hq2 : q.toList.isEmpty = false := (by rw [List.isEmpty_eq_false_iff]; exact hq1); have HB := Lib.hid hb; clear hA hq ht hb hbb)
      go_ret3
      exact ⟨rfl, HB.out⟩
  · have h16' : 16000 < s.size := by omega
    have hno : cntOk s.data.toList = false := by unfold cntOk; rw [hlen, decide_eq_false h16]; rfl
    rw [cnt_no hno]
    clear hno hlen
    go_enter Tryd.func6, Tryd.ntmps6
    go_wp2
    go_ret3
    exact ⟨rfl, Below.refl _ _⟩
end Go.Proofs.YtokllkngikcoiaaDoor
