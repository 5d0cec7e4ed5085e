/- Lists read: the reference's numbers. -/
import Derived.Test.YtnfmfiomemcfdacDoorBlk
namespace Go.Proofs.YtnfmfiomemcfdacDoor
open Go.RowKit

def noneL : List UInt8 := [110, 111, 110, 101]
def rlOk (l : List UInt8) : Bool := decide (l = noneL) || (decide ((parts l).length ≤ 64) && (parts l).all rdOk)
def rlZ (l : List UInt8) : List Int := if l = noneL then [] else if rlOk l then (parts l).map rdN else []
theorem rl_none {l : List UInt8} (h : l = noneL) : rlOk l = true ∧ rlZ l = [] := by simp [rlOk, rlZ, h]
theorem rl_long {l : List UInt8} (hn : ¬ l = noneL) (h : ¬ (parts l).length ≤ 64) : rlOk l = false ∧ rlZ l = [] := by
  have : rlOk l = false := by simp [rlOk, hn, h]
  exact ⟨this, by simp [rlZ, hn, this]⟩
theorem rl_bad {l : List UInt8} (hn : ¬ l = noneL) (h : (parts l).all rdOk = false) : rlOk l = false ∧ rlZ l = [] := by
  have : rlOk l = false := by simp only [rlOk, hn, h]; simp
  exact ⟨this, by simp [rlZ, hn, this]⟩
theorem rl_yes {l : List UInt8} (hn : ¬ l = noneL) (h : (parts l).length ≤ 64) (ha : (parts l).all rdOk = true) : rlOk l = true ∧ rlZ l = (parts l).map rdN := by
  have : rlOk l = true := by simp only [rlOk, ha]; simp [h]
  exact ⟨this, by simp [rlZ, hn, this]⟩
/-- the numbers of the first k parts -/
def fst (P : List ByteArray) (k : Nat) : List Value := ((bts P).take k).map (fun l => Value.int .i64 (rdN l))
theorem fst_succ (P : List ByteArray) (k : Nat) (h : k < P.length) : fst P (k + 1) = fst P k ++ [.int .i64 (rdN (P.getD k ⟨#[]⟩).data.toList)] := by
  unfold fst
  rw [List.take_succ_eq_append_getElem (by simpa [bts] using h), List.map_append]
  simp [bts, List.getD, List.getElem?_eq_getElem h]
theorem fst_len (P : List ByteArray) (k : Nat) (h : k ≤ P.length) : (fst P k).length = k := by simp [fst, bts]; omega
theorem fst_all (P : List ByteArray) : fst P P.length = ((bts P).map rdN).map (Value.int .i64) := by
  unfold fst; rw [List.take_of_length_le (by simp [bts]), List.map_map]; rfl
theorem ok_succ (P : List ByteArray) (k : Nat) (h : k < P.length) : ((bts P).take (k + 1)).all rdOk = (((bts P).take k).all rdOk && rdOk (P.getD k ⟨#[]⟩).data.toList) := by
  rw [List.take_succ_eq_append_getElem (by simpa [bts] using h), List.all_append]
  simp [bts, List.getD, List.getElem?_eq_getElem h]
theorem ok_no (P : List ByteArray) (k : Nat) (h : k < P.length) (hb : rdOk (P.getD k ⟨#[]⟩).data.toList = false) : (bts P).all rdOk = false := by
  rw [← List.take_append_drop (k + 1) (bts P), List.all_append, ok_succ P k h, hb]; simp
theorem parts_le : ∀ (l p : List UInt8), p ∈ parts l → p.length ≤ l.length
  | [], p, h => by
    have : p = [] := by simpa [parts] using h
    simp [this]
  | c :: r, p, h => by
    have ih := parts_le r
    by_cases hc : c = 44
    · subst hc
      rw [parts_comma] at h
      rcases List.mem_cons.1 h with rfl | h
      · simp
      · have := ih p h; simp; omega
    · cases hr : parts r with
      | nil => exact absurd hr (parts_ne r)
      | cons q qs =>
        rw [parts_cons hc hr] at h
        rw [hr] at ih
        rcases List.mem_cons.1 h with rfl | h
        · have := ih q (by simp); simp; omega
        · have := ih p (by simp [h]); simp; omega
theorem bts_le {P : List ByteArray} {l : List UInt8} (h : bts P = parts l) {k : Nat} (hk : k < P.length) : (P.getD k ⟨#[]⟩).size ≤ l.length := by
  have := parts_le l (P.getD k ⟨#[]⟩).data.toList (by
    rw [← h]
    simp only [bts, List.getD, List.getElem?_eq_getElem hk, Option.getD_some]
    exact List.mem_map.2 ⟨_, List.getElem_mem hk, rfl⟩)
  simpa using this

def RlAns (zs : List Int) (ok : Bool) (w : World) (e : Ending) (w' : World) : Prop := ∃ v, e = .returned (.tuple #[v, .bool ok]) ∧ w'.ownsRow w.heap.size 2 1 v zs.length (zs.map (Value.int .i64)) ∧ Below w.heap.size w w'

set_option maxRecDepth 100000 in
set_option maxHeartbeats 3200000 in
theorem l01Numbers_of (s : ByteArray) (w : World) (hs : s.size ≤ 1048576) :
    Calls Tryd.prog 44 #[.string s] w (RlAns (rlZ s.data.toList) (rlOk s.data.toList) w) := by
  by_cases hn : s.data.toList = noneL
  · have hc : (s.toList == [110, 111, 110, 101]) = true := by rw [ByteArray.toList_eq, hn]; rfl
    obtain ⟨e1, e2⟩ := rl_none hn
    rw [e1, e2]
    clear hn
    go_enter Tryd.func44, Tryd.ntmps44
    go_wp2
    go_ret2
    exact ⟨_, rfl, own_nil1 w _ _ (Nat.le_refl _), (Below.refl _ _).alloc (Nat.le_refl _) _⟩
  · have hc : (s.toList == [110, 111, 110, 101]) = false := by rw [ByteArray.toList_eq]; simpa [noneL] using hn
    obtain ⟨i0, hi, hz0, hz1, hz2⟩ := info_parts i64info
    have HC := Lib.hid fun w => l01Cut_of s w hs
    have HN := Lib.hid hn
    have hlen : s.data.toList.length = s.size := by simp
    have HL := Lib.hid hlen
    clear hn hlen
    go_enter Tryd.func44, Tryd.ntmps44
    go_wp2_with (go_at_call 54; (with_reducible refine (HC.out _).mono ?_); rintro e w2 ⟨P, bp, cp, hP, rfl, hown2, hb2⟩; have HP := Lib.hid hP; have HT := Lib.hid (txt_own hown2); have HO := Lib.hid (own_below (own_nil1 w 2 w.heap.size (Nat.le_refl _)) hb2 (Nat.le_refl _)); have HB := Lib.hid (below_next ((Below.refl w.heap.size w).alloc (Nat.le_refl _) (.cells #[] 2)) hb2); clear hP hown2 hb2)
    · rename_i hlong
      obtain ⟨e1, e2⟩ := rl_long HN.out (by rw [← HP.out]; simp [bts]; omega)
      rw [e1, e2]
      go_ret2
      exact ⟨_, rfl, World.ownsRow_nil _ _ _ _, HB.out⟩
    · rename_i hshort
      go_loopw [4, 6] (fun v i wr => ∃ (W : World) (k b c : Nat), W = wr ∧ k ≤ P.length ∧ i = .int .i64 k ∧ v = .slice (some ⟨b, 0, none⟩) k c ∧ Hid (((bts P).take k).all rdOk = true) ∧
          wr.ownsRow w.heap.size 2 1 v k (fst P k) ∧ Txt wr bp P ∧ Below w.heap.size w wr) (fun _ i _ => P.length - (intOf i).toNat)
      case atStart => exact ⟨_, 0, w.heap.size, 0, rfl, Nat.zero_le _, rfl, rfl, rfl, HO.out, HT.out, HB.out⟩
      case round =>
        clear HO HT HB
        obtain ⟨W, k, b, c, rfl, hk, rfl, rfl, hA, hown, ht, hb⟩ := hrel
        by_cases hlt : k < P.length
        · have hx := ht.cell hlt
          have HV := Lib.hid (l01Value_of (P.getD k ⟨#[]⟩) W (by have := bts_le HP.out hlt; rw [HL.out] at this; omega))
          have HS := Lib.hid (fst_succ P k hlt)
          have HK := Lib.hid (ok_succ P k hlt)
          have HNo := Lib.hid (ok_no P k hlt)
          have HO := Lib.hid hown
          have HT := Lib.hid ht
          have HB := Lib.hid hb
          generalize P.getD k ⟨#[]⟩ = t at hx HV HS HK HNo
          clear hown ht hb
          unfold rdAns at HV
          generalize rdN t.data.toList = z at HV HS
          cases hok : rdOk t.data.toList
          · rw [hok] at HV HNo
            obtain ⟨e1, e2⟩ := rl_bad HN.out (by rw [← HP.out]; exact HNo.out rfl)
            have E1 := Lib.hid e1
            have E2 := Lib.hid e2
            clear e1 e2
            go_wp2_with (go_at_call 36; (with_reducible refine (HV.out).mono ?_); rintro e w3 ⟨rfl, hb3⟩; have HB3 := Lib.hid (below_next HB.out hb3); clear hb3)
            go_ret2
            exact ⟨_, congrArg (fun b => Ending.returned (.tuple #[.slice none 0 0, .bool b])) E1.out.symm, by rw [E2.out]; exact World.ownsRow_nil _ _ _ _, HB3.out⟩
          · rw [hok, if_pos rfl] at HV
            rw [hok] at HK
            go_wp2_with (first | (go_at_call 36; (with_reducible refine (HV.out).mono ?_); rintro e w3 ⟨rfl, hb3⟩; have HB3 := Lib.hid (below_next HB.out hb3); have HO3 := Lib.hid (own_below HO.out hb3 (Nat.le_refl _)); have HT3 := Lib.hid (HT.out.next hb3); have hsz3 := HB3.out.size; clear hb3) | (at_builtin; go_loud (refine wpList_append_own _ rfl _ _ 30 rfl w.heap.size 2 i0 (.int .i64 0) 1 8 Tryd.underlying30 hi hz0 hz1 hz2 rfl (by decide) (.slice (some ⟨b, 0, none⟩) k c) k (fst P k) rfl (HO3.out.alloc _) ⟨w3.heap.size, 0, none⟩ 1 1 [.int .i64 z] rfl rfl (cell_one_new _ _ _) (fun x hx => by simp at hx; subst hx; rfl) (by unfold maxLen; omega) (by omega) (by simp; omega) ?_); intro v' w1 hown' hgrow hnil; go_must (obtain ⟨b', c', rfl, hb', -⟩ := own_form1 hown' (by omega)); have HO1 := Lib.hid hown'; have HB1 := Lib.hid (below_app HB3.out HO3.out hgrow); have HT1 := Lib.hid (HT3.out.app HO3.out neIS hgrow); clear hown' hgrow hnil))
            go_roundw
            case rel =>
              refine ⟨_, k + 1, b', c', rfl, hlt, by go_num, rfl, ?_, ?_, HT1.out, HB1.out⟩
              · show _ = true
                rw [HK.out, hA.out]; rfl
              · rw [HS.out]; exact HO1.out
            case measure => simp [intOf]; omega
        · obtain rfl : k = P.length := by omega
          have e1 := rl_yes HN.out (by rw [← HP.out]; simp [bts]; omega) (by rw [← HP.out]; have := hA.out; rwa [List.take_of_length_le (by simp [bts])] at this)
          have E1 := Lib.hid e1
          have hl : ((parts s.data.toList).map rdN).length = P.length := by rw [← HP.out]; simp [bts]
          rw [fst_all, HP.out] at hown
          clear e1
          go_wp2
          go_ret2
          exact ⟨_, congrArg (fun o => Ending.returned (.tuple #[.slice (some ⟨b, 0, none⟩) P.length c, .bool o])) E1.out.1.symm, by rw [E1.out.2, hl]; exact hown, hb⟩
end Go.Proofs.YtnfmfiomemcfdacDoor
