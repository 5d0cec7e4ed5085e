/- Lists read: the program's side. -/
import Derived.Test.YtnfmfiomemcfdacDoorRlt
import Derived.Test.YtnfmfiomemcfdacDoorRdc
import Derived.Test.YtnfmfiomemcfdacDoorShelsplit
import Derived.Lib.SplitLaws
namespace Go.Proofs.YtnfmfiomemcfdacDoor
open Go.RowKit

theorem count_of (s : ByteArray) (w : World) : Calls Tryd.prog 56 #[.string s, .string ⟨#[44]⟩] w fun e w' => e = .returned (.int .i64 ((s.data.toList.count 44 : Nat) : Int)) ∧ w = w' := (Tryd.strings_Count_one s 44 w).mono fun _ _ ⟨h1, h2⟩ => ⟨h1, h2.symm⟩
theorem split_of (s : ByteArray) (w : World) (m : Int) (hs : s.size ≤ 1048576) (hm : w.cell? ⟨1, 0, none⟩ = some (.int .i64 m)) :
    Calls Tryd.prog 57 #[.string s, .string ⟨#[44]⟩] w fun e w' => ∃ P : List ByteArray, bts P = parts s.data.toList ∧ e = .returned (.slice (some ⟨w.heap.size, 0, none⟩) P.length P.length) ∧ Txt w' w.heap.size P ∧ Below w.heap.size w w' := by
  refine (Tryd.strings_Split s ⟨#[44]⟩ m w (by omega) hm (Nat.le_refl _)).mono ?_
  rintro e w' ⟨rfl, rfl⟩
  have hP : bts (Lib.splitB ⟨#[44]⟩ 0 (Lib.countB s ⟨#[44]⟩) s) = parts s.data.toList := by
    unfold bts
    rw [Lib.splitB_data]
    exact splitK_parts _ _ (Nat.le_refl _)
  have hl : (Lib.splitB ⟨#[44]⟩ 0 (Lib.countB s ⟨#[44]⟩) s).length = Lib.countB s ⟨#[44]⟩ + 1 := by
    have h := congrArg List.length hP
    rw [parts_len, ← Lib.count_one] at h
    simpa [bts] using h
  refine ⟨_, hP, by rw [hl], ⟨_, blk_new w _ _ _ rfl, fun j hj => ?_⟩, (Below.refl _ _).alloc (Nat.le_refl _) _⟩
  simp [List.getD, List.getElem?_eq_getElem hj]

set_option maxRecDepth 100000 in
set_option maxHeartbeats 3200000 in
theorem splitItems_of (s : ByteArray) (w : World) (m : Int) (hs : s.size ≤ 1048576) (hm : w.cell? ⟨1, 0, none⟩ = some (.int .i64 m)) (htab : Tab w) (he : ∀ w', Below w.heap.size w w' → Errs w') :
    Calls Tryd.prog 45 #[.string s, .int .i64 64, .func (.func 15) #[] #[]] w (RlAns (rlZ s.data.toList) (rlOk s.data.toList) w) := by
  by_cases hn : s.data.toList = noneL
  · have hc : (s.toList == [110, 111, 110, 101]) = true := by rw [ByteArray.toList_eq, hn]; rfl
    obtain ⟨e1, e2⟩ := rl_none hn
    rw [e1, e2]
    clear hn htab he hm
    go_enter Tryd.func45, Tryd.ntmps45
    go_wp2
    go_ret2
    exact ⟨_, rfl, World.ownsRow_nil _ _ _ _, Below.refl _ _⟩
  · have hc : (s.toList == [110, 111, 110, 101]) = false := by rw [ByteArray.toList_eq]; simpa [noneL] using hn
    obtain ⟨i0, hi, hz0, hz1, hz2⟩ := info_parts i64info
    have HC := Lib.hid fun w => count_of s w
    have HSp := Lib.hid fun w hm => split_of s w m hs hm
    have HD := Lib.hid fun (t : ByteArray) w h1 (h2 : Tab w) h3 => readDecimal_of t w h1 h2 h3
    have HN := Lib.hid hn
    have hlen : s.data.toList.length = s.size := by simp
    have hPl := parts_len s.data.toList
    have hcl : s.data.toList.count 44 ≤ s.data.toList.length := List.count_le_length
    rw [hlen] at hcl
    have HL := Lib.hid hlen
    generalize s.data.toList.count 44 = cn at HC hPl hcl
    have HPl := Lib.hid hPl
    have HTab := Lib.hid htab
    have HE := Lib.hid he
    have HM := Lib.hid hm
    clear hn hlen hPl htab he hm
    by_cases hcn : 64 < cn + 1
    · obtain ⟨e1, e2⟩ := rl_long HN.out (by rw [HPl.out]; omega)
      rw [e1, e2]
      go_enter Tryd.func45, Tryd.ntmps45
      go_wp2_with (go_at_call 56; (with_reducible refine (HC.out _).mono ?_); rintro e w2 ⟨rfl, rfl⟩)
      go_ret2
      exact ⟨_, rfl, World.ownsRow_nil _ _ _ _, Below.refl _ _⟩
    · go_enter Tryd.func45, Tryd.ntmps45
      go_wp2_with (first | (go_at_call 56; (with_reducible refine (HC.out _).mono ?_); rintro e w2 ⟨rfl, rfl⟩) | (at_make; go_loud (refine wpList_make_own _ rfl _ _ 30 rfl w.heap.size 2 i0 (.int .i64 0) 1 Tryd.underlying30 hi hz0 hz1 .i64 .i64 _ (cn + 1) rfl rfl (by omega) (by rw [hz2]; omega) (by unfold maxLen; omega) (Nat.le_refl _) ?_); intro w1 hown hgrow; have HO := Lib.hid hown; have HB := Lib.hid (((Below.refl w.heap.size w).grown hgrow (Nat.le_refl _) (by simp) : Below w.heap.size w w1)); have HM1 := Lib.hid (show w1.cell? ⟨1, 0, none⟩ = some (.int .i64 m) by rw [HB.out.cell (p := ⟨1, 0, none⟩) (World.block_lt_of_cell? w _ HM.out)]; exact HM.out); clear hown hgrow) | (go_at_call 57; (with_reducible refine (HSp.out _ HM1.out).mono ?_); rintro e w3 ⟨P, hP, rfl, ht, hb3⟩; have HP := Lib.hid hP; have HT := Lib.hid ht; have HO3 := Lib.hid (own_below HO.out hb3 (Nat.le_refl _)); have HB3 := Lib.hid (below_next HB.out hb3); clear hP ht hb3))
      have hPn : P.length ≤ cn + 1 := by rw [← HPl.out, ← HP.out]; simp [bts]
      obtain ⟨bp, hbp⟩ : ∃ bp, bp = w1.heap.size := ⟨_, rfl⟩
      rw [← hbp] at HT ⊢
      go_loopw [9, 27] (fun v i wr => ∃ (W : World) (k b c : Nat), W = wr ∧ k ≤ P.length ∧ i = .int .i64 k ∧ v = .slice (some ⟨b, 0, none⟩) k c ∧ Hid (((bts P).take k).all rdOk = true) ∧
          wr.ownsRow w.heap.size 2 1 v k (fst P k) ∧ Txt wr bp P ∧ Below w.heap.size w wr) (fun _ i _ => P.length - (intOf i).toNat)
      case atStart => exact ⟨_, 0, w.heap.size, cn + 1, rfl, Nat.zero_le _, rfl, rfl, rfl, HO3.out, HT.out, HB3.out⟩
      case round =>
        clear HO HT HB HO3 HB3 HM1 hbp
        obtain ⟨W, k, b, c, rfl, hk, rfl, rfl, hA, hown, ht, hb⟩ := hrel
        by_cases hlt : k < P.length
        · have hx := ht.cell hlt
          have HV := Lib.hid (HD.out (P.getD k ⟨#[]⟩) W (by have := bts_le HP.out hlt; rw [HL.out] at this; omega) (HTab.out.below hb) (HE.out W hb))
          have HS := Lib.hid (fst_succ P k hlt)
          have HK := Lib.hid (ok_succ P k hlt)
          have HNo := Lib.hid (ok_no P k hlt)
          have HO := Lib.hid hown
          have HT := Lib.hid ht
          have HB := Lib.hid hb
          generalize P.getD k ⟨#[]⟩ = t at hx HV HS HK HNo
          clear hown ht hb
          unfold rdAns at HV
          generalize rdN t.data.toList = z at HV HS
          cases hok : rdOk t.data.toList
          · rw [hok] at HV HNo
            obtain ⟨e1, e2⟩ := rl_bad HN.out (by rw [← HP.out]; exact HNo.out rfl)
            have E1 := Lib.hid e1
            have E2 := Lib.hid e2
            clear e1 e2
            go_wp2_with (go_at_call 15; (with_reducible refine (HV.out).mono ?_); rintro e w4 ⟨rfl, hb3⟩; have HB3 := Lib.hid (below_next HB.out hb3); clear hb3)
            go_ret2
            exact ⟨_, congrArg (fun b => Ending.returned (.tuple #[.slice none 0 0, .bool b])) E1.out.symm, by rw [E2.out]; exact World.ownsRow_nil _ _ _ _, HB3.out⟩
          · rw [hok, if_pos rfl] at HV
            rw [hok] at HK
            go_wp2_with (first | (go_at_call 15; (with_reducible refine (HV.out).mono ?_); rintro e w4 ⟨rfl, hb3⟩; have HB3 := Lib.hid (below_next HB.out hb3); have HO3 := Lib.hid (own_below HO.out hb3 (Nat.le_refl _)); have HT3 := Lib.hid (HT.out.next hb3); have hsz3 := HB3.out.size; clear hb3) | (at_builtin; go_loud (refine wpList_append_own _ rfl _ _ 30 rfl w.heap.size 2 i0 (.int .i64 0) 1 8 Tryd.underlying30 hi hz0 hz1 hz2 rfl (by decide) (.slice (some ⟨b, 0, none⟩) k c) k (fst P k) rfl (HO3.out.alloc _) ⟨w4.heap.size, 0, none⟩ 1 1 [.int .i64 z] rfl rfl (cell_one_new _ _ _) (fun x hx => by simp at hx; subst hx; rfl) (by unfold maxLen; omega) (by omega) (by simp; omega) ?_); intro v' w5 hown' hgrow hnil; go_must (obtain ⟨b', c', rfl, hb', -⟩ := own_form1 hown' (by omega)); have HO1 := Lib.hid hown'; have HB1 := Lib.hid (below_app HB3.out HO3.out hgrow); have HT1 := Lib.hid (HT3.out.app HO3.out neIS hgrow); clear hown' hgrow hnil))
            go_roundw
            case rel =>
              refine ⟨_, k + 1, b', c', rfl, hlt, by go_num, rfl, ?_, ?_, HT1.out, HB1.out⟩
              · show _ = true
                rw [HK.out, hA.out]; rfl
              · rw [HS.out]; exact HO1.out
            case measure => simp [intOf]; omega
        · obtain rfl : k = P.length := by omega
          have e1 := rl_yes HN.out (by rw [HPl.out]; omega) (by rw [← HP.out]; have := hA.out; rwa [List.take_of_length_le (by simp [bts])] at this)
          have E1 := Lib.hid e1
          have hl : ((parts s.data.toList).map rdN).length = P.length := by rw [← HP.out]; simp [bts]
          rw [fst_all, HP.out] at hown
          clear e1
          go_wp2
          go_ret2
          exact ⟨_, congrArg (fun o => Ending.returned (.tuple #[.slice (some ⟨b, 0, none⟩) P.length c, .bool o])) E1.out.1.symm, by rw [E1.out.2, hl]; exact hown, hb⟩
end Go.Proofs.YtnfmfiomemcfdacDoor
