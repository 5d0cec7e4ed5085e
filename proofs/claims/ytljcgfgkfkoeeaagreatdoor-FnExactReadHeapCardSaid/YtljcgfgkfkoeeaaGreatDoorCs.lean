/- A text cut at a byte: the reference's side. -/
import Derived.Test.YtljcgfgkfkoeeaaGreatDoorCf
import Derived.Test.YtljcgfgkfkoeeaaGreatDoorBlk
namespace Go.Proofs.YtljcgfgkfkoeeaaGreatDoor
open Go.RowKit

set_option maxRecDepth 100000 in
set_option maxHeartbeats 1600000 in
theorem ccut_of (sep : UInt8) (z : Int) (s : ByteArray) (w : World) (hz : Hid (z = (sep.toNat : Int))) (hs : s.size ≤ 1048576) :
    Calls Tryz.prog 15 #[.string s, .int .u8 z] w fun e w' => ∃ (P : List ByteArray) (b c : Nat), bts P = cparts sep s.data.toList ∧ e = .returned (.slice (some ⟨b, 0, none⟩) P.length c) ∧
      w'.ownsRow w.heap.size 9 1 (.slice (some ⟨b, 0, none⟩) P.length c) P.length (sts P) ∧ Below w.heap.size w w' := by
  obtain ⟨i0, hi, hz0, hz1, hz2⟩ := info_parts sinfo
  have hlen : s.data.toList.length = s.size := by simp
  have HL := Lib.hid hlen
  clear hlen
  go_enter Tryz.func15, Tryz.ntmps15
  go_wp2
  go_loopw [5, 6, 7] (fun v fr i wr => ∃ (W : World) (k f : Nat) (P : List ByteArray) (b c : Nat), W = wr ∧ k ≤ s.size + 1 ∧ f ≤ k ∧ i = .int .i64 k ∧ fr = .int .i64 f ∧ v = .slice (some ⟨b, 0, none⟩) P.length c ∧
      P.length ≤ k ∧ Hid (if k ≤ s.size then cparts sep (s.data.toList.take k) = bts P ++ [(s.data.toList.take k).drop f] else cparts sep s.data.toList = bts P) ∧
      wr.ownsRow w.heap.size 9 1 v P.length (sts P) ∧ Below w.heap.size w wr) (fun _ _ i _ => s.size + 1 - (intOf i).toNat)
  case atStart =>
    exact ⟨_, 0, 0, [], w.heap.size, 0, rfl, by omega, Nat.le_refl _, rfl, rfl, rfl, Nat.le_refl _, by show ite _ _ _; rw [if_pos (Nat.zero_le _)]; rfl, own_nil1 w _ _ (Nat.le_refl _), (Below.refl _ _).alloc (Nat.le_refl _) _⟩
  case round =>
    obtain ⟨W, k, f, P, b, c, rfl, hk, hf, rfl, rfl, rfl, hpk, hP, hown, hb⟩ := hrel
    by_cases hend : k = s.size + 1
    · subst hend
      have hP2 := hP.out
      rw [if_neg (by omega)] at hP2
      go_wp2
      go_ret
      exact ⟨P, b, c, hP2.symm, rfl, hown, hb⟩
    · have hk1 : k ≤ s.size := by omega
      have HP0 := hP.out
      rw [if_pos hk1] at HP0
      have HP := Lib.hid HP0
      have HO := Lib.hid hown
      have HB := Lib.hid hb
      clear HP0 hP hown hb
      by_cases hlast : k = s.size
      · subst hlast
        have hsz := HB.out.size
        go_wp2_with (at_builtin; go_loud (refine wpList_append_own _ rfl _ _ 34 rfl w.heap.size 9 i0 (.string ⟨#[]⟩) 1 16 Tryz.underlying34 hi hz0 hz1 hz2 rfl (by decide) (.slice (some ⟨b, 0, none⟩) P.length c) P.length (sts P) rfl (HO.out.alloc _) ⟨W.heap.size, 0, none⟩ 1 1 [.string (s.extract f s.size)] rfl rfl (cell_one_new _ _ _) (fun x hx => by simp at hx; subst hx; rfl) (by unfold maxLen; omega) (by omega) (by simp; omega) ?_); intro v' w1 hown' hgrow hnil; go_must (obtain ⟨b', c', rfl, hb', -⟩ := own_form1 hown' (by omega)); have HO1 := Lib.hid hown'; have HB1 := Lib.hid (below_app HB.out HO.out hgrow); clear hown' hgrow hnil)
        go_roundw
        case rel =>
          refine ⟨_, s.size + 1, s.size + 1, P ++ [s.extract f s.size], b', c', rfl, Nat.le_refl _, Nat.le_refl _, by go_num, by go_num, by simp, by simp; omega, ?_, ?_, HB1.out⟩
          · show ite _ _ _
            rw [if_neg (by omega), bts_snoc, ext_bytes, ← HP.out, List.take_of_length_le (Nat.le_of_eq HL.out)]
          · rw [sts_snoc, List.length_append]; exact HO1.out
        case measure => simp [intOf]
      · have hlt : k < s.size := by omega
        have hsz := HB.out.size
        have HT := Lib.hid (take_snocB s k hlt)
        by_cases hc : (s[k].toNat : Int) = z
        · have hc' : ((s[k].toNat : Int) == z) = true := beq_iff_eq.2 hc
          have HC := Lib.hid (show s[k] = sep from UInt8.toNat_inj.1 (by have := hz.out; omega))
          clear hc
          go_wp2_with (at_builtin; go_loud (refine wpList_append_own _ rfl _ _ 34 rfl w.heap.size 9 i0 (.string ⟨#[]⟩) 1 16 Tryz.underlying34 hi hz0 hz1 hz2 rfl (by decide) (.slice (some ⟨b, 0, none⟩) P.length c) P.length (sts P) rfl (HO.out.alloc _) ⟨W.heap.size, 0, none⟩ 1 1 [.string (s.extract f k)] rfl rfl (cell_one_new _ _ _) (fun x hx => by simp at hx; subst hx; rfl) (by unfold maxLen; omega) (by omega) (by simp; omega) ?_); intro v' w1 hown' hgrow hnil; go_must (obtain ⟨b', c', rfl, hb', -⟩ := own_form1 hown' (by omega)); have HO1 := Lib.hid hown'; have HB1 := Lib.hid (below_app HB.out HO.out hgrow); clear hown' hgrow hnil)
          go_roundw
          case rel =>
            refine ⟨_, k + 1, k + 1, P ++ [s.extract f k], b', c', rfl, by omega, Nat.le_refl _, by go_num, by go_num, by simp, by simp; omega, ?_, ?_, HB1.out⟩
            · have hd : (s.data.toList.take k ++ [sep]).drop (k + 1) = [] := List.drop_eq_nil_of_le (by simp; omega)
              show ite _ _ _
              rw [if_pos (show k + 1 ≤ s.size from hlt), HT.out, HC.out, hd, cparts_close, bts_snoc, ext_bytes, HP.out]
            · rw [sts_snoc, List.length_append]; exact HO1.out
          case measure => simp [intOf]; omega
        · have hc' : ((s[k].toNat : Int) == z) = false := beq_eq_false_iff_ne.2 hc
          have HC := Lib.hid (show s[k] ≠ sep from fun e => hc (by rw [e]; exact hz.out.symm))
          clear hc
          go_wp2
          go_roundw
          case rel =>
            refine ⟨_, k + 1, f, P, b, c, rfl, by omega, by omega, by go_num, rfl, rfl, by omega, ?_, HO.out, HB.out⟩
            show ite _ _ _
            rw [if_pos (show k + 1 ≤ s.size from hlt), HT.out, cparts_more _ HC.out _ _ _ HP.out, List.drop_append_of_le_length (by simp; omega)]
          case measure => simp [intOf]; omega
theorem bts_getD (P : List ByteArray) (k : Nat) (h : k < P.length) : (bts P).getD k [] = (P.getD k ⟨#[]⟩).data.toList := by
  simp [bts, List.getD, List.getElem?_eq_getElem h]
end Go.Proofs.YtljcgfgkfkoeeaaGreatDoor
