/- Lists of complex numbers read: the reference's side. -/
import Derived.Test.YtljcgfgkfkoeeaaGreatDoorCri
namespace Go.Proofs.YtljcgfgkfkoeeaaGreatDoor
open Go.RowKit Fl

set_option maxRecDepth 100000 in
set_option maxHeartbeats 3200000 in
theorem l01CRead_of (s : ByteArray) (w : World) (hs : s.size ≤ 1048576) :
    Calls Tryz.prog 25 #[.string s] w (ClAns (clZ s.data.toList) (clOk s.data.toList) w) := by
  by_cases hn : s.data.toList = noneL
  · have hc : (s.toList == [110, 111, 110, 101]) = true := by rw [ByteArray.toList_eq, hn]; rfl
    obtain ⟨e1, e2⟩ := cl_none hn
    rw [e1, e2]
    clear hn
    go_enter Tryz.func25, Tryz.ntmps25
    go_wp2
    go_ret2
    exact ⟨_, rfl, own_nil1 w _ _ (Nat.le_refl _), (Below.refl _ _).alloc (Nat.le_refl _) _⟩
  · have hc : (s.toList == [110, 111, 110, 101]) = false := by rw [ByteArray.toList_eq]; simpa [noneL] using hn
    obtain ⟨i0, hi, hz0, hz1, hz2⟩ := info_parts c64info
    have HC := Lib.hid fun w => l01Cut_of s w hs
    have HN := Lib.hid hn
    have hlen : s.data.toList.length = s.size := by simp
    have HL := Lib.hid hlen
    clear hn hlen
    go_enter Tryz.func25, Tryz.ntmps25
    go_wp2_with (go_at_call 15; (with_reducible refine (HC.out _).mono ?_); rintro e w2 ⟨P, bp, cp, hP, rfl, hown2, hb2⟩; have HP := Lib.hid hP; have HT := Lib.hid (txt_own hown2); have HO := Lib.hid (own_below (own_nil1 w 36 w.heap.size (Nat.le_refl _)) hb2 (Nat.le_refl _)); have HB := Lib.hid (below_next ((Below.refl w.heap.size w).alloc (Nat.le_refl _) (.cells #[] 36)) hb2); clear hP hown2 hb2)
    · rename_i hlong
      obtain ⟨e1, e2⟩ := cl_long HN.out (by rw [← HP.out]; simp [bts]; omega)
      rw [e1, e2]
      go_ret2
      exact ⟨_, rfl, World.ownsRow_nil _ _ _ _, HB.out⟩
    · rename_i hshort
      go_loopw [4, 6] (fun v i wr => ∃ (W : World) (k b c : Nat), W = wr ∧ k ≤ P.length ∧ i = .int .i64 k ∧ v = .slice (some ⟨b, 0, none⟩) k c ∧ Hid (((bts P).take k).all rcOk = true) ∧
          wr.ownsRow w.heap.size 36 1 v k (csf P k) ∧ Txt wr bp P ∧ Below w.heap.size w wr) (fun _ i _ => P.length - (intOf i).toNat)
      case atStart => exact ⟨_, 0, w.heap.size, 0, rfl, Nat.zero_le _, rfl, rfl, rfl, HO.out, HT.out, HB.out⟩
      case round =>
        clear HO HT HB
        obtain ⟨W, k, b, c, rfl, hk, rfl, rfl, hA, hown, ht, hb⟩ := hrel
        by_cases hlt : k < P.length
        · have hx := ht.cell hlt
          have HSz := Lib.hid (show (P.getD k ⟨#[]⟩).size ≤ 1048576 by have := bts_le HP.out hlt; rw [HL.out] at this; omega)
          have HS := Lib.hid (csf_succ P k hlt)
          have HK := Lib.hid (okc_succ P k hlt)
          have HNo := Lib.hid (okc_no P k hlt)
          have HO := Lib.hid hown
          have HT := Lib.hid ht
          have HB := Lib.hid hb
          generalize P.getD k ⟨#[]⟩ = t at hx HSz HS HK HNo
          clear hown ht hb
          have HBad := Lib.hid (show rcOk t.data.toList = false → clOk s.data.toList = false ∧ clZ s.data.toList = [] from fun h => cl_bad HN.out (by rw [← HP.out]; exact HNo.out h))
          by_cases h16 : t.size = 16
          · have hL : t.data.toList.length = 16 := by simpa using h16
            have HR := Lib.hid (rc_of hL)
            have e1 : (t.extract 0 8).data.toList = t.data.toList.take 8 := by rw [ext_bytes]; rfl
            have e2 : (t.extract 8 t.size).data.toList = t.data.toList.drop 8 := by rw [ext_bytes, List.take_of_length_le (by simp)]
            have HX := fun w' => l01Digits_of (t.extract 0 8) w' (by rw [ByteArray.size_extract]; omega)
            have HY := fun w' => l01Digits_of (t.extract 8 t.size) w' (by rw [ByteArray.size_extract]; omega)
            rw [e1] at HX
            rw [e2] at HY
            generalize rn (t.data.toList.take 8) = ra at HX HR
            generalize rn (t.data.toList.drop 8) = rb at HY HR
            have h8 : (8 : Int) ≤ t.size := by omega
            have hc : ((t.size : Int) == 16) = true := by rw [h16]; rfl
            have hc' : ((t.size : Int) != 16) = false := by rw [h16]; rfl
            clear h16 hL e1 e2
            rcases ra with _ | za
            · obtain ⟨e1, e2⟩ := HBad.out (by unfold rcOk; rw [HR.out]; rfl)
              have E1 := Lib.hid e1
              have E2 := Lib.hid e2
              unfold rnEnd at HX HY
              have HX' := Lib.hid HX
              have HY' := Lib.hid HY
              clear e1 e2 HX HY HR
              rcases rb with _ | zb
              all_goals
                go_wp2_with (first | (go_at_call 40; (with_reducible refine (HX'.out _).mono ?_); rintro e w' ⟨rfl, rfl⟩) | (go_at_call 40; (with_reducible refine (HY'.out _).mono ?_); rintro e w' ⟨rfl, rfl⟩))
                go_ret2
                exact ⟨_, congrArg (fun b => Ending.returned (.tuple #[.slice none 0 0, .bool b])) E1.out.symm, by rw [E2.out]; exact World.ownsRow_nil _ _ _ _, HB.out⟩
            · rcases rb with _ | zb
              · obtain ⟨e1, e2⟩ := HBad.out (by unfold rcOk; rw [HR.out]; rfl)
                have E1 := Lib.hid e1
                have E2 := Lib.hid e2
                unfold rnEnd at HX HY
                have HX' := Lib.hid HX
                have HY' := Lib.hid HY
                clear e1 e2 HX HY HR
                go_wp2_with (first | (go_at_call 40; (with_reducible refine (HX'.out _).mono ?_); rintro e w' ⟨rfl, rfl⟩) | (go_at_call 40; (with_reducible refine (HY'.out _).mono ?_); rintro e w' ⟨rfl, rfl⟩))
                go_ret2
                exact ⟨_, congrArg (fun b => Ending.returned (.tuple #[.slice none 0 0, .bool b])) E1.out.symm, by rw [E2.out]; exact World.ownsRow_nil _ _ _ _, HB.out⟩
              · have hrn : rc t.data.toList = some (za, zb) := HR.out
                have hok : rcOk t.data.toList = true := by unfold rcOk; rw [hrn]; rfl
                have hz : rcN t.data.toList = (za, zb) := by unfold rcN; rw [hrn]; rfl
                rw [hok] at HK
                rw [hz] at HS
                unfold rnEnd at HX HY
                have HX' := Lib.hid HX
                have HY' := Lib.hid HY
                have hsz3 := HB.out.size
                clear HX HY HR hrn hok hz
                go_wp2_with (first | (go_at_call 40; (with_reducible refine (HX'.out _).mono ?_); rintro e w' ⟨rfl, rfl⟩) | (go_at_call 40; (with_reducible refine (HY'.out _).mono ?_); rintro e w' ⟨rfl, rfl⟩) | (at_builtin; go_loud (refine wpList_append_own _ rfl _ _ 54 rfl w.heap.size 36 i0 (.complex .f32 0 0) 1 8 Tryz.underlying54 hi hz0 hz1 hz2 rfl (by decide) (.slice (some ⟨b, 0, none⟩) k c) k (csf P k) rfl (HO.out.alloc _) ⟨W.heap.size, 0, none⟩ 1 1 [.complex .f32 za zb] rfl rfl (cell_one_new _ _ _) (fun x hx => by simp at hx; subst hx; rfl) (by unfold maxLen; omega) (by omega) (by simp; omega) ?_); intro v' w1 hown' hgrow hnil; go_must (obtain ⟨b', c', rfl, hb', -⟩ := own_form1 hown' (by omega)); have HO1 := Lib.hid hown'; have HB1 := Lib.hid (below_app HB.out HO.out hgrow); have HT1 := Lib.hid (HT.out.app HO.out neCS hgrow); clear hown' hgrow hnil))
                go_roundw
                case rel =>
                  refine ⟨_, k + 1, b', c', rfl, hlt, by go_num, rfl, ?_, ?_, HT1.out, HB1.out⟩
                  · show _ = true
                    rw [HK.out, hA.out]; rfl
                  · rw [HS.out]; exact HO1.out
                case measure => simp [intOf]; omega
          · obtain ⟨e1, e2⟩ := HBad.out (by unfold rcOk; rw [rc_no (by simpa using h16)]; rfl)
            have E1 := Lib.hid e1
            have E2 := Lib.hid e2
            have h16' : ((t.size : Int) == 16) = false := beq_eq_false_iff_ne.2 (by omega)
            have h16'' : ((t.size : Int) != 16) = true := by simpa using h16'
            clear e1 e2
            go_wp2
            go_ret2
            exact ⟨_, congrArg (fun b => Ending.returned (.tuple #[.slice none 0 0, .bool b])) E1.out.symm, by rw [E2.out]; exact World.ownsRow_nil _ _ _ _, HB.out⟩
        · obtain rfl : k = P.length := by omega
          have e1 := cl_yes HN.out (by rw [← HP.out]; simp [bts]; omega) (by rw [← HP.out]; have := hA.out; rwa [List.take_of_length_le (by simp [bts])] at this)
          have E1 := Lib.hid e1
          have hl : ((parts s.data.toList).map rcN).length = P.length := by rw [← HP.out]; simp [bts]
          rw [csf_all, HP.out] at hown
          clear e1
          go_wp2
          go_ret2
          exact ⟨_, congrArg (fun o => Ending.returned (.tuple #[.slice (some ⟨b, 0, none⟩) P.length c, .bool o])) E1.out.1.symm, by rw [E1.out.2, hl]; exact hown, hb⟩
end Go.Proofs.YtljcgfgkfkoeeaaGreatDoor
