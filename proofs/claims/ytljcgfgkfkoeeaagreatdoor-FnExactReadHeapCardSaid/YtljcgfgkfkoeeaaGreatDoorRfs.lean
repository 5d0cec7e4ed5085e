/- Lists of numbers read: the reference's side. -/
import Derived.Test.YtljcgfgkfkoeeaaGreatDoorRfi
import Derived.Test.YtljcgfgkfkoeeaaGreatDoorNn
namespace Go.Proofs.YtljcgfgkfkoeeaaGreatDoor
open Go.RowKit Fl

set_option maxRecDepth 100000 in
set_option maxHeartbeats 3200000 in
theorem l01NRead_of (s : ByteArray) (w : World) (hs : s.size ≤ 1048576) :
    Calls Tryz.prog 26 #[.string s] w (FlAns (flZ s.data.toList) (flOk s.data.toList) w) := by
  by_cases hn : s.data.toList = noneL
  · have hc : (s.toList == [110, 111, 110, 101]) = true := by rw [ByteArray.toList_eq, hn]; rfl
    obtain ⟨e1, e2⟩ := fl_none hn
    rw [e1, e2]
    clear hn
    go_enter Tryz.func26, Tryz.ntmps26
    go_wp2
    go_ret2
    exact ⟨_, rfl, own_nil1 w _ _ (Nat.le_refl _), (Below.refl _ _).alloc (Nat.le_refl _) _⟩
  · have hc : (s.toList == [110, 111, 110, 101]) = false := by rw [ByteArray.toList_eq]; simpa [noneL] using hn
    obtain ⟨i0, hi, hz0, hz1, hz2⟩ := info_parts f32info
    have HC := Lib.hid fun w => l01Cut_of s w hs
    have HN := Lib.hid hn
    have hlen : s.data.toList.length = s.size := by simp
    have HL := Lib.hid hlen
    clear hn hlen
    go_enter Tryz.func26, Tryz.ntmps26
    go_wp2_with (go_at_call 15; (with_reducible refine (HC.out _).mono ?_); rintro e w2 ⟨P, bp, cp, hP, rfl, hown2, hb2⟩; have HP := Lib.hid hP; have HT := Lib.hid (txt_own hown2); have HO := Lib.hid (own_below (own_nil1 w 37 w.heap.size (Nat.le_refl _)) hb2 (Nat.le_refl _)); have HB := Lib.hid (below_next ((Below.refl w.heap.size w).alloc (Nat.le_refl _) (.cells #[] 37)) hb2); clear hP hown2 hb2)
    · rename_i hlong
      obtain ⟨e1, e2⟩ := fl_long HN.out (by rw [← HP.out]; simp [bts]; omega)
      rw [e1, e2]
      go_ret2
      exact ⟨_, rfl, World.ownsRow_nil _ _ _ _, HB.out⟩
    · rename_i hshort
      go_loopw [4, 6] (fun v i wr => ∃ (W : World) (k b c : Nat), W = wr ∧ k ≤ P.length ∧ i = .int .i64 k ∧ v = .slice (some ⟨b, 0, none⟩) k c ∧ Hid (((bts P).take k).all rnOk = true) ∧
          wr.ownsRow w.heap.size 37 1 v k (fsf P k) ∧ Txt wr bp P ∧ Below w.heap.size w wr) (fun _ i _ => P.length - (intOf i).toNat)
      case atStart => exact ⟨_, 0, w.heap.size, 0, rfl, Nat.zero_le _, rfl, rfl, rfl, HO.out, HT.out, HB.out⟩
      case round =>
        clear HO HT HB
        obtain ⟨W, k, b, c, rfl, hk, rfl, rfl, hA, hown, ht, hb⟩ := hrel
        by_cases hlt : k < P.length
        · have hx := ht.cell hlt
          have HSz := Lib.hid (show (P.getD k ⟨#[]⟩).size ≤ 1048576 by have := bts_le HP.out hlt; rw [HL.out] at this; omega)
          have HS := Lib.hid (fsf_succ P k hlt)
          have HK := Lib.hid (okf_succ P k hlt)
          have HNo := Lib.hid (okf_no P k hlt)
          have HO := Lib.hid hown
          have HT := Lib.hid ht
          have HB := Lib.hid hb
          generalize P.getD k ⟨#[]⟩ = t at hx HSz HS HK HNo
          clear hown ht hb
          by_cases h8 : t.size = 8
          · have HD := Lib.hid (show ∀ (q acc : Nat) (hq : q < t.size), hv acc (t.data.toList.drop q) = hv acc (t[q] :: t.data.toList.drop (q + 1)) from fun q acc hq => by
              rw [List.drop_eq_getElem_cons (by simpa using hq)]; rfl)
            have HR := Lib.hid (show hv 0 t.data.toList = none → rnOk t.data.toList = false from fun h => by unfold rnOk rn; rw [h]; split <;> rfl)
            have HY := Lib.hid (show ∀ acc, hv 0 t.data.toList = some acc → bitsN acc = acc → rn t.data.toList = some acc from fun acc h1 h2 => rn_mk (by simpa using h8) h1 h2)
            have HX := Lib.hid (show ∀ acc, hv 0 t.data.toList = some acc → bitsN acc ≠ acc → rnOk t.data.toList = false from fun acc h1 h2 => by
              unfold rnOk rn
              rw [h1]
              simp only [if_neg h2]
              split <;> rfl)
            have HBad := Lib.hid (show rnOk t.data.toList = false → flOk s.data.toList = false ∧ flZ s.data.toList = [] from fun h => fl_bad HN.out (by rw [← HP.out]; exact HNo.out h))
            have HE := Lib.hid (show t.data.toList.drop 8 = [] from List.drop_eq_nil_of_le (by simp [h8]))
            have H8 := Lib.hid h8
            have h8' : ((t.size : Int) == 8) = true := by rw [h8]; rfl
            clear h8
            go_wp2
            go_loop [7, 8] (fun vn vk => ∃ (q acc : Nat) (a : Int), vk = .int .i64 q ∧ vn = .int .i64 a ∧ q ≤ 8 ∧ Hid (a = (acc : Int) ∧ acc < 16 ^ q ∧ hv 0 t.data.toList = hv acc (t.data.toList.drop q))) (fun _ vk => 8 - (intOf vk).toNat)
            case atStart => exact ⟨0, 0, 0, rfl, rfl, by omega, rfl, by decide, rfl⟩
            case round =>
              obtain ⟨q, acc, a, rfl, rfl, hq, hh⟩ := hrel
              obtain ⟨ha, hacc, hhv⟩ := hh.out
              clear hh
              by_cases hq8 : q < 8
              · have hqt : q < t.size := by rw [H8.out]; exact hq8
                have hp7 : (16 : Nat) ^ q ≤ 16 ^ 7 := Nat.pow_le_pow_right (by decide) (by omega)
                have e7 : (16 : Nat) ^ 7 = 268435456 := by decide
                have a0 : 0 ≤ a := by omega
                have a1 : a < 268435456 := by omega
                rw [HD.out q acc hqt] at hhv
                have hc256 : t[q].toNat < 256 := t[q].toNat_lt
                have hdv : dv8 t[q] = if 48 ≤ t[q].toNat ∧ t[q].toNat ≤ 57 then some (t[q].toNat - 48) else if 97 ≤ t[q].toNat ∧ t[q].toNat ≤ 102 then some (t[q].toNat - 87) else none := rfl
                clear hp7 e7
                cases hd : dv8 t[q] with
                | none =>
                  rw [hv_stop hd] at hhv
                  obtain ⟨e1, e2⟩ := HBad.out (HR.out hhv)
                  have E1 := Lib.hid e1
                  have E2 := Lib.hid e2
                  rw [hd] at hdv
                  by_cases hdig : 48 ≤ t[q].toNat ∧ t[q].toNat ≤ 57
                  · rw [if_pos hdig] at hdv; cases hdv
                  · rw [if_neg hdig] at hdv
                    by_cases hlet : 97 ≤ t[q].toNat ∧ t[q].toNat ≤ 102
                    · rw [if_pos hlet] at hdv; cases hdv
                    · clear hdv e1 e2 hhv hd ha hacc
                      go_wp2
                      all_goals go_ret2
                      all_goals exact ⟨_, congrArg (fun b => Ending.returned (.tuple #[.slice none 0 0, .bool b])) E1.out.symm, by rw [E2.out]; exact World.ownsRow_nil _ _ _ _, HB.out⟩
                | some d =>
                  rw [hv_step hd] at hhv
                  have h16 := (dv8_some hd).2.1
                  have hb2 : 16 * acc + d < 16 ^ (q + 1) := by rw [Nat.pow_succ]; omega
                  rw [hd] at hdv
                  by_cases hdig : 48 ≤ t[q].toNat ∧ t[q].toNat ≤ 57
                  · rw [if_pos hdig] at hdv
                    have hd2 := Option.some.inj hdv
                    have HV := Lib.hid (show 16 * a + ((t[q].toNat : Int) - 48) = ((16 * acc + d : Nat) : Int) ∧ 16 * acc + d < 16 ^ (q + 1) ∧ hv 0 t.data.toList = hv (16 * acc + d) (t.data.toList.drop (q + 1)) from ⟨by omega, hb2, hhv⟩)
                    obtain ⟨hd0, hd1⟩ := hdig
                    clear hdv hd2 hhv hd ha hacc hb2 h16
                    go_wp2
                    go_round
                    case rel => exact ⟨_, _, _, _, ⟨q + 1, by go_num, 16 * acc + d, _, rfl, hq8, HV.out⟩, rfl, rfl, rfl, rfl⟩
                    case measure => simp [intOf]; omega
                  · rw [if_neg hdig] at hdv
                    by_cases hlet : 97 ≤ t[q].toNat ∧ t[q].toNat ≤ 102
                    · rw [if_pos hlet] at hdv
                      have hd2 := Option.some.inj hdv
                      have HV := Lib.hid (show 16 * a + ((t[q].toNat : Int) - 97 + 10) = ((16 * acc + d : Nat) : Int) ∧ 16 * acc + d < 16 ^ (q + 1) ∧ hv 0 t.data.toList = hv (16 * acc + d) (t.data.toList.drop (q + 1)) from ⟨by omega, hb2, hhv⟩)
                      obtain ⟨hd0, hd1⟩ := hlet
                      clear hdv hd2 hhv hd ha hacc hb2 h16
                      go_wp2
                      go_round
                      case rel => exact ⟨_, _, _, _, ⟨q + 1, by go_num, 16 * acc + d, _, rfl, hq8, HV.out⟩, rfl, rfl, rfl, rfl⟩
                      case measure => simp [intOf]; omega
                    · rw [if_neg hlet] at hdv; cases hdv
              · obtain rfl : q = 8 := by omega
                have e8 : (16 : Nat) ^ 8 = 4294967296 := by decide
                rw [e8] at hacc
                subst ha
                have hsome : hv 0 t.data.toList = some acc := by rw [hhv, HE.out]; rfl
                have HF := Lib.hid fun w => l01From_any acc w hacc
                have hbb := fun w => l01Bits_any acc w hacc
                rw [bitsN_eq] at hbb
                by_cases hbit : bitsN acc = acc
                · have hrn := HY.out acc hsome hbit
                  have hok : rnOk t.data.toList = true := by unfold rnOk; rw [hrn]; rfl
                  have hz : rnN t.data.toList = acc := by unfold rnN; rw [hrn]; rfl
                  rw [hok] at HK
                  rw [hz] at HS
                  rw [hbit] at hbb
                  have HBt := Lib.hid hbb
                  have hsz3 := HB.out.size
                  clear hsome hbit hrn hok hz hbb hhv e8
                  go_wp2_with (first | (go_at_call 41; (with_reducible refine (HF.out _).mono ?_); rintro e w' ⟨rfl, rfl⟩) | (go_at_call 42; (with_reducible refine (HBt.out _).mono ?_); rintro e w' ⟨rfl, rfl⟩) | (at_builtin; go_loud (refine wpList_append_own _ rfl _ _ 57 rfl w.heap.size 37 i0 (.float .f32 0) 1 4 Tryz.underlying57 hi hz0 hz1 hz2 rfl (by decide) (.slice (some ⟨b, 0, none⟩) k c) k (fsf P k) rfl (HO.out.alloc _) ⟨W.heap.size, 0, none⟩ 1 1 [.float .f32 acc] rfl rfl (cell_one_new _ _ _) (fun x hx => by simp at hx; subst hx; rfl) (by unfold maxLen; omega) (by omega) (by simp; omega) ?_); intro v' w1 hown' hgrow hnil; go_must (obtain ⟨b', c', rfl, hb', -⟩ := own_form1 hown' (by omega)); have HO1 := Lib.hid hown'; have HB1 := Lib.hid (below_app HB.out HO.out hgrow); have HT1 := Lib.hid (HT.out.app HO.out neFS hgrow); clear hown' hgrow hnil))
                  go_roundw
                  case rel =>
                    refine ⟨_, k + 1, b', c', rfl, hlt, by go_num, rfl, ?_, ?_, HT1.out, HB1.out⟩
                    · show _ = true
                      rw [HK.out, hA.out]; rfl
                    · rw [HS.out]; exact HO1.out
                  case measure => simp [intOf]; omega
                · obtain ⟨e1, e2⟩ := HBad.out (HX.out acc hsome hbit)
                  have E1 := Lib.hid e1
                  have E2 := Lib.hid e2
                  have HBt := Lib.hid hbb
                  have hne : ((bitsN acc : Int) == (acc : Int)) = false := beq_eq_false_iff_ne.2 (by omega)
                  have hne2 : ¬ (bitsN acc : Int) = (acc : Int) := by omega
                  clear e1 e2 hbb hsome hhv e8 hbit
                  go_wp2_with (first | (go_at_call 41; (with_reducible refine (HF.out _).mono ?_); rintro e w' ⟨rfl, rfl⟩) | (go_at_call 42; (with_reducible refine (HBt.out _).mono ?_); rintro e w' ⟨rfl, rfl⟩))
                  go_ret2
                  exact ⟨_, congrArg (fun b => Ending.returned (.tuple #[.slice none 0 0, .bool b])) E1.out.symm, by rw [E2.out]; exact World.ownsRow_nil _ _ _ _, HB.out⟩
          · have hbad : rnOk t.data.toList = false := by unfold rnOk rn; rw [if_neg (by simpa using h8)]; rfl
            obtain ⟨e1, e2⟩ := fl_bad HN.out (by rw [← HP.out]; exact HNo.out hbad)
            have E1 := Lib.hid e1
            have E2 := Lib.hid e2
            have h8' : ((t.size : Int) == 8) = false := beq_eq_false_iff_ne.2 (by omega)
            clear e1 e2 hbad
            go_wp2
            go_ret2
            exact ⟨_, congrArg (fun b => Ending.returned (.tuple #[.slice none 0 0, .bool b])) E1.out.symm, by rw [E2.out]; exact World.ownsRow_nil _ _ _ _, HB.out⟩
        · obtain rfl : k = P.length := by omega
          have e1 := fl_yes HN.out (by rw [← HP.out]; simp [bts]; omega) (by rw [← HP.out]; have := hA.out; rwa [List.take_of_length_le (by simp [bts])] at this)
          have E1 := Lib.hid e1
          have hl : ((parts s.data.toList).map rnN).length = P.length := by rw [← HP.out]; simp [bts]
          rw [fsf_all, HP.out] at hown
          clear e1
          go_wp2
          go_ret2
          exact ⟨_, congrArg (fun o => Ending.returned (.tuple #[.slice (some ⟨b, 0, none⟩) P.length c, .bool o])) E1.out.1.symm, by rw [E1.out.2, hl]; exact hown, hb⟩
end Go.Proofs.YtljcgfgkfkoeeaaGreatDoor
