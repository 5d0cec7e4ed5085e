/- Journals recovered: the program's side. -/
import Derived.Test.YtokllkngikcoiaaDoorRk
import Derived.Test.YtokllkngikcoiaaDoorJi
namespace Go.Proofs.YtokllkngikcoiaaDoor
open Go.RowKit

theorem rec_step (z : Int) (l : List UInt8) (hz : 0 ≤ z ∧ z ≤ 65002) :
    (Lib.hasPrefix l (jline z (xOf (Lib.cut l [10]).1)) = true ∧ ∃ rest, Lib.trimPrefix l (jline z (xOf (Lib.cut l [10]).1)) = rest ∧ rcv z (lns l) = xOf (Lib.cut l [10]).1 :: rcv (chk z (xOf (Lib.cut l [10]).1)) (lns rest) ∧
      rln z (lns l) + rest.length = l.length + rln (chk z (xOf (Lib.cut l [10]).1)) (lns rest) ∧ rest.length < l.length) ∨
    (Lib.hasPrefix l (jline z (xOf (Lib.cut l [10]).1)) = false ∧ rcv z (lns l) = [] ∧ rln z (lns l) = 0) := by
  rcases cut_one l 10 with ⟨i, h1, h2, h3⟩ | ⟨h1, h2⟩
  · rw [h3]
    have hl := take_drop_hit i l 10 h1
    have hi : i < l.length := (List.getElem?_eq_some_iff.1 h1).1
    have hrow := take_no i l h2
    have hg := hit_good z (l.take i) (l.drop (i + 1)) hz hrow
    rw [← hl] at hg
    rw [lns_hit i l h1 h2]
    cases h : good z (l.take i)
    · right
      have := rcv_no (L := lns (l.drop (i + 1))) h
      exact ⟨hg.1.trans h, this.1, this.2⟩
    · left
      have hy := rcv_yes (L := lns (l.drop (i + 1))) h
      refine ⟨hg.1.trans h, l.drop (i + 1), hg.2 h, hy.1, ?_, by simp; omega⟩
      show rln z (l.take i :: lns (l.drop (i + 1))) + _ = l.length + rln (chk z (xOf (l.take i))) _
      rw [hy.2]
      simp only [List.length_take, List.length_drop]
      omega
  · right
    rw [h2, lns_miss l h1]
    exact ⟨miss_good z l h1, rfl, rfl⟩
theorem ccut8_of (c : UInt8) (R : ByteArray) (w : World) (m : Int) (hs : R.size ≤ 1048576) (hm : w.cell? ⟨0, 0, none⟩ = some (.int .i64 m)) :
    Calls Tryd.prog 26 #[.string R, .string ⟨#[c]⟩] w fun e w' => e = .returned (.tuple #[.string ⟨(Lib.cut R.data.toList [c]).1.toArray⟩, .string ⟨(Lib.cut R.data.toList [c]).2.1.toArray⟩, .bool (Lib.cut R.data.toList [c]).2.2]) ∧ ∃ n, w' = w.drewN n :=
  Tryd.strings_Cut R ⟨#[c]⟩ m w (by omega) hm
theorem cut_le (l : List UInt8) (c : UInt8) : (Lib.cut l [c]).1.length ≤ l.length := by
  rcases cut_one l c with ⟨i, _, _, h3⟩ | ⟨_, h2⟩
  · rw [h3]; simp; omega
  · rw [h2]; exact Nat.le_refl _
set_option maxRecDepth 100000 in
set_option maxHeartbeats 6400000 in
theorem recover_of (s : ByteArray) (w : World) (m : Int) (hs : s.size ≤ 16000) (hm : w.cell? ⟨0, 0, none⟩ = some (.int .i64 m)) (htab : PowT w) :
    Calls Tryd.prog 14 #[.string s] w (RcAns (rcv 0 (lns s.data.toList)) (rln 0 (lns s.data.toList)) true w) := by
  obtain ⟨i0, hi, hz0', hz1', hz2⟩ := info_parts sinfo
  have hml := World.block_lt_of_cell? w _ hm
  have HM := Lib.hid hm
  have HTb := Lib.hid fun w' (h : Below w.heap.size w w') => htab.below h
  have hs' : ¬ 16000 < s.size := by omega
  obtain ⟨L, hL⟩ : ∃ L, L = lns s.data.toList := ⟨_, rfl⟩
  rw [← hL]
  have HL := Lib.hid hL
  clear hm htab hL
  go_enter Tryd.func14, Tryd.ntmps14
  go_wp2
  go_loopw [5, 6, 7] (fun ls ck rs wr => ∃ (W : World) (z : Int) (P : List ByteArray) (v : Value) (R : ByteArray), W = wr ∧ v = ls ∧ ck = .int .i64 z ∧ 0 ≤ z ∧ z ≤ 65002 ∧ rs = .string R ∧ P.length + R.size ≤ s.size ∧
      Hid (rcv 0 L = bts P ++ rcv z (lns R.data.toList)) ∧ Hid (rln 0 L + R.size = s.size + rln z (lns R.data.toList)) ∧ wr.ownsRow w.heap.size 9 1 v P.length (sts P) ∧ Below w.heap.size w wr) (fun _ _ rs _ => match rs with | .string R => R.size | _ => 0)
  case atStart => exact ⟨_, 0, [], _, s, rfl, rfl, rfl, by omega, by omega, rfl, by simp, by show _ = _; rw [HL.out]; simp [bts], by show _ = _; rw [HL.out]; omega, World.ownsRow_nil _ _ _ _, Below.refl _ _⟩
  case round =>
    obtain ⟨W, z, P, v, R, rfl, rfl, rfl, hz0, hz1, rfl, hPR, hR, hQ, hown, hb⟩ := hrel
    have HO := Lib.hid hown
    have HB := Lib.hid hb
    have hWs := hb.size
    have HMW := Lib.hid (show W.cell? ⟨0, 0, none⟩ = some (.int .i64 m) by rw [hb.cell (p := ⟨0, 0, none⟩) hml]; exact HM.out)
    clear hown hb
    have hRl : R.data.toList.length = R.size := by simp
    have hc1 := cut_le R.data.toList 10
    rw [hRl] at hc1
    have hst := rec_step z R.data.toList ⟨hz0, hz1⟩
    have HC1 := fun w hm => ccut8_of 10 R w m (by omega) hm
    obtain ⟨a, ha⟩ : ∃ a : ByteArray, a = ⟨(Lib.cut R.data.toList [10]).1.toArray⟩ := ⟨_, rfl⟩
    have ha2 : a.data.toList = (Lib.cut R.data.toList [10]).1 := by rw [ha]
    have has : a.size ≤ 16000 := by have : a.size = a.data.toList.length := by simp
                                    rw [this, ha2]; omega
    rw [← ha] at HC1
    generalize (Lib.cut R.data.toList [10]).2.1.toArray = q1 at HC1
    generalize (Lib.cut R.data.toList [10]).2.2 = q2 at HC1
    have HC2 := fun w hm => ccut8_of 32 a w m (by omega) hm
    rw [ha2, cut_x] at HC2
    obtain ⟨x, hx⟩ : ∃ x : ByteArray, x = ⟨(xOf (Lib.cut R.data.toList [10]).1).toArray⟩ := ⟨_, rfl⟩
    have hx2 : x.data.toList = xOf (Lib.cut R.data.toList [10]).1 := by rw [hx]
    rw [← hx] at HC2
    rw [← hx2] at hst
    have hxs : x.size ≤ 16000 := by
      have h1 : x.size = x.data.toList.length := by simp
      have h2 := xOf_len (Lib.cut R.data.toList [10]).1
      rw [h1, hx2]; omega
    generalize (Lib.cut (Lib.cut R.data.toList [10]).1 [32]).1.toArray = q3 at HC2
    generalize (Lib.cut (Lib.cut R.data.toList [10]).1 [32]).2.2 = q4 at HC2
    clear ha ha2 hx hx2 hc1 hRl
    have HC1' := Lib.hid HC1
    have HC2' := Lib.hid HC2
    have HJ := Lib.hid fun w ht => journalLine_of z x w ⟨hz0, hz1⟩ (by omega) ht
    have hcb := chk_bd z x.data.toList hz0 hz1
    clear HC1 HC2
    generalize chk z x.data.toList = y at hst HJ hcb
    have HPf := Lib.hid fun S w => (Tryd.strings_CutPrefix R S w).mono fun e w' (h : _ ∧ w' = w) => (⟨h.1, h.2.symm⟩ : _ ∧ w = w')
    rcases hst with ⟨hp, rest, ht, h1, h2, h3⟩ | ⟨hp, h1, h2⟩
    · obtain ⟨R2, hR2⟩ : ∃ R2 : ByteArray, R2 = ⟨rest.toArray⟩ := ⟨_, rfl⟩
      have hr2 : R2.data.toList = rest := by rw [hR2]
      have hr3 : R2.size = rest.length := by rw [← hr2]; simp
      rw [show R.data.toList.length = R.size by simp, ← hr3] at h2 h3
      rw [← hr2] at h1 h2
      have HR2 := Lib.hid (show rcv 0 L = (bts P ++ [x.data.toList]) ++ rcv y (lns R2.data.toList) by rw [hR.out, h1]; simp)
      have HQ2 := Lib.hid (show rln 0 L + R2.size = s.size + rln y (lns R2.data.toList) by have := hQ.out; omega)
      have HPn := Lib.hid hp
      have HTr := Lib.hid ht
      have HRe := Lib.hid hR2
      clear hp h1 h2 hR ht hr2 hr3 hR2
      go_wp2_with (go_at_call 26; ((with_reducible refine (HC1'.out _ HMW.out).mono ?_); rintro e w1 ⟨rfl, n1, rfl⟩; have HM1 := Lib.hid (show (W.drewN n1).cell? ⟨0, 0, none⟩ = some (.int .i64 m) from HMW.out)))
      go_wp2_with (go_at_call 26; ((with_reducible refine (HC2'.out _ HM1.out).mono ?_); rintro e w1 ⟨rfl, n2, rfl⟩; have HBd := Lib.hid (below_drewN HB.out (n1 + n2)); have HOd := Lib.hid (show (W.drewN (n1 + n2)).ownsRow w.heap.size 9 1 v P.length (sts P) from HO.out); have HTd := Lib.hid (HTb.out _ HBd.out)))
      go_wp2_with (go_at_call 21; ((with_reducible refine (HJ.out _ HTd.out).mono ?_); rintro e w3 ⟨S, hS, rfl, hb3⟩; have HS := Lib.hid hS; have HO3 := Lib.hid (own_below HOd.out hb3 (Nat.le_refl _)); have HB3 := Lib.hid (below_next HBd.out hb3); clear hS hb3))
      have HPf2 := HPf.out S w3
      rw [HS.out, HPn.out, HTr.out, ← HRe.out] at HPf2
      have HPf3 := Lib.hid HPf2
      clear HPf2 HPf
      have hWs3 := HB3.out.size
      go_wp2_with (first | (go_at_call 27; ((with_reducible refine (HPf3.out).mono ?_); rintro e w4 ⟨rfl, rfl⟩)) | (at_builtin; go_loud (refine wpList_append_own _ rfl _ _ 25 rfl w.heap.size 9 i0 (.string ⟨#[]⟩) 1 16 Tryd.underlying25 hi hz0' hz1' hz2 rfl (by decide) v P.length (sts P) rfl (HO3.out.alloc _) ⟨w3.heap.size, 0, none⟩ 1 1 [.string x] rfl rfl (cell_one_new _ _ _) (fun x hx => by simp at hx; subst hx; rfl) (by unfold maxLen; omega) (by omega) (by simp; omega) ?_); intro v' w5 hown' hgrow hnil; have HO4 := Lib.hid hown'; have HB4 := Lib.hid (below_app HB3.out HO3.out hgrow); clear hown' hgrow hnil))
      go_roundw
      case rel =>
        refine ⟨_, y, P ++ [x], v', R2, rfl, rfl, rfl, hcb.1, hcb.2, rfl, by simp; omega, ?_, HQ2.out, ?_, HB4.out⟩
        · show _ = _
          rw [HR2.out, bts_snoc]
        · rw [sts_snoc, List.length_append]; exact HO4.out
      case measure => exact h3
    · have HR2 := Lib.hid (show rcv 0 L = bts P by rw [hR.out, h1, List.append_nil])
      have HQ2 := Lib.hid (show rln 0 L = s.size - R.size by have := hQ.out; rw [h2] at this; omega)
      have HPn := Lib.hid hp
      clear hp h1 h2 hR
      go_wp2_with (go_at_call 26; ((with_reducible refine (HC1'.out _ HMW.out).mono ?_); rintro e w1 ⟨rfl, n1, rfl⟩; have HM1 := Lib.hid (show (W.drewN n1).cell? ⟨0, 0, none⟩ = some (.int .i64 m) from HMW.out)))
      go_wp2_with (go_at_call 26; ((with_reducible refine (HC2'.out _ HM1.out).mono ?_); rintro e w1 ⟨rfl, n2, rfl⟩; have HBd := Lib.hid (below_drewN HB.out (n1 + n2)); have HOd := Lib.hid (show (W.drewN (n1 + n2)).ownsRow w.heap.size 9 1 v P.length (sts P) from HO.out); have HTd := Lib.hid (HTb.out _ HBd.out)))
      go_wp2_with (go_at_call 21; ((with_reducible refine (HJ.out _ HTd.out).mono ?_); rintro e w3 ⟨S, hS, rfl, hb3⟩; have HS := Lib.hid hS; have HO3 := Lib.hid (own_below HOd.out hb3 (Nat.le_refl _)); have HB3 := Lib.hid (below_next HBd.out hb3); clear hS hb3))
      have HPf2 := HPf.out S w3
      rw [HS.out, HPn.out] at HPf2
      generalize (Lib.trimPrefix R.data.toList (jline z x.data.toList)).toArray = q5 at HPf2
      have HPf3 := Lib.hid HPf2
      clear HPf2 HPf
      go_wp2_with (go_at_call 27; ((with_reducible refine (HPf3.out).mono ?_); rintro e w4 ⟨rfl, rfl⟩))
      go_ret3
      exact ⟨v, P, by rw [HQ2.out]; go_num, HR2.out.symm, HO3.out, HB3.out⟩
end Go.Proofs.YtokllkngikcoiaaDoor
