/- Journals recovered: the reference's side. -/
import Derived.Test.YtokllkngikcoiaaDoorRj
import Derived.Test.YtokllkngikcoiaaDoorOu
import Derived.Deep.RegionWith
namespace Go.Proofs.YtokllkngikcoiaaDoor
open Go.RowKit

/-- what both sides give -/
def RcAns (L : List (List UInt8)) (q : Nat) (ok : Bool) (w : World) (e : Ending) (w' : World) : Prop := ∃ (v : Value) (P : List ByteArray), e = .returned (.tuple #[v, .int .i64 (q : Int), .bool ok]) ∧ bts P = L ∧ w'.ownsRow w.heap.size 9 1 v P.length (sts P) ∧ Below w.heap.size w w'
def RcIn (L : List (List UInt8)) (q : Nat) (w : World) (e : Ending) (w' : World) : Prop := ∃ (v : Value) (P : List ByteArray), e = .returned (.tuple #[v, .int .i64 (q : Int)]) ∧ bts P = L ∧ w'.ownsRow w.heap.size 9 1 v P.length (sts P) ∧ Below w.heap.size w w'
theorem drop_get {α : Type} (L : List α) (k : Nat) (d : α) (h : k < L.length) : L.drop k = L.getD k d :: L.drop (k + 1) := by
  rw [List.drop_eq_getElem_cons h]
  simp [List.getD, List.getElem?_eq_getElem h]
theorem byte_get (t : ByteArray) (j : Nat) (h : j < t.size) : t.data.toList[j]? = some t[j] := by
  rw [List.getElem?_eq_getElem (by simpa using h)]
  rfl
theorem ext_take (t : ByteArray) (j : Nat) : (t.extract 0 j).data.toList = t.data.toList.take j := by
  rw [ext_bytes]; simp
theorem ext_drop (t : ByteArray) (j : Nat) : (t.extract j t.size).data.toList = t.data.toList.drop j := by
  rw [ext_bytes, List.take_of_length_le (by simp)]
set_option maxRecDepth 100000 in
set_option maxHeartbeats 6400000 in
theorem l08Recover_of (s : ByteArray) (w : World) (hs : s.size ≤ 16000) :
    Calls Tryd.prog 25 #[.string s] w (RcIn (rcv 0 (lns s.data.toList)) (rln 0 (lns s.data.toList)) w) := by
  obtain ⟨i0, hi, hz0', hz1', hz2⟩ := info_parts sinfo
  have HC := Lib.hid fun w => l08Lines_of s w (by omega)
  have hll := lns_len s.data.toList
  rw [show s.data.toList.length = s.size by simp] at hll
  have HLL := Lib.hid hll
  have HLe := Lib.hid fun p h => cparts_le s.data.toList p h
  have HLn := Lib.hid (lns_eq s.data.toList)
  clear hll
  generalize hL : lns s.data.toList = L at HC HLL HLn ⊢
  clear hL
  go_enter Tryd.func25, Tryd.ntmps25
  go_wp2_with (go_at_call 17; (with_reducible refine (HC.out _).mono ?_); rintro e w2 ⟨A, q, b, c, hA, hq, rfl, ht, hbb, hb⟩; have HA := Lib.hid hA; have HT := Lib.hid ht; have HB := Lib.hid hb; clear hA hq ht hb hbb)
  go_loopw [6, 7, 8, 9, 10, 11] (fun out ck nn i _ _ wr => ∃ (W : World) (k p : Nat) (z : Int) (P : List ByteArray) (v : Value), W = wr ∧ k ≤ A.length ∧ i = .int .i64 k ∧ v = out ∧ ck = .int .i64 z ∧ 0 ≤ z ∧ z ≤ 65002 ∧ nn = .int .i64 p ∧ p ≤ 20000 * k ∧ P.length ≤ k ∧
      Hid (rcv 0 L = bts P ++ rcv z (L.drop k)) ∧ Hid (rln 0 L = p + rln z (L.drop k)) ∧ wr.ownsRow w2.heap.size 9 1 v P.length (sts P) ∧ Below w2.heap.size w2 wr) (fun _ _ _ i _ _ _ => A.length - (intOf i).toNat)
  case atStart => exact ⟨_, 0, 0, 0, [], _, rfl, Nat.zero_le _, rfl, rfl, rfl, by omega, by omega, rfl, by omega, Nat.le_refl _, by show _ = _; simp [bts], by show _ = _; simp, own_nil1 w2 _ _ (Nat.le_refl _), (Below.refl _ _).alloc (Nat.le_refl _) _⟩
  case round =>
    obtain ⟨W, k, p, z, P, v, rfl, hk, rfl, rfl, rfl, hz0, hz1, rfl, hp, hPk, hR, hQ, hown, hb⟩ := hrel
    have HR := Lib.hid hR
    have HO := Lib.hid hown
    have HBW := Lib.hid hb
    clear hown hb hR
    have hal : A.length = L.length := by rw [← HA.out]; simp [bts]
    have hal2 : A.length ≤ 16000 := by have := HLL.out; omega
    by_cases hlt : k < A.length
    · have hx := (HT.out.next HBW.out).cell hlt
      have hx2 := HT.out.cell hlt
      have hblt := World.block_lt_of_cell? w2 _ hx2
      have hgd := bts_getD A k hlt
      rw [HA.out] at hgd
      have hD := drop_get L k [] (by omega)
      have htl := HLe.out (L.getD k []) (by rw [HLn.out]; exact List.mem_append_left _ (by simp only [List.getD, List.getElem?_eq_getElem (show k < L.length by omega), Option.getD_some]; exact List.getElem_mem _))
      rw [hgd] at hD htl
      clear hgd hal
      generalize A.getD k ⟨#[]⟩ = t at hx hx2 hD htl
      have HX2 := Lib.hid hx2
      clear hx2
      have htl2 : t.size ≤ 16000 := by simp at htl; omega
      have HD := Lib.hid hD
      have hWs := HBW.out.size
      clear hD htl
      go_wp2
      go_loop [10] (fun cc => ∃ j : Nat, j ≤ t.size ∧ cc = .int .i64 j ∧ Hid (∀ i, i < j → t.data.toList[i]? ≠ some 32)) (fun cc => t.size - (intOf cc).toNat)
      case atStart => exact ⟨0, Nat.zero_le _, rfl, fun i hi => by omega⟩
      case round =>
        obtain ⟨j, hj, rfl, hnj⟩ := hrel
        by_cases hjt : j < t.size
        · have HG := Lib.hid (byte_get t j hjt)
          by_cases hc : t[j] = 32
          · rw [hc] at HG
            have hx1 := xOf_hit j t.data.toList HG.out hnj.out
            have hg := good_blank z t.data.toList j HG.out hnj.out
            have hc' : ((t[j].toNat : Int) == 32) = true := by rw [hc]; rfl
            have hc2 : ((t[j].toNat : Int) != 32) = false := by rw [hc]; rfl
            have hc3 : (t[j].toNat : Int) = 32 := by rw [hc]; rfl
            have hu := ext_drop t (j + 1)
            have hd0 := ext_take t j
            have hus : (t.extract (j + 1) t.size).size ≤ 16000 := by rw [ByteArray.size_extract]; omega
            rw [← hu] at hx1 hg
            rw [← hd0] at hg
            obtain ⟨u, hue⟩ : ∃ u, u = t.extract (j + 1) t.size := ⟨_, rfl⟩
            rw [← hue] at hx1 hg hus
            have hcb := chk_bd z u.data.toList hz0 hz1
            have HCk0 := fun w => l01Check_any z u w (by unfold maxLen; omega) hz0 hz1
            have hyes := rcv_yes (n := z) (r := t.data.toList) (L := L.drop (k + 1))
            have hno := rcv_no (n := z) (r := t.data.toList) (L := L.drop (k + 1))
            rw [hx1] at hyes
            clear hu hd0 hx1 hnj HG hc
            generalize hy : chk z u.data.toList = y at hcb HCk0 hg hyes
            have HUe := Lib.hid hue
            rw [hue] at HCk0
            have HCk := Lib.hid HCk0
            clear HCk0 hue
            obtain ⟨T, hT⟩ : ∃ T : ByteArray, T = ⟨(Lib.itoa y).toArray⟩ := ⟨_, rfl⟩
            have hT2 : T.data.toList = Lib.itoa y := by rw [hT]
            have HDc := fun w => l01Dec_of y w (by omega) (by omega)
            rw [← hT] at HDc
            have HDc' := Lib.hid HDc
            rw [← hT2] at hg
            clear HDc hT hT2 hy
            have hcl := World.block_lt_of_cell? W _ hx
            by_cases hgd : (t.extract 0 j) = T
            · rw [hgd, decide_eq_true rfl] at hg
              have h1 := hyes hg
              have HR2 := Lib.hid (show rcv 0 L = (bts P ++ [u.data.toList]) ++ rcv y (L.drop (k + 1)) by rw [HR.out, HD.out, h1.1]; simp)
              have HQ2 := Lib.hid (show rln 0 L = (p + (t.size + 1)) + rln y (L.drop (k + 1)) by rw [hQ.out, HD.out, h1.2, show t.data.toList.length = t.size by simp]; omega)
              have hgd2 : (t.extract 0 j).toList = T.toList := by rw [hgd]
              have hgd3 : ((t.extract 0 j).toList == T.toList) = true := beq_iff_eq.2 hgd2
              have hgd4 : ((t.extract 0 j).toList != T.toList) = false := by rw [bne, hgd3]; rfl
              have HGd := Lib.hid hgd2
              clear hg h1 hno hyes hgd hgd2
              go_wp2_with (go_at_call 32; ((with_reducible refine (HCk.out _).mono ?_); rintro e w3 ⟨rfl, rfl⟩))
              go_region_with (go_at_call 33; ((with_reducible refine (HDc'.out _).mono ?_); rintro e w3 ⟨rfl, hb1⟩; have hx3 : w3.cell? ⟨b, k, none⟩ = some (.string t) := ((hb1.cell (p := ⟨b, k, none⟩) hcl).trans hx); have HB3 := Lib.hid (below_next (below_drewN HBW.out 1) hb1); have HO3 := Lib.hid (own_below (w := W.drew) HO.out hb1 (Nat.le_refl _)); clear hb1))
              all_goals
                have hWs3 := HB3.out.size
                go_wp2_with (at_builtin; go_loud (refine wpList_append_own _ rfl _ _ 25 rfl w2.heap.size 9 i0 (.string ⟨#[]⟩) 1 16 Tryd.underlying25 hi hz0' hz1' hz2 rfl (by decide) v P.length (sts P) rfl (HO3.out.alloc _) ⟨w3.heap.size, 0, none⟩ 1 1 [.string (t.extract (j + 1) t.size)] rfl rfl (cell_one_new _ _ _) (fun x hx => by simp at hx; subst hx; rfl) (by unfold maxLen; omega) (by omega) (by simp; omega) ?_); intro v' w4 hown' hgrow hnil; have HO4 := Lib.hid hown'; have HB4 := Lib.hid (below_app HB3.out HO3.out hgrow); have hx4 : w4.cell? ⟨b, k, none⟩ = some (.string t) := ((HB4.out.cell (p := ⟨b, k, none⟩) hblt).trans HX2.out); clear hown' hgrow hnil)
                go_roundw
                case rel =>
                  refine ⟨_, k + 1, p + (t.size + 1), y, P ++ [t.extract (j + 1) t.size], v', rfl, hlt, by go_num, rfl, rfl, by omega, by omega, by go_num, by omega, by simp; omega, ?_, HQ2.out, ?_, HB4.out⟩
                  · show _ = _
                    rw [HR2.out, bts_snoc, HUe.out]
                  · rw [sts_snoc, List.length_append]; exact HO4.out
                case measure => simp [intOf]; omega
            · have hne : (t.extract 0 j).data.toList ≠ T.data.toList := fun e => hgd (ByteArray.ext (Array.toList_inj.1 e))
              rw [decide_eq_false hne] at hg
              have h1 := hno hg
              have HR2 := Lib.hid (show rcv 0 L = bts P by rw [HR.out, HD.out, h1.1, List.append_nil])
              have HQ2 := Lib.hid (show rln 0 L = p by rw [hQ.out, HD.out, h1.2, Nat.add_zero])
              have hne2 : ¬ (t.extract 0 j).toList = T.toList := by rw [ByteArray.toList_eq, ByteArray.toList_eq]; exact hne
              have hne3 : ((t.extract 0 j).toList == T.toList) = false := beq_eq_false_iff_ne.2 hne2
              have hne4 : ((t.extract 0 j).toList != T.toList) = true := by rw [bne, hne3]; rfl
              clear hg h1 hno hyes hgd hne
              go_wp2_with (go_at_call 32; ((with_reducible refine (HCk.out _).mono ?_); rintro e w3 ⟨rfl, rfl⟩))
              go_region_with (go_at_call 33; ((with_reducible refine (HDc'.out _).mono ?_); rintro e w3 ⟨rfl, hb1⟩; have hx3 : w3.cell? ⟨b, k, none⟩ = some (.string t) := ((hb1.cell (p := ⟨b, k, none⟩) hcl).trans hx); have HB3 := Lib.hid (below_next (below_drewN HBW.out 1) hb1); have HO3 := Lib.hid (own_below (w := W.drew) HO.out hb1 (Nat.le_refl _)); clear hb1))
              all_goals
                go_wp2
                go_ret2
                exact ⟨v, P, by rw [HQ2.out]; rfl, HR2.out.symm, own_from HO3.out HB.out.size, below_next HB.out HB3.out⟩
          · have HN := Lib.hid (show ∀ i, i < j + 1 → t.data.toList[i]? ≠ some 32 by
              intro i hi
              by_cases h : i = j
              · subst h; rw [HG.out]; simpa using hc
              · exact hnj.out i (by omega))
            have hc' : ((t[j].toNat : Int) == 32) = false := beq_eq_false_iff_ne.2 fun e => hc (UInt8.toNat_inj.1 (by have e' : (t[j].toNat : Int) = 32 := e; show t[j].toNat = 32; omega))
            have hc2 : ((t[j].toNat : Int) != 32) = true := by rw [bne, hc']; rfl
            clear hc HG hnj
            go_wp2
            go_round
            case rel => exact ⟨j + 1, by omega, by go_num, HN⟩
            case measure => simp [intOf]; omega
        · obtain rfl : j = t.size := by omega
          have hg := good_bare z t.data.toList (fun i hi => by
            by_cases h : i < t.size
            · exact hnj.out i h hi
            · rw [List.getElem?_eq_none (by simp; omega)] at hi; cases hi)
          have h1 := (rcv_no (L := L.drop (k + 1)) hg)
          have HR2 := Lib.hid (show rcv 0 L = bts P by rw [HR.out, HD.out, h1.1, List.append_nil])
          have HQ2 := Lib.hid (show rln 0 L = p by rw [hQ.out, HD.out, h1.2, Nat.add_zero])
          clear hg h1 hnj
          go_wp2
          go_ret2
          exact ⟨v, P, by rw [HQ2.out]; rfl, HR2.out.symm, own_from HO.out HB.out.size, below_next HB.out HBW.out⟩
    · obtain rfl : k = A.length := by omega
      have hd : L.drop A.length = [] := List.drop_eq_nil_of_le (by omega)
      have HR2 := Lib.hid (show rcv 0 L = bts P by rw [HR.out, hd]; simp [rcv])
      have HQ2 := Lib.hid (show rln 0 L = p by rw [hQ.out, hd]; simp [rln])
      clear hd hal
      go_wp2
      go_ret2
      exact ⟨v, P, by rw [HQ2.out]; rfl, HR2.out.symm, own_from HO.out HB.out.size, below_next HB.out HBW.out⟩
end Go.Proofs.YtokllkngikcoiaaDoor
