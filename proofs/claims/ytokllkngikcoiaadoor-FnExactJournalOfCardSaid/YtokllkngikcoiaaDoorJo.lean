/- The journal of lines: the program's JournalOf. -/
import Derived.Test.YtokllkngikcoiaaDoorJi
namespace Go.Proofs.YtokllkngikcoiaaDoor
open Go.RowKit

theorem bts_len' (P : List ByteArray) : (bts P).length = P.length := by simp [bts]
theorem wsize {S : ByteArray} {l : List UInt8} (h : S.data.toList = l) : S.size = l.length := by rw [← h]; simp
theorem wfit {J l : List UInt8} {S t : ByteArray} (h : S.size = l.length) (h1 : J.length ≤ 16000) (h2 : l.length ≤ t.size + 19) (h3 : t.size ≤ 1048576) : (Lib.byteCells J).length + S.size ≤ 140737488355328 := by
  rw [Lib.byteCells_length]; omega
theorem wcells {J l q : List UInt8} {S : ByteArray} (h : S.data.toList = l) (hq : q = J ++ l) : Lib.byteCells J ++ Lib.strCells S = Lib.byteCells q := by
  subst h; subst hq
  unfold Lib.byteCells Lib.strCells
  rw [List.map_append]
set_option maxRecDepth 100000 in
set_option maxHeartbeats 3200000 in
theorem journalOf_of (ao : Option Addr) (n c : Nat) (zs : List ByteArray) (w : World) (hr : SRow w ao n zs) (hn : n ≤ 1048576) (hz : ∀ k, (zs.getD k ⟨#[]⟩).size ≤ 1048576) (htab : PowT w) :
    Calls Tryd.prog 11 #[.slice ao n c] w fun e w' => e = jAns (bts zs) ∧ Below w.heap.size w w' := by
  have HL := Lib.hid hr.len
  have HR := Lib.hid hr
  have HZ := Lib.hid hz
  have HTb := Lib.hid fun w' (h : Below w.heap.size w w') => htab.below h
  have HBd := Lib.hid fun k => jchk_bd 0 ((bts zs).take k) (by omega)
  have HF := Lib.hid (Lib.fresh_isBuilder 42 5 w)
  clear hr hz htab
  go_enter Tryd.func11, Tryd.ntmps11
  go_wp2
  go_loopw [5, 11] (fun v i wr => ∃ (W : World) (k : Nat), W = wr ∧ k ≤ n ∧ i = .int .i64 k ∧ v = .int .i64 (jchk 0 ((bts zs).take k)) ∧ Hid (((bts zs).take k).all noNl = true) ∧ (jour 0 ((bts zs).take k)).length ≤ 16000 ∧
      Lib.IsBuilder 42 5 w.heap.size w.heap.size (Lib.byteCells (jour 0 ((bts zs).take k))) wr ∧ Below w.heap.size w wr) (fun _ i _ => n - (intOf i).toNat)
  case atStart => exact ⟨_, 0, rfl, by omega, rfl, rfl, rfl, Nat.zero_le _, HF.out, (Below.refl _ _).alloc (Nat.le_refl _) _⟩
  case round =>
    clear HF
    obtain ⟨W, k, rfl, hk, rfl, rfl, hal, hle, hB, hb⟩ := hrel
    have HIs := Lib.hid hB
    have HB := Lib.hid hb
    clear hB hb
    by_cases hlt : k < n
    · obtain ⟨a, rfl⟩ := HR.out.addr (by omega)
      have hx := (HR.out.below HB.out (Nat.le_refl _)).cell a rfl k hlt
      have hzk := HZ.out k
      have hgd := bts_getD zs k (by rw [HL.out]; exact hlt)
      have hkb : k < (bts zs).length := by rw [bts_len', HL.out]; exact hlt
      have HNs := Lib.hid (nl_succ (bts zs) k hkb)
      have HNo := Lib.hid (j_nl hkb)
      have HLe := Lib.hid (j_long (L := bts zs) (k := k + 1))
      have hS1 := jour_snoc 0 ((bts zs).take k) ((bts zs).getD k [])
      have hS2 := jchk_snoc 0 ((bts zs).take k) ((bts zs).getD k [])
      rw [← take_get (bts zs) k [] hkb, hgd] at hS1 hS2
      rw [hgd] at HNs HNo
      have hbd := HBd.out k
      clear hgd hkb
      generalize zs.getD k ⟨#[]⟩ = t at hx hzk hS1 hS2 HNs HNo
      have HCo := Lib.hid fun w => (Tryd.strings_Contains_one t 10 w).mono fun e w' (h : _ ∧ w' = w) => (⟨h.1, h.2.symm⟩ : _ ∧ w = w')
      rw [nl_index t] at HCo
      generalize hv : jchk 0 ((bts zs).take k) = v at hbd hS1 hS2 ⊢
      generalize hJ : jour 0 ((bts zs).take k) = J at hle HIs hS1
      have HJ := Lib.hid hJ
      have HV := Lib.hid hv
      have HS1 := Lib.hid hS1
      have HS2 := Lib.hid hS2
      clear hJ hv hS1 hS2
      cases hnl : noNl t.data.toList
      · have HA := Lib.hid (j_no (HNo.out hnl))
        rw [hnl] at HCo
        clear hnl HNo HNs HLe
        go_wp2_with (go_at_call 20; ((with_reducible refine (HCo.out _).mono ?_); rintro e w1 ⟨rfl, rfl⟩))
        go_ret2
        exact ⟨HA.out.symm, HB.out⟩
      · have HT := Lib.hid (show ((bts zs).take (k + 1)).all noNl = true by rw [HNs.out, hal.out, hnl]; rfl)
        rw [hnl] at HCo
        have HLi := Lib.hid (journalLine_of v t W hbd hzk (HTb.out W HB.out))
        have hll := jline_len v t.data.toList hbd
        rw [show t.data.toList.length = t.size by simp] at hll
        have HLL := Lib.hid hll
        have hWs := HB.out.size
        clear hnl HNo HNs hll
        go_wp2_with (first | (go_at_call 20; ((with_reducible refine (HCo.out _).mono ?_); rintro e w1 ⟨rfl, rfl⟩)) | (go_at_call 21; ((with_reducible refine (HLi.out).mono ?_); rintro e w1 ⟨S, hS, rfl, hb1⟩; have HS := Lib.hid hS; have HIs1 := Lib.hid (isB_below HIs.out hb1); have HB1 := Lib.hid (below_next HB.out hb1); have HLe2 := Lib.hid hb1.size; have hsz := wsize hS; have hfit : (Lib.byteCells J).length + S.size ≤ 140737488355328 := (wfit hsz hle HLL.out.2 hzk); have HFit := Lib.hid hfit; clear hS hb1 hsz hfit)) | (go_at_call 22; ((with_reducible refine (bwrite_of _ _ _ _ _ HIs1.out HFit.out (Nat.le_trans hWs HLe2.out)).mono ?_); rintro e w2 ⟨rfl, hB2, hb2⟩; have HIs2 := Lib.hid (show Lib.IsBuilder 42 5 w.heap.size w.heap.size (Lib.byteCells (jour 0 ((bts zs).take (k + 1)))) w2 from wcells HS.out HS1.out ▸ Or.inr hB2); have HB2 := Lib.hid (HB1.out.trans hb2); clear hB2 hb2)))
        generalize hq : jour 0 ((bts zs).take (k + 1)) = q at HLe HIs2
        have HQ := Lib.hid hq
        clear hq
        have HLn := Lib.hid ((Tryd.Builder_Len _ _ _ _ HIs2.out).mono fun e w' (h : _ ∧ w' = w2) => (⟨h.1, h.2.symm⟩ : _ ∧ w2 = w'))
        rw [Lib.byteCells_length] at HLn
        by_cases hbig : 16000 < q.length
        · have HA := Lib.hid (j_no (HLe.out hbig))
          go_wp2_with (go_at_call 23; ((with_reducible refine (HLn.out).mono ?_); rintro e w3 ⟨rfl, rfl⟩))
          go_ret2
          exact ⟨HA.out.symm, HB2.out⟩
        · go_wp2_with (go_at_call 23; ((with_reducible refine (HLn.out).mono ?_); rintro e w3 ⟨rfl, rfl⟩))
          go_roundw
          case rel => exact ⟨_, k + 1, rfl, hlt, by go_num, by rw [HS2.out], HT.out, by rw [HQ.out]; omega, by rw [HQ.out]; exact HIs2.out, HB2.out⟩
          case measure => simp [intOf]; omega
    · obtain rfl : k = n := by omega
      have ht : (bts zs).take k = bts zs := List.take_of_length_le (by rw [bts_len', HL.out]; omega)
      rw [ht] at hle hal HIs
      have HA := Lib.hid (j_yes (show jOk (bts zs) = true by unfold jOk; rw [hal.out, decide_eq_true hle]; rfl))
      have hWs := HB.out.size
      have HSt := Lib.hid (Tryd.Builder_String_any w.heap.size w.heap.size (jour 0 (bts zs)) W HIs.out hWs)
      clear ht
      generalize hS : (⟨(jour 0 (bts zs)).toArray⟩ : ByteArray) = S at HSt
      have HS := Lib.hid hS
      clear hS
      go_wp2_with (go_at_call 24; ((with_reducible refine (HSt.out).mono ?_); rintro e w1 ⟨rfl, hb1⟩; have HB1 := Lib.hid hb1; clear hb1))
      go_ret2
      exact ⟨by rw [HA.out, HS.out]; rfl, HB.out.trans HB1.out⟩
end Go.Proofs.YtokllkngikcoiaaDoor
