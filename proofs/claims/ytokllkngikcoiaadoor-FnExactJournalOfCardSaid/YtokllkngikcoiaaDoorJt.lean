/- The journal of lines: the reference's JournalOf. -/
import Derived.Test.YtokllkngikcoiaaDoorJs
namespace Go.Proofs.YtokllkngikcoiaaDoor
open Go.RowKit

theorem jour_len (L : List (List UInt8)) : ∃ S : ByteArray, S = ⟨(jour 0 L).toArray⟩ ∧ S.size = (jour 0 L).length := ⟨_, rfl, by simp [ByteArray.size]⟩
theorem noNl_take (t : ByteArray) (j : Nat) (h : j < t.size) : noNl (t.data.toList.take (j + 1)) = (noNl (t.data.toList.take j) && decide (t[j] ≠ 10)) := by
  rw [take_snocB t j h]; simp [noNl, List.all_append]
theorem noNl_no (t : ByteArray) (j : Nat) (h : j < t.size) (h2 : t[j] = 10) : noNl t.data.toList = false := by
  have hm : t[j] ∈ t.data.toList := by rw [Array.mem_toList_iff]; exact Array.getElem_mem _
  unfold noNl
  rw [List.all_eq_false]
  exact ⟨_, hm, by simp [h2]⟩
theorem size_one {zs : List ByteArray} {n : Nat} (h : jleast (bts zs) ≤ n) (k : Nat) : (zs.getD k ⟨#[]⟩).size ≤ n := by
  by_cases hk : k < zs.length
  · have h1 := jleast_mono ((bts zs).take (k + 1)) ((bts zs).drop (k + 1))
    rw [List.take_append_drop, take_get (bts zs) k [] (by rw [bts_len]; exact hk), jleast_snoc, bts_getD zs k hk] at h1
    rw [show (zs.getD k ⟨#[]⟩).data.toList.length = (zs.getD k ⟨#[]⟩).size by simp] at h1
    omega
  · simp [List.getD, List.getElem?_eq_none (Nat.le_of_not_lt hk)]
    exact Nat.zero_le _
theorem jleast_ge (L : List (List UInt8)) : 3 * L.length ≤ jleast L := by
  induction L with
  | nil => simp [jleast]
  | cons l L ih => unfold jleast at *; rw [List.map_cons, List.sum_cons, List.length_cons]; omega
set_option maxRecDepth 100000 in
set_option maxHeartbeats 3200000 in
theorem specJournal_of (ao : Option Addr) (n c : Nat) (zs : List ByteArray) (w : World) (hr : SRow w ao n zs) (hn : n ≤ 1048576) (hz : ∀ k, (zs.getD k ⟨#[]⟩).size ≤ 1048576) :
    Calls Tryd.prog 9 #[.slice ao n c] w fun e w' => e = jAns (bts zs) ∧ Below w.heap.size w w' := by
  have HL := Lib.hid hr.len
  have HR := Lib.hid hr
  have HZ := Lib.hid hz
  have HJ := Lib.hid fun h1 h2 => l08Journal_of ao n c zs w hr h1 h2
  clear hr hz
  go_enter Tryd.func9, Tryd.ntmps9
  go_wp2
  go_loop [4, 5, 6] (fun tot i _ => ∃ (k : Nat), k ≤ n ∧ i = .int .i64 k ∧ tot = .int .i64 (jleast ((bts zs).take k)) ∧ jleast ((bts zs).take k) ≤ 16000 ∧ Hid (((bts zs).take k).all noNl = true)) (fun _ i _ => n - (intOf i).toNat)
  case atStart => exact ⟨0, by omega, rfl, rfl, by simp [jleast], rfl⟩
  case round =>
    obtain ⟨k, hk, rfl, rfl, hle, hal⟩ := hrel
    by_cases hlt : k < n
    · obtain ⟨a, rfl⟩ := HR.out.addr (by omega)
      have hx := HR.out.cell a rfl k hlt
      have hzk := HZ.out k
      have hgd := bts_getD zs k (by rw [HL.out]; exact hlt)
      have hkb : k < (bts zs).length := by rw [bts_len, HL.out]; exact hlt
      have HS3 := Lib.hid (take_get (bts zs) k [] hkb)
      have hS1 := jleast_snoc ((bts zs).take k) ((bts zs).getD k [])
      have HNs := Lib.hid (nl_succ (bts zs) k hkb)
      have HNo := Lib.hid (j_nl hkb)
      have HLe := Lib.hid (j_least (L := bts zs) (k := k + 1))
      rw [← HS3.out] at hS1
      rw [hgd] at HS3 HNs HNo hS1
      rw [show (zs.getD k ⟨#[]⟩).data.toList.length = (zs.getD k ⟨#[]⟩).size by simp] at hS1
      clear hgd hkb HS3
      generalize zs.getD k ⟨#[]⟩ = t at hx hzk hS1 HNs HNo
      generalize jleast ((bts zs).take k) = u at hle hS1 ⊢
      generalize hq : jleast ((bts zs).take (k + 1)) = q at hS1 HLe
      have HQ := Lib.hid hq
      clear hq
      by_cases hbig : 16000 < q
      · have HA := Lib.hid (j_no (HLe.out hbig))
        clear HLe HNs HNo
        go_wp2
        go_ret2
        exact ⟨HA.out.symm, Below.refl _ _⟩
      · clear HLe
        go_wp2
        go_loop [6] (fun kk => ∃ j : Nat, j ≤ t.size ∧ kk = .int .i64 j ∧ Hid (noNl (t.data.toList.take j) = true)) (fun kk => t.size - (intOf kk).toNat)
        case atStart => exact ⟨0, Nat.zero_le _, rfl, rfl⟩
        case round =>
          obtain ⟨j, hj, rfl, hnj⟩ := hrel
          by_cases hjt : j < t.size
          · by_cases hc : t[j] = 10
            · have HA := Lib.hid (j_no (HNo.out (noNl_no t j hjt hc)))
              have hc' : ((t[j].toNat : Int) == 10) = true := by rw [hc]; rfl
              have hc2 : (t[j].toNat : Int) = 10 := by rw [hc]; rfl
              clear HNs HNo hc
              go_wp2
              go_ret2
              exact ⟨HA.out.symm, Below.refl _ _⟩
            · have HT := Lib.hid (show noNl (t.data.toList.take (j + 1)) = true by rw [noNl_take t j hjt, hnj.out, decide_eq_true hc]; rfl)
              have hc' : ((t[j].toNat : Int) == 10) = false := beq_eq_false_iff_ne.2 fun e => hc (UInt8.toNat_inj.1 (by have e' : (t[j].toNat : Int) = 10 := e; show t[j].toNat = 10; omega))
              clear HNs HNo hc
              go_wp2
              go_round
              case rel => exact ⟨j + 1, by omega, by go_num, HT⟩
              case measure => simp [intOf]; omega
          · obtain rfl : j = t.size := by omega
            have HT := Lib.hid (show ((bts zs).take (k + 1)).all noNl = true by
              have := hnj.out
              rw [List.take_of_length_le (by simp)] at this
              rw [HNs.out, hal.out, this]; rfl)
            clear HNs HNo hnj
            go_wp2
            go_round
            case rel => exact ⟨k + 1, by omega, by go_num, by rw [HQ.out]; go_num, by rw [HQ.out]; omega, HT⟩
            case measure => simp [intOf]; omega
    · obtain rfl : k = n := by omega
      have ht : (bts zs).take k = bts zs := List.take_of_length_le (by rw [bts_len, HL.out]; omega)
      rw [ht] at hle hal
      have h3 := jleast_ge (bts zs)
      rw [bts_len, HL.out] at h3
      have HJ' := HJ.out (by omega) (fun j => size_one hle j)
      obtain ⟨S, hS, hsz⟩ := jour_len (bts zs)
      rw [← hS] at HJ'
      have HJ2 := Lib.hid HJ'
      have HS := Lib.hid hS
      by_cases hbig : S.size ≤ 16000
      · have HA := Lib.hid (j_yes (show jOk (bts zs) = true by unfold jOk; rw [hal.out, decide_eq_true (by rw [← hsz]; exact hbig)]; rfl))
        clear HJ' hS hsz h3 ht HJ
        go_wp2_with (go_at_call 19; ((with_reducible refine (HJ2.out).mono ?_); rintro e w1 ⟨rfl, hb1⟩; have HB := Lib.hid hb1; clear hb1))
        go_ret2
        exact ⟨by rw [HA.out, ← HS.out]; rfl, HB.out⟩
      · have HA := Lib.hid (j_no (show jOk (bts zs) = false by unfold jOk; rw [decide_eq_false (by rw [← hsz]; exact hbig), Bool.and_false]))
        clear HJ' hS hsz h3 ht HJ
        go_wp2_with (go_at_call 19; ((with_reducible refine (HJ2.out).mono ?_); rintro e w1 ⟨rfl, hb1⟩; have HB := Lib.hid hb1; clear hb1))
        go_ret2
        exact ⟨by rw [HA.out]; rfl, HB.out⟩
end Go.Proofs.YtokllkngikcoiaaDoor
