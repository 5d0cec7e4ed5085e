/- The journal of lines: the reference's side. -/
import Derived.Test.YtokllkngikcoiaaDoorJf
import Derived.Test.YtokllkngikcoiaaDoorSL
import Derived.Test.YtokllkngikcoiaaDoorCs
import Derived.Deep.RegionWith
namespace Go.Proofs.YtokllkngikcoiaaDoor
open Go.RowKit

theorem cat_toList (a b : ByteArray) : (a ++ b).data.toList = a.data.toList ++ b.data.toList := by
  rw [ByteArray.data_append, Array.toList_append]
theorem of_toList {S : ByteArray} {l : List UInt8} (h : S.data.toList = l) : S = ⟨l.toArray⟩ := by subst h; rfl
theorem bts_len (P : List ByteArray) : (bts P).length = P.length := by simp [bts]
set_option maxRecDepth 100000 in
set_option maxHeartbeats 3200000 in
theorem l08Journal_of (ao : Option Addr) (n c : Nat) (zs : List ByteArray) (w : World) (hr : SRow w ao n zs) (hn : n ≤ 16000) (hz : ∀ k, (zs.getD k ⟨#[]⟩).size ≤ 16000) :
    Calls Tryd.prog 19 #[.slice ao n c] w fun e w' => e = .returned (.string ⟨(jour 0 (bts zs)).toArray⟩) ∧ Below w.heap.size w w' := by
  have HL := Lib.hid hr.len
  have HR := Lib.hid hr
  have HZ := Lib.hid hz
  clear hr hz
  go_enter Tryd.func19, Tryd.ntmps19
  go_wp2
  go_loopw [3, 4, 5] (fun out v i wr => ∃ (W : World) (k : Nat) (S : ByteArray), W = wr ∧ k ≤ n ∧ i = .int .i64 k ∧ v = .int .i64 (jchk 0 ((bts zs).take k)) ∧ out = .string S ∧ Hid (S.data.toList = jour 0 ((bts zs).take k)) ∧ S.size ≤ 16019 * k ∧ Below w.heap.size w wr) (fun _ _ i _ => n - (intOf i).toNat)
  case atStart => exact ⟨_, 0, ⟨#[]⟩, rfl, by omega, rfl, rfl, rfl, rfl, by decide, Below.refl _ _⟩
  case round =>
    obtain ⟨W, k, S, rfl, hk, rfl, rfl, rfl, hS, hsz, hb⟩ := hrel
    by_cases hlt : k < n
    · obtain ⟨a, rfl⟩ := HR.out.addr (by omega)
      have hx := (HR.out.below hb (Nat.le_refl _)).cell a rfl k hlt
      have hzk := HZ.out k
      have hgd := bts_getD zs k (by rw [HL.out]; exact hlt)
      have hS1 := Lib.hid (jour_snoc 0 ((bts zs).take k) ((bts zs).getD k []))
      have hS2 := Lib.hid (jchk_snoc 0 ((bts zs).take k) ((bts zs).getD k []))
      have hS3 := Lib.hid (take_get (bts zs) k [] (by rw [bts_len, HL.out]; exact hlt))
      have hbd := jchk_bd 0 ((bts zs).take k) (by omega)
      rw [hgd] at hS1 hS2 hS3
      clear hgd
      generalize zs.getD k ⟨#[]⟩ = t at hx hzk hS1 hS2 hS3
      unfold jline at hS1
      generalize jchk 0 ((bts zs).take k) = v at hbd hS1 hS2 ⊢
      have hcb := chk_bd v t.data.toList hbd.1 hbd.2
      have HCk := Lib.hid fun w => l01Check_any v t w (by unfold maxLen; omega) hbd.1 hbd.2
      generalize chk v t.data.toList = u at hcb hS1 hS2 HCk
      have hul := itoa_le u hcb
      obtain ⟨T, hT⟩ : ∃ T : ByteArray, T = ⟨(Lib.itoa u).toArray⟩ := ⟨_, rfl⟩
      have HD := fun w => l01Dec_of u w (by omega) (by omega)
      rw [← hT] at HD
      have HD' := Lib.hid HD
      have hT1 : T.size ≤ 17 := by rw [hT]; show (Lib.itoa u).toArray.size ≤ _; simpa using hul
      have HT2 := Lib.hid (show T.data.toList = Lib.itoa u by rw [hT])
      have HB := Lib.hid hb
      have HX := Lib.hid hx
      have hcl : (a.add k).block < W.heap.size := World.block_lt_of_cell? W _ hx
      clear HD hT hul hb hbd hcb
      go_wp2_with (go_at_call 32; ((with_reducible refine (HCk.out _).mono ?_); rintro e w1 ⟨rfl, rfl⟩))
      go_region_with (go_at_call 33; ((with_reducible refine (HD'.out _).mono ?_); rintro e w1 ⟨rfl, hb1⟩; have hx1 : w1.cell? (a.add k) = some (.string t) := ((hb1.cell (p := a.add k) hcl).trans hx); have HB1 := Lib.hid (below_next (below_drewN HB.out 1) hb1); clear hb1))
      all_goals
        go_wp2
        go_roundw
        case rel =>
          refine ⟨_, k + 1, _, rfl, hlt, by go_num, by rw [hS3.out, hS2.out], rfl, ?_, ?_, by first | exact HB1.out | exact below_drewN HB1.out _⟩
          · show (S ++ (T ++ ⟨#[32]⟩ ++ t ++ ⟨#[10]⟩)).data.toList = _
            rw [hS3.out, hS1.out, cat_toList, cat_toList, cat_toList, cat_toList, hS.out, HT2.out]
            simp
          · simp only [ByteArray.size_append, show (⟨#[32]⟩ : ByteArray).size = 1 from rfl, show (⟨#[10]⟩ : ByteArray).size = 1 from rfl]; omega
        case measure => simp [intOf]; omega
    · obtain rfl : k = n := by omega
      have HB := Lib.hid hb
      have HE := Lib.hid (show S = ⟨(jour 0 (bts zs)).toArray⟩ by
        have := hS.out
        rw [List.take_of_length_le (by rw [bts_len, HL.out]; omega)] at this
        exact of_toList this)
      clear hb
      go_wp2
      go_ret
      exact ⟨by rw [← HE.out]; rfl, HB.out⟩
end Go.Proofs.YtokllkngikcoiaaDoor
