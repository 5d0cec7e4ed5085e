/- The cells that lie side by side: the program's list. -/
import Derived.Test.YtkgijboahjiodaaVos
import Derived.Deep.Cut
import Derived.Deep.DeepCutAuto
namespace Go.Proofs.Ytkgijboahjiodaa
open Go.RowKit Fl

theorem div_parts (X i : Nat) (h : 0 < X) : ∃ x y, i % X = x ∧ i / X = y ∧ X * y + x = i ∧ x < X := ⟨_, _, rfl, rfl, Nat.div_add_mod i X, Nat.mod_lt i h⟩
/-- a row of the call's own, told in the walk -/
structure Cls (w Wd : World) (vv : Value) (L : List Nat) : Prop where
  o : Wd.ownsRow w.heap.size 2 1 vv L.length (vi L)
  b : Below w.heap.size w Wd
theorem Cls.grow {w Wd w5 : World} {vv v' : Value} {L : List Nat} {z : Int} {k : Nat} (h : Cls w Wd vv L) (hz : z = (k : Int)) {o : Obj} (hown : w5.ownsRow w.heap.size 2 1 v' (L.length + 1) (vi L ++ [.int .i64 z])) (hg : (Wd.alloc o).grownBy w5 vv.ownBlock) : Cls w w5 v' (L ++ [k]) := by
  subst hz
  exact ⟨by rw [vi_snoc, List.length_append]; exact hown, vi_app h.b (Nat.le_refl _) h.o hg⟩
set_option maxRecDepth 100000 in
set_option maxHeartbeats 12800000 in
theorem sideBySide_of (X Y i b n c : Nat) (w : World) (x1 : 1 ≤ X) (x2 : X ≤ 16) (y1 : 1 ≤ Y) (y2 : Y ≤ 16) (hi : i < X * Y) :
    Calls Try.prog 63 #[.agg #[.int .i64 X, .int .i64 Y, .slice (some ⟨b, 0, none⟩) n c], .int .i64 i] w fun e w' => Below w.heap.size w w' ∧ ∃ v, e = .returned v ∧ w'.ownsRow w.heap.size 2 1 v (sideL X Y i).length (vi (sideL X Y i)) := by
  have hi2 : i < 256 := Nat.lt_of_lt_of_le hi (Nat.mul_le_mul x2 y2)
  obtain ⟨x, y, ex, ey, hxy, mi⟩ := div_parts X i (by omega)
  have hS : sideL X Y i = (if 0 < y then [i - X] else []) ++ (if 0 < x then [i - 1] else []) ++ (if x < X - 1 then [i + 1] else []) ++ (if y < Y - 1 then [i + X] else []) := by rw [← ex, ← ey]; rfl
  have hx : ((i : Int) % (X : Int)) = (x : Int) := by rw [← ex]; rfl
  have hy : wrap64 ((i : Int) / (X : Int)) = (y : Int) := by
    rw [show ((i : Int) / (X : Int)) = ((i / X : Nat) : Int) from rfl, ey]
    exact wrapS (by omega) (by have : y ≤ i := by rw [← ey]; exact Nat.div_le_self _ _
                               omega)
  have hup : 0 < y → X ≤ i := fun h => by
    have h2 : X * 1 ≤ X * y := Nat.mul_le_mul_left X h
    generalize X * y = t at *
    omega
  have hlf : 0 < x → 1 ≤ i := fun h => by omega
  have HS := Lib.hid hS
  have HUp := Lib.hid hup
  have HLf := Lib.hid hlf
  clear ex ey hxy hi hS hup hlf
  have hz : (X : Int) ≠ 0 := by omega
  have hp : (0 : Int) < (X : Int) := by omega
  have hi0 : (0 : Int) ≤ (i : Int) := by omega
  obtain ⟨i0, hi, hw0, hw1, hw2⟩ := info_parts vi_info
  have hblk := blk_new w 55 #[.int .i64 X, .int .i64 Y, .slice (some ⟨b, 0, none⟩) n c] _ rfl
  have hbel := (Below.refl w.heap.size w).alloc (Nat.le_refl _) (.cells #[.int .i64 X, .int .i64 Y, .slice (some ⟨b, 0, none⟩) n c] 55)
  have a0 := hblk.cell 0
  have a1 := hblk.cell 1
  have HK := Lib.hid hblk
  have HB := Lib.hid hbel
  clear hblk hbel
  go_enter Try.func63, Try.ntmps63
  go_wp2_with fail
  go_quiet (fail)
  have K0 := Lib.hid (HK.out.drewN nq)
  have HB1 := Lib.hid (below_drewN HB.out nq)
  clear HK HB a0 a1
  generalize ((w.alloc (.cells #[.int .i64 X, .int .i64 Y, .slice (some ⟨b, 0, none⟩) n c] 55)).drewN nq) = V0 at K0 HB1 ⊢
  rw [hx, hy]
  clear hx hy hz hp hi0
  have C0 : Hid (Cls w V0 (.slice none 0 0) []) := Lib.hid ⟨World.ownsRow_nil _ _ _ _, HB1.out⟩
  clear HB1
  have hl0 : ([] : List Nat).length ≤ 0 := Nat.le_refl _
  have a0 := K0.out.cell 0
  go_upto_if 17 with fail
  go_cut [5] (fun s5 wx => ∃ (Wd : World) (vv : Value), Wd = wx ∧ s5 = vv ∧ Blk Wd w.heap.size 55 #[.int .i64 X, .int .i64 Y, .slice (some ⟨b, 0, none⟩) n c] ∧ Cls w Wd vv (if 0 < y then [i - X] else []))
  case first =>
    by_cases hc : 0 < y
    · have hle := HUp.out hc
      have hbw := C0.out.b.size
      have hz3 : wrap64 ((i : Int) - X) = (i : Int) - X := wrapS (by omega) (by omega)
      go_wp2_with (at_builtin; go_loud (refine wpList_append_own _ rfl _ _ 45 rfl w.heap.size 2 i0 _ 1 8 Try.underlying45 hi hw0 hw1 hw2 rfl (by decide) _ _ _ rfl (C0.out.o.alloc _) ⟨V0.heap.size, 0, none⟩ 1 1 [.int .i64 ((i : Int) - X)] rfl rfl (vi_new _ _ _ _ rfl) (fun x hx => by simp at hx; subst hx; rfl) (by unfold maxLen; omega) (by omega) (by simp; omega) ?_); intro v' w5 hown' hgrow hnil; have G5 := Lib.hid (C0.out.grow (k := i - X) (by omega) hown' hgrow); have K5 := Lib.hid (vi_blk K0.out C0.out.o neIV hgrow); clear hown' hgrow hnil)
      go_meet
      case rel =>
        refine ⟨_, _, rfl, rfl, K5.out, ?_⟩
        rw [if_pos hc]
        exact G5.out
    · go_wp2_with fail
      go_meet
      case rel =>
        refine ⟨_, _, rfl, rfl, K0.out, ?_⟩
        rw [if_neg hc]
        exact C0.out
  case rest =>
  obtain ⟨V1, v1, rfl, rfl, hK, hC⟩ := hcut
  have K1 := Lib.hid hK
  have C1 := Lib.hid hC
  clear hK hC K0 C0 a0
  have hl1 : (if 0 < y then [i - X] else []).length ≤ 1 := by
    skip
    by_cases hc : 0 < y
    · rw [if_pos hc]; simp
    · rw [if_neg hc]; simp
  obtain ⟨L1, hL1⟩ : ∃ L, L = (if 0 < y then [i - X] else []) := ⟨_, rfl⟩
  rw [← hL1] at C1 hl1
  rw [← hL1] at HS
  clear hL1
  go_upto_if 26 with fail
  go_cut [5] (fun s5 wx => ∃ (Wd : World) (vv : Value), Wd = wx ∧ s5 = vv ∧ Blk Wd w.heap.size 55 #[.int .i64 X, .int .i64 Y, .slice (some ⟨b, 0, none⟩) n c] ∧ Cls w Wd vv (L1 ++ (if 0 < x then [i - 1] else [])))
  case first =>
    by_cases hc : 0 < x
    · have hle := HLf.out hc
      have hbw := C1.out.b.size
      have hz3 : wrap64 ((i : Int) - 1) = (i : Int) - 1 := wrapS (by omega) (by omega)
      go_wp2_with (at_builtin; go_loud (refine wpList_append_own _ rfl _ _ 45 rfl w.heap.size 2 i0 _ 1 8 Try.underlying45 hi hw0 hw1 hw2 rfl (by decide) _ _ _ rfl (C1.out.o.alloc _) ⟨V1.heap.size, 0, none⟩ 1 1 [.int .i64 ((i : Int) - 1)] rfl rfl (vi_new _ _ _ _ rfl) (fun x hx => by simp at hx; subst hx; rfl) (by unfold maxLen; omega) (by omega) (by simp; omega) ?_); intro v' w5 hown' hgrow hnil; have G5 := Lib.hid (C1.out.grow (k := i - 1) (by omega) hown' hgrow); have K5 := Lib.hid (vi_blk K1.out C1.out.o neIV hgrow); clear hown' hgrow hnil)
      go_meet
      case rel =>
        refine ⟨_, _, rfl, rfl, K5.out, ?_⟩
        rw [if_pos hc]
        exact G5.out
    · go_wp2_with fail
      go_meet
      case rel =>
        refine ⟨_, _, rfl, rfl, K1.out, ?_⟩
        rw [if_neg hc, List.append_nil]
        exact C1.out
  case rest =>
  obtain ⟨V2, v2, rfl, rfl, hK, hC⟩ := hcut
  have K2 := Lib.hid hK
  have C2 := Lib.hid hC
  clear hK hC K1 C1
  have hl2 : (L1 ++ (if 0 < x then [i - 1] else [])).length ≤ 2 := by
    rw [List.length_append]
    by_cases hc : 0 < x
    · rw [if_pos hc]; simp; omega
    · rw [if_neg hc]; simp; omega
  obtain ⟨L2, hL2⟩ : ∃ L, L = (L1 ++ (if 0 < x then [i - 1] else [])) := ⟨_, rfl⟩
  rw [← hL2] at C2 hl2
  rw [← hL2] at HS
  clear hL2
  have hzw : wrap64 ((X : Int) - 1) = (X : Int) - 1 := wrapS (by omega) (by omega)
  have a0 := K2.out.cell 0
  go_upto_if 36 with fail
  go_cut [5] (fun s5 wx => ∃ (Wd : World) (vv : Value), Wd = wx ∧ s5 = vv ∧ Blk Wd w.heap.size 55 #[.int .i64 X, .int .i64 Y, .slice (some ⟨b, 0, none⟩) n c] ∧ Cls w Wd vv (L2 ++ (if x < X - 1 then [i + 1] else [])))
  case first =>
    by_cases hc : x < X - 1
    · skip
      have hbw := C2.out.b.size
      have hz3 : wrap64 ((i : Int) + 1) = (i : Int) + 1 := wrapS (by omega) (by omega)
      go_wp2_with (at_builtin; go_loud (refine wpList_append_own _ rfl _ _ 45 rfl w.heap.size 2 i0 _ 1 8 Try.underlying45 hi hw0 hw1 hw2 rfl (by decide) _ _ _ rfl (C2.out.o.alloc _) ⟨V2.heap.size, 0, none⟩ 1 1 [.int .i64 ((i : Int) + 1)] rfl rfl (vi_new _ _ _ _ rfl) (fun x hx => by simp at hx; subst hx; rfl) (by unfold maxLen; omega) (by omega) (by simp; omega) ?_); intro v' w5 hown' hgrow hnil; have G5 := Lib.hid (C2.out.grow (k := i + 1) (by omega) hown' hgrow); have K5 := Lib.hid (vi_blk K2.out C2.out.o neIV hgrow); clear hown' hgrow hnil)
      go_meet
      case rel =>
        refine ⟨_, _, rfl, rfl, K5.out, ?_⟩
        rw [if_pos hc]
        exact G5.out
    · go_wp2_with fail
      go_meet
      case rel =>
        refine ⟨_, _, rfl, rfl, K2.out, ?_⟩
        rw [if_neg hc, List.append_nil]
        exact C2.out
  case rest =>
  obtain ⟨V3, v3, rfl, rfl, hK, hC⟩ := hcut
  have K3 := Lib.hid hK
  have C3 := Lib.hid hC
  clear hK hC K2 C2 hzw a0
  have hl3 : (L2 ++ (if x < X - 1 then [i + 1] else [])).length ≤ 3 := by
    rw [List.length_append]
    by_cases hc : x < X - 1
    · rw [if_pos hc]; simp; omega
    · rw [if_neg hc]; simp; omega
  obtain ⟨L3, hL3⟩ : ∃ L, L = (L2 ++ (if x < X - 1 then [i + 1] else [])) := ⟨_, rfl⟩
  rw [← hL3] at C3 hl3
  rw [← hL3] at HS
  clear hL3
  have hzw : wrap64 ((Y : Int) - 1) = (Y : Int) - 1 := wrapS (by omega) (by omega)
  have a0 := K3.out.cell 0
  have a1 := K3.out.cell 1
  go_upto_if 46 with fail
  go_cut [5] (fun s5 wx => ∃ (Wd : World) (vv : Value), Wd = wx ∧ s5 = vv ∧ Blk Wd w.heap.size 55 #[.int .i64 X, .int .i64 Y, .slice (some ⟨b, 0, none⟩) n c] ∧ Cls w Wd vv (L3 ++ (if y < Y - 1 then [i + X] else [])))
  case first =>
    by_cases hc : y < Y - 1
    · skip
      have hbw := C3.out.b.size
      have hz3 : wrap64 ((i : Int) + X) = (i : Int) + X := wrapS (by omega) (by omega)
      go_wp2_with (at_builtin; go_loud (refine wpList_append_own _ rfl _ _ 45 rfl w.heap.size 2 i0 _ 1 8 Try.underlying45 hi hw0 hw1 hw2 rfl (by decide) _ _ _ rfl (C3.out.o.alloc _) ⟨V3.heap.size, 0, none⟩ 1 1 [.int .i64 ((i : Int) + X)] rfl rfl (vi_new _ _ _ _ rfl) (fun x hx => by simp at hx; subst hx; rfl) (by unfold maxLen; omega) (by omega) (by simp; omega) ?_); intro v' w5 hown' hgrow hnil; have G5 := Lib.hid (C3.out.grow (k := i + X) (by omega) hown' hgrow); have K5 := Lib.hid (vi_blk K3.out C3.out.o neIV hgrow); clear hown' hgrow hnil)
      go_meet
      case rel =>
        refine ⟨_, _, rfl, rfl, K5.out, ?_⟩
        rw [if_pos hc]
        exact G5.out
    · go_wp2_with fail
      go_meet
      case rel =>
        refine ⟨_, _, rfl, rfl, K3.out, ?_⟩
        rw [if_neg hc, List.append_nil]
        exact C3.out
  case rest =>
  obtain ⟨V4, v4, rfl, rfl, hK, hC⟩ := hcut
  have K4 := Lib.hid hK
  have C4 := Lib.hid hC
  clear hK hC K3 C3 hzw a0 a1
  have hl4 : (L3 ++ (if y < Y - 1 then [i + X] else [])).length ≤ 4 := by
    rw [List.length_append]
    by_cases hc : y < Y - 1
    · rw [if_pos hc]; simp; omega
    · rw [if_neg hc]; simp; omega
  obtain ⟨L4, hL4⟩ : ∃ L, L = (L3 ++ (if y < Y - 1 then [i + X] else [])) := ⟨_, rfl⟩
  rw [← hL4] at C4 hl4
  rw [← hL4] at HS
  clear hL4
  go_wp2_with fail
  go_ret
  exact ⟨C4.out.b, _, rfl, by rw [HS.out]; exact C4.out.o⟩
end Go.Proofs.Ytkgijboahjiodaa
