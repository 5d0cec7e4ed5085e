/- Lists of numbers that are given: marked and found again by the law. -/
import Derived.Test.YtnfmfiomemcfdacDoorRfs
namespace Go.Proofs.YtnfmfiomemcfdacDoor
open Go.RowKit Fl

theorem frow_own {w : World} {base n : Nat} {v : Value} {zs : List Nat} (h : w.ownsRow base 64 1 v n (zs.map (Value.float .f32))) :
    ∃ (ao : Option Addr) (c : Nat), v = .slice ao n c ∧ FRow w ao n zs ∧ (∀ a, ao = some a → base ≤ a.block ∧ a.block < w.heap.size) := by
  obtain ⟨h1, h2⟩ := h
  have hl : zs.length = n := by simpa using h1
  rcases h2 with ⟨rfl, rfl⟩ | ⟨g, cap, cur, rfl, hb, hh, _, _, hs, ht⟩
  · exact ⟨none, 0, rfl, ⟨hl, fun h => by omega, fun a ha => by cases ha⟩, fun a ha => by cases ha⟩
  · refine ⟨_, _, rfl, ⟨hl, fun _ => ⟨_, rfl⟩, fun a ha i hi => ?_⟩, fun a ha => ?_⟩
    · obtain rfl := Option.some.inj ha
      rw [show (⟨g, 0, none⟩ : Addr).add i = ⟨g, i, none⟩ by unfold Addr.add; split <;> simp_all]
      have h3 : (cur.toList.take (n * 1))[i]? = some (.float .f32 (zs.getD i 0)) := by rw [ht]; simp [List.getD, List.getElem?_eq_getElem (show i < zs.length by omega)]
      rw [List.getElem?_take, if_pos (by omega)] at h3
      rw [cell_of_row w g i cur 64 (0, 0) hh]
      simpa using h3
    · obtain rfl := Option.some.inj ha
      exact ⟨hb, (Array.getElem?_eq_some_iff.1 hh).1⟩
theorem FRow.keep {w w' : World} {ao : Option Addr} {n B : Nat} {zs : List Nat} (h : FRow w ao n zs) (hb : Below B w w') (hB : ∀ a, ao = some a → a.block < B) : FRow w' ao n zs :=
  ⟨h.len, h.addr, fun a ha i hi => by
    have hc := h.cell a ha i hi
    rw [hb.cell (p := a.add i) (by have := hB a ha; unfold Addr.add; split <;> exact this)]; exact hc⟩
theorem small_num : ∀ k : Fin 512, nan32 (floatOfInt .f32 k.val) = false := by decide +kernel
theorem small_ord (k : Nat) (h : k < 512) : FloatKind.f32.format.order (floatOfInt .f32 k) (floatOfInt .f32 k) = some .eq := by
  have := small_num ⟨k, h⟩
  rw [ord32, this]; rfl
/-- the first k numbers marked -/
def mkf (zs : List Nat) (k : Nat) : List Nat := (List.range k).map (fun j => floatOfInt .f32 ((1 + j : Nat) : Int)) ++ zs.drop k
theorem mkf_len (zs : List Nat) (k : Nat) (h : k ≤ zs.length) : (mkf zs k).length = zs.length := by simp [mkf]; omega
theorem mkf_set (zs : List Nat) (k : Nat) (h : k < zs.length) : ((mkf zs k).map (Value.float .f32)).set k (.float .f32 (floatOfInt .f32 ((1 + k : Nat) : Int))) = (mkf zs (k + 1)).map (Value.float .f32) := by
  have e : (zs.drop k).map (Value.float .f32) = .float .f32 zs[k] :: (zs.drop (k + 1)).map (Value.float .f32) := by rw [List.drop_eq_getElem_cons h]; rfl
  unfold mkf
  rw [List.map_append, e, List.set_append_right _ _ (by simp), List.length_map, List.length_map, List.length_range, Nat.sub_self, List.set_cons_zero, List.range_succ, List.map_append, List.map_append, List.map_append, List.append_assoc]
  rfl
theorem mkf_get (zs : List Nat) (n : Nat) (j : Nat) (hj : j < n) : (mkf zs n).getD j 0 = floatOfInt .f32 ((1 + j : Nat) : Int) := by
  unfold mkf
  rw [List.getD_eq_getElem?_getD, List.getElem?_append_left (by simp; exact hj), List.getElem?_map, List.getElem?_range hj]
  rfl

set_option maxRecDepth 100000 in
set_option maxHeartbeats 1600000 in
theorem markFloat32S_of (base n c : Nat) (ao : Option Addr) (zs : List Nat) (w : World) (hl : zs.length = n) (hn : n ≤ 256) (hown : w.ownsRow base 64 1 (.slice ao n c) n (zs.map (Value.float .f32))) :
    Calls Tryd.prog 30 #[.slice ao n c, .int .i64 1] w fun e w' => e = .returned (.int .i64 ((1 + n : Nat) : Int)) ∧ w'.ownsRow base 64 1 (.slice ao n c) n ((mkf zs n).map (Value.float .f32)) ∧ Below base w w' := by
  have HL := Lib.hid hl
  have HO := Lib.hid hown
  clear hl hown
  go_enter Tryd.func30, Tryd.ntmps30
  go_wp2
  go_loopw [1, 5] (fun kk i wr => ∃ (W : World) (j q : Nat), W = wr ∧ j ≤ n ∧ i = .int .i64 j ∧ kk = .int .i64 q ∧ Hid (q = 1 + j) ∧ q ≤ 257 ∧ wr.ownsRow base 64 1 (.slice ao n c) n ((mkf zs j).map (Value.float .f32)) ∧ Below base w wr) (fun _ i _ => n - (intOf i).toNat)
  case atStart => exact ⟨_, 0, 1, rfl, Nat.zero_le _, rfl, rfl, rfl, by omega, HO.out, Below.refl _ _⟩
  case round =>
    clear HO
    obtain ⟨W, j, q, rfl, hj, rfl, rfl, hq, hq2, hown, hb⟩ := hrel
    by_cases hlt : j < n
    · obtain ⟨b, cap, hv, hb1, hb2⟩ := own_form1 hown (by omega)
      obtain ⟨rfl, rfl⟩ : ao = some ⟨b, 0, none⟩ ∧ c = cap := by simpa using hv
      have hst := (hown.stored j (.float .f32 (floatOfInt .f32 (q : Int)))).1
      rw [hq.out, mkf_set zs j (by rw [HL.out]; exact hlt), ← hq.out] at hst
      have hfr := hown.frozenAt j
      have hcl := hown.cellAt j (by omega)
      rw [List.getElem?_eq_getElem (by rw [hown.1]; omega)] at hcl
      generalize ((mkf zs j).map (Value.float .f32))[j]'_ = old at hcl
      have HS := Lib.hid hst
      have HB := Lib.hid (hb.setCell (p := ⟨b, j, none⟩) hb1 (.float .f32 (floatOfInt .f32 (q : Int))))
      clear hst hown hb hv
      have hsf := run_store_float Tryd.prog
      go_wp2
      go_roundw
      case rel => exact ⟨_, j + 1, q + 1, rfl, by omega, by go_num, by go_num, by show q + 1 = _; rw [hq.out]; omega, by have := hq.out; omega, HS.out, HB.out⟩
      case measure => simp [intOf]; omega
    · obtain rfl : j = n := by omega
      go_wp2
      go_ret
      exact ⟨by have h9 := hq.out; show Ending.returned (Value.int .i64 (q : Int)) = _; rw [h9], hown, hb⟩
set_option maxRecDepth 100000 in
set_option maxHeartbeats 1600000 in
theorem heldFloat32S_of (n c : Nat) (ao : Option Addr) (zs : List Nat) (w : World) (hn : n ≤ 256) (hr : FRow w ao n zs) (hm : ∀ j, j < n → zs.getD j 0 = floatOfInt .f32 ((1 + j : Nat) : Int)) :
    Calls Tryd.prog 31 #[.slice ao n c, .int .i64 1] w fun e w' => e = .returned (.int .i64 ((1 + n : Nat) : Int)) ∧ w = w' := by
  have HR := Lib.hid hr
  have HM := Lib.hid hm
  clear hr hm
  go_enter Tryd.func31, Tryd.ntmps31
  go_wp2
  go_loop [1, 5] (fun kk i => ∃ j q : Nat, j ≤ n ∧ i = .int .i64 j ∧ kk = .int .i64 q ∧ Hid (q = 1 + j) ∧ q ≤ 257) (fun _ i => n - (intOf i).toNat)
  case atStart => exact ⟨0, 1, Nat.zero_le _, rfl, rfl, rfl, by omega⟩
  case round =>
    obtain ⟨j, q, hj, rfl, rfl, hq, hq2⟩ := hrel
    by_cases hlt : j < n
    · obtain ⟨a, rfl⟩ := HR.out.addr (by omega)
      have hx := HR.out.cell a rfl j hlt
      rw [HM.out j hlt, ← hq.out] at hx
      have q0 := small_ord q (by omega)
      go_wp2
      go_round
      case rel => exact ⟨j + 1, q + 1, by omega, by go_num, by go_num, by show q + 1 = _; rw [hq.out]; omega, by have := hq.out; omega⟩
      case measure => simp [intOf]; omega
    · obtain rfl : j = n := by omega
      go_wp2
      go_ret
      exact ⟨by have h9 := hq.out; show Ending.returned (Value.int .i64 (q : Int)) = _; rw [h9]; rfl, rfl⟩
end Go.Proofs.YtnfmfiomemcfdacDoor
