/- Lists of integers that are given: marked and found again by the law. -/
import Derived.Test.YtkgijboahjiodaaIList
import Derived.Test.YtkgijboahjiodaaVos
import Derived.Lib.Hide
namespace Go.Proofs.Ytkgijboahjiodaa
open Go.RowKit

theorem irow_own {w : World} {base n : Nat} {v : Value} {zs : List Int} (h : w.ownsRow base 2 1 v n (zs.map (Value.int .i64))) :
    ∃ (ao : Option Addr) (c : Nat), v = .slice ao n c ∧ IRow w ao n zs ∧ (∀ a, ao = some a → base ≤ a.block ∧ a.block < w.heap.size) := by
  obtain ⟨h1, h2⟩ := h
  have hl : zs.length = n := by simpa using h1
  rcases h2 with ⟨rfl, rfl⟩ | ⟨g, cap, cur, rfl, hb, hh, _, _, hs, ht⟩
  · exact ⟨none, 0, rfl, ⟨hl, fun h => by omega, fun a ha => by cases ha⟩, fun a ha => by cases ha⟩
  · refine ⟨_, _, rfl, ⟨hl, fun _ => ⟨_, rfl⟩, fun a ha i hi => ?_⟩, fun a ha => ?_⟩
    · obtain rfl := Option.some.inj ha
      rw [show (⟨g, 0, none⟩ : Addr).add i = ⟨g, i, none⟩ by unfold Addr.add; split <;> simp_all]
      have h3 : (cur.toList.take (n * 1))[i]? = some (.int .i64 (zs.getD i 0)) := by rw [ht]; simp [List.getD, List.getElem?_eq_getElem (show i < zs.length by omega)]
      rw [List.getElem?_take, if_pos (by omega)] at h3
      rw [cell_of_row w g i cur 2 (0, 0) hh]
      simpa using h3
    · obtain rfl := Option.some.inj ha
      exact ⟨hb, (Array.getElem?_eq_some_iff.1 hh).1⟩
theorem IRow.keep {w w' : World} {ao : Option Addr} {n B : Nat} {zs : List Int} (h : IRow w ao n zs) (hb : Below B w w') (hB : ∀ a, ao = some a → a.block < B) : IRow w' ao n zs :=
  ⟨h.len, h.addr, fun a ha i hi => by
    have hc := h.cell a ha i hi
    rw [hb.cell (p := a.add i) (by have := hB a ha; unfold Addr.add; split <;> exact this)]; exact hc⟩
/-- the first k numbers marked -/
def mks (zs : List Int) (k : Nat) : List Int := (List.range k).map (fun j => ((1 + j : Nat) : Int)) ++ zs.drop k
theorem mks_len (zs : List Int) (k : Nat) (h : k ≤ zs.length) : (mks zs k).length = zs.length := by simp [mks]; omega
theorem mks_set (zs : List Int) (k : Nat) (h : k < zs.length) : ((mks zs k).map (Value.int .i64)).set k (.int .i64 ((1 + k : Nat) : Int)) = (mks zs (k + 1)).map (Value.int .i64) := by
  have e : (zs.drop k).map (Value.int .i64) = .int .i64 zs[k] :: (zs.drop (k + 1)).map (Value.int .i64) := by rw [List.drop_eq_getElem_cons h]; rfl
  unfold mks
  rw [List.map_append, e, List.set_append_right _ _ (by simp), List.length_map, List.length_map, List.length_range, Nat.sub_self, List.set_cons_zero, List.range_succ, List.map_append, List.map_append, List.map_append, List.append_assoc]
  rfl
theorem mks_get (zs : List Int) (n : Nat) (j : Nat) (hj : j < n) : (mks zs n).getD j 0 = ((1 + j : Nat) : Int) := by
  unfold mks
  rw [List.getD_eq_getElem?_getD, List.getElem?_append_left (by simp; exact hj), List.getElem?_map, List.getElem?_range hj]
  rfl

set_option maxRecDepth 100000 in
set_option maxHeartbeats 1600000 in
theorem markInt64S_of (base n c : Nat) (ao : Option Addr) (zs : List Int) (w : World) (hl : zs.length = n) (hn : n ≤ 1000) (hown : w.ownsRow base 2 1 (.slice ao n c) n (zs.map (Value.int .i64))) :
    Calls Try.prog 26 #[.slice ao n c, .int .i64 1] w fun e w' => e = .returned (.int .i64 ((1 + n : Nat) : Int)) ∧ w'.ownsRow base 2 1 (.slice ao n c) n ((mks zs n).map (Value.int .i64)) ∧ Below base w w' := by
  have HL := Lib.hid hl
  have HO := Lib.hid hown
  clear hl hown
  go_enter Try.func26, Try.ntmps26
  go_wp2
  go_loopw [1, 5] (fun kk i wr => ∃ (W : World) (j q : Nat), W = wr ∧ j ≤ n ∧ i = .int .i64 j ∧ kk = .int .i64 q ∧ Hid (q = 1 + j) ∧ q ≤ 1001 ∧ wr.ownsRow base 2 1 (.slice ao n c) n ((mks zs j).map (Value.int .i64)) ∧ Below base w wr) (fun _ i _ => n - (intOf i).toNat)
  case atStart => exact ⟨_, 0, 1, rfl, Nat.zero_le _, rfl, rfl, rfl, by omega, HO.out, Below.refl _ _⟩
  case round =>
    clear HO
    obtain ⟨W, j, q, rfl, hj, rfl, rfl, hq, hq2, hown, hb⟩ := hrel
    by_cases hlt : j < n
    · obtain ⟨b, cap, hv, hb1, hb2⟩ := vi_form hown (by omega)
      obtain ⟨rfl, rfl⟩ : ao = some ⟨b, 0, none⟩ ∧ c = cap := by simpa using hv
      have hst := (hown.stored j (.int .i64 (q : Int))).1
      rw [hq.out, mks_set zs j (by rw [HL.out]; exact hlt), ← hq.out] at hst
      have hfr := hown.frozenAt j
      have hcl := hown.cellAt j (by omega)
      rw [List.getElem?_eq_getElem (by rw [hown.1]; omega)] at hcl
      generalize ((mks zs j).map (Value.int .i64))[j]'_ = old at hcl
      have HS := Lib.hid hst
      have HB := Lib.hid (hb.setCell (p := ⟨b, j, none⟩) hb1 (.int .i64 (q : Int)))
      clear hst hown hb hv
      go_wp2
      go_roundw
      case rel => exact ⟨_, j + 1, q + 1, rfl, by omega, by go_num, by go_num, by show q + 1 = _; rw [hq.out]; omega, by have := hq.out; omega, HS.out, HB.out⟩
      case measure => simp [intOf]; omega
    · obtain rfl : j = n := by omega
      go_wp2
      go_ret
      exact ⟨by have h9 := hq.out; show Ending.returned (Value.int .i64 (q : Int)) = _; rw [h9], hown, hb⟩
set_option maxRecDepth 100000 in
set_option maxHeartbeats 1600000 in
theorem heldInt64S_of (n c : Nat) (ao : Option Addr) (zs : List Int) (w : World) (hn : n ≤ 1000) (hr : IRow w ao n zs) (hm : ∀ j, j < n → zs.getD j 0 = ((1 + j : Nat) : Int)) :
    Calls Try.prog 27 #[.slice ao n c, .int .i64 1] w fun e w' => e = .returned (.int .i64 ((1 + n : Nat) : Int)) ∧ w = w' := by
  have HR := Lib.hid hr
  have HM := Lib.hid hm
  clear hr hm
  go_enter Try.func27, Try.ntmps27
  go_wp2
  go_loop [1, 5] (fun kk i => ∃ j q : Nat, j ≤ n ∧ i = .int .i64 j ∧ kk = .int .i64 q ∧ Hid (q = 1 + j) ∧ q ≤ 1001) (fun _ i => n - (intOf i).toNat)
  case atStart => exact ⟨0, 1, Nat.zero_le _, rfl, rfl, rfl, by omega⟩
  case round =>
    obtain ⟨j, q, hj, rfl, rfl, hq, hq2⟩ := hrel
    by_cases hlt : j < n
    · obtain ⟨a, rfl⟩ := HR.out.addr (by omega)
      have hx := HR.out.cell a rfl j hlt
      rw [HM.out j hlt, ← hq.out] at hx
      go_wp2
      go_round
      case rel => exact ⟨j + 1, q + 1, by omega, by go_num, by go_num, by show q + 1 = _; rw [hq.out]; omega, by have := hq.out; omega⟩
      case measure => simp [intOf]; omega
    · obtain rfl : j = n := by omega
      go_wp2
      go_ret
      exact ⟨by have h9 := hq.out; show Ending.returned (Value.int .i64 (q : Int)) = _; rw [h9]; rfl, rfl⟩
end Go.Proofs.Ytkgijboahjiodaa
