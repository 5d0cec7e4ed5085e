/- Lists of strings that are given: marked and found again by the law. -/
import Derived.Test.YtokllkngikcoiaaDoorMk
import Derived.Deep.RegionWith
namespace Go.Proofs.YtokllkngikcoiaaDoor
open Go.RowKit

theorem srow_own {w : World} {base n : Nat} {v : Value} {zs : List ByteArray} (h : w.ownsRow base 9 1 v n (zs.map Value.string)) :
    ∃ (ao : Option Addr) (c : Nat), v = .slice ao n c ∧ SRow w ao n zs ∧ (∀ a, ao = some a → base ≤ a.block ∧ a.block < w.heap.size) := by
  obtain ⟨h1, h2⟩ := h
  have hl : zs.length = n := by simpa using h1
  rcases h2 with ⟨rfl, rfl⟩ | ⟨g, cap, cur, rfl, hb, hh, _, _, hs, ht⟩
  · exact ⟨none, 0, rfl, ⟨hl, fun h => by omega, fun a ha => by cases ha⟩, fun a ha => by cases ha⟩
  · refine ⟨_, _, rfl, ⟨hl, fun _ => ⟨_, rfl⟩, fun a ha i hi => ?_⟩, fun a ha => ?_⟩
    · obtain rfl := Option.some.inj ha
      rw [show (⟨g, 0, none⟩ : Addr).add i = ⟨g, i, none⟩ by unfold Addr.add; split <;> simp_all]
      have h3 : (cur.toList.take (n * 1))[i]? = some (.string (zs.getD i ⟨#[]⟩)) := by rw [ht]; simp [List.getD, List.getElem?_eq_getElem (show i < zs.length by omega)]
      rw [List.getElem?_take, if_pos (by omega)] at h3
      rw [cell_of_row w g i cur 9 (0, 0) hh]
      simpa using h3
    · obtain rfl := Option.some.inj ha
      exact ⟨hb, (Array.getElem?_eq_some_iff.1 hh).1⟩
theorem SRow.keep {w w' : World} {ao : Option Addr} {n B : Nat} {zs : List ByteArray} (h : SRow w ao n zs) (hb : Below B w w') (hB : ∀ a, ao = some a → a.block < B) : SRow w' ao n zs :=
  ⟨h.len, h.addr, fun a ha i hi => by
    have hc := h.cell a ha i hi
    rw [hb.cell (p := a.add i) (by have := hB a ha; unfold Addr.add; split <;> exact this)]; exact hc⟩
theorem srow_own' {w : World} {base n c : Nat} {ao : Option Addr} {zs : List ByteArray} (h : w.ownsRow base 9 1 (.slice ao n c) n (zs.map Value.string)) : SRow w ao n zs := by
  obtain ⟨ao', c', hv, hr, _⟩ := srow_own h
  obtain ⟨rfl, rfl⟩ : ao = ao' ∧ c = c' := by simpa using hv
  exact hr
/-- the first k texts marked -/
def mksS (zs : List ByteArray) (k : Nat) : List ByteArray := (List.range k).map (fun j => mkT (1 + j)) ++ zs.drop k
theorem mksS_set (zs : List ByteArray) (k : Nat) (h : k < zs.length) : ((mksS zs k).map Value.string).set k (.string (mkT (1 + k))) = (mksS zs (k + 1)).map Value.string := by
  have e : (zs.drop k).map Value.string = .string zs[k] :: (zs.drop (k + 1)).map Value.string := by rw [List.drop_eq_getElem_cons h]; rfl
  unfold mksS
  rw [List.map_append, e, List.set_append_right _ _ (by simp), List.length_map, List.length_map, List.length_range, Nat.sub_self, List.set_cons_zero, List.range_succ, List.map_append, List.map_append, List.map_append, List.append_assoc]
  rfl
theorem mksS_get (zs : List ByteArray) (n : Nat) (j : Nat) (hj : j < n) : (mksS zs n).getD j ⟨#[]⟩ = mkT (1 + j) := by
  unfold mksS
  rw [List.getD_eq_getElem?_getD, List.getElem?_append_left (by simp; exact hj), List.getElem?_map, List.getElem?_range hj]
  rfl
set_option maxRecDepth 100000 in
set_option maxHeartbeats 1600000 in
theorem markStringS_of (base n c : Nat) (ao : Option Addr) (zs : List ByteArray) (w : World) (hl : zs.length = n) (hn : n ≤ 20000) (hbs : base ≤ w.heap.size) (hown : w.ownsRow base 9 1 (.slice ao n c) n (zs.map Value.string)) :
    Calls Tryd.prog 15 #[.slice ao n c, .int .i64 1] w fun e w' => e = .returned (.int .i64 ((1 + n : Nat) : Int)) ∧ w'.ownsRow base 9 1 (.slice ao n c) n ((mksS zs n).map Value.string) ∧ Below base w w' := by
  have HL := Lib.hid hl
  have HO := Lib.hid hown
  clear hl hown
  go_enter Tryd.func15, Tryd.ntmps15
  go_wp2
  go_loopw [1, 5] (fun kk i wr => ∃ (W : World) (j q : Nat), W = wr ∧ j ≤ n ∧ i = .int .i64 j ∧ kk = .int .i64 q ∧ Hid (q = 1 + j) ∧ q ≤ 20001 ∧ 1 ≤ q ∧ wr.ownsRow base 9 1 (.slice ao n c) n ((mksS zs j).map Value.string) ∧ Below base w wr) (fun _ i _ => n - (intOf i).toNat)
  case atStart => exact ⟨_, 0, 1, rfl, Nat.zero_le _, rfl, rfl, rfl, by omega, by omega, HO.out, Below.refl _ _⟩
  case round =>
    clear HO
    obtain ⟨W, j, q, rfl, hj, rfl, rfl, hq, hq2, hq1, hown, hb⟩ := hrel
    have HO := Lib.hid hown
    have HB := Lib.hid hb
    by_cases hlt : j < n
    · obtain ⟨b, cap, hv, hb1, hb2⟩ := own_form1 hown (by omega)
      obtain ⟨rfl, rfl⟩ : ao = some ⟨b, 0, none⟩ ∧ c = cap := by simpa using hv
      have HM := Lib.hid (markText_of q W hq1 (by omega))
      have hWs := hb.size
      have hfr := hown.frozenAt j
      have hcl := hown.cellAt j (by omega)
      rw [List.getElem?_eq_getElem (by rw [hown.1]; omega)] at hcl
      generalize ((mksS zs j).map Value.string)[j]'_ = old at hcl
      clear hown hb hv
      generalize hT : mkT q = T at HM
      have HT := Lib.hid hT
      clear hT
      go_wp2_with (go_at_call 28; ((with_reducible refine (HM.out).mono ?_); rintro e w2 ⟨rfl, hb2'⟩; have hfr2 : w2.frozen? ⟨b, j, none⟩ = false := ((hb2'.frozen (p := ⟨b, j, none⟩) hb2).trans hfr); have hcl2 : w2.cell? ⟨b, j, none⟩ = some old := ((hb2'.cell (p := ⟨b, j, none⟩) hb2).trans hcl); have HO2 := Lib.hid (own_below HO.out hb2' (Nat.le_refl _)); have HB2 := Lib.hid (HB.out.trans (hb2'.mono (by omega))); clear hb2'))
      go_roundw
      case rel =>
        have hst := (HO2.out.stored j (.string (mkT (1 + j)))).1
        rw [mksS_set zs j (by rw [HL.out]; exact hlt)] at hst
        refine ⟨_, j + 1, q + 1, rfl, by omega, by go_num, by go_num, by show q + 1 = _; rw [hq.out]; omega, by have := hq.out; omega, by omega, ?_, HB2.out.setCell (p := ⟨b, j, none⟩) hb1 _⟩
        rw [← HT.out, hq.out]; exact hst
      case measure => simp [intOf]; omega
    · obtain rfl : j = n := by omega
      clear hown hb
      go_wp2
      go_ret
      exact ⟨by have h9 := hq.out; show Ending.returned (Value.int .i64 (q : Int)) = _; rw [h9], HO.out, HB.out⟩
set_option maxRecDepth 100000 in
set_option maxHeartbeats 1600000 in
theorem heldStringS_of (n c : Nat) (ao : Option Addr) (zs : List ByteArray) (w : World) (hn : n ≤ 20000) (hr : SRow w ao n zs) (hm : ∀ j, j < n → zs.getD j ⟨#[]⟩ = mkT (1 + j)) :
    Calls Tryd.prog 16 #[.slice ao n c, .int .i64 1] w fun e w' => e = .returned (.int .i64 ((1 + n : Nat) : Int)) ∧ Below w.heap.size w w' := by
  have HR := Lib.hid hr
  have HM := Lib.hid hm
  clear hr hm
  go_enter Tryd.func16, Tryd.ntmps16
  go_wp2
  go_loopw [1, 5] (fun kk i wr => ∃ (W : World) (j q : Nat), W = wr ∧ j ≤ n ∧ i = .int .i64 j ∧ kk = .int .i64 q ∧ Hid (q = 1 + j) ∧ q ≤ 20001 ∧ 1 ≤ q ∧ Below w.heap.size w wr) (fun _ i _ => n - (intOf i).toNat)
  case atStart => exact ⟨_, 0, 1, rfl, Nat.zero_le _, rfl, rfl, rfl, by omega, by omega, Below.refl _ _⟩
  case round =>
    obtain ⟨W, j, q, rfl, hj, rfl, rfl, hq, hq2, hq1, hb⟩ := hrel
    have HB := Lib.hid hb
    by_cases hlt : j < n
    · obtain ⟨a, rfl⟩ := HR.out.addr (by omega)
      have hx := (HR.out.below hb (Nat.le_refl _)).cell a rfl j hlt
      rw [HM.out j hlt, ← hq.out] at hx
      have HMk := Lib.hid fun w => markText_of q w hq1 (by omega)
      have hcl := World.block_lt_of_cell? W _ hx
      clear hb
      generalize mkT q = T at hx HMk
      go_wp2
      go_region_with (go_at_call 28; ((with_reducible refine (HMk.out _).mono ?_); rintro e w3 ⟨rfl, hb1⟩; have hx3 : w3.cell? (a.add j) = some (.string T) := ((hb1.cell (p := a.add j) hcl).trans hx); have HB3 := Lib.hid (below_next (below_drewN HB.out 1) hb1); clear hb1))
      all_goals
        go_wp2
        go_roundw
        case rel => exact ⟨_, j + 1, q + 1, rfl, by omega, by go_num, by go_num, by show q + 1 = _; rw [hq.out]; omega, by have := hq.out; omega, by omega, by first | exact HB3.out | exact below_drewN HB3.out _⟩
        case measure => simp [intOf]; omega
    · obtain rfl : j = n := by omega
      clear hb
      go_wp2
      go_ret
      exact ⟨by have h9 := hq.out; show Ending.returned (Value.int .i64 (q : Int)) = _; rw [h9], HB.out⟩
end Go.Proofs.YtokllkngikcoiaaDoor
