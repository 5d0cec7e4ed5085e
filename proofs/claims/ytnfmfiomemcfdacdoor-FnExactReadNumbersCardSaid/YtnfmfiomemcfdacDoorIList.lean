/- Lists of integers: copied, compared by the law; such a list that came in, opened. -/
import Derived.Test.YtnfmfiomemcfdacDoorList
import Derived.Deep.Slices
import Derived.ProofKit
import Derived.OpenShut
namespace Go.Proofs.YtnfmfiomemcfdacDoor
open Go.RowKit Go.ChangeShapes Go.WideShapes Go.Deep

/-- A slice value of n elements, whose cells hold the numbers zs. -/
structure IRow (w : World) (ao : Option Addr) (n : Nat) (zs : List Int) : Prop where
  len : zs.length = n
  addr : 0 < n → ∃ a : Addr, ao = some a
  cell : ∀ a : Addr, ao = some a → ∀ i, i < n → w.cell? (a.add i) = some (.int .i64 (zs.getD i 0))

theorem IRow.quiet {w w' : World} {ao : Option Addr} {n : Nat} {zs : List Int} (h : IRow w ao n zs) (hq : Quiet w w') : IRow w' ao n zs := by
  obtain ⟨m, rfl⟩ := hq
  exact ⟨h.len, h.addr, fun a ha i hi => h.cell a ha i hi⟩

theorem IRow.below {w w' : World} {ao : Option Addr} {n : Nat} {zs : List Int} (h : IRow w ao n zs) {B : Nat} (hb : Below B w w') (hB : w.heap.size ≤ B) : IRow w' ao n zs :=
  ⟨h.len, h.addr, fun a ha i hi => by
    have hc := h.cell a ha i hi
    rw [hb.cell (p := a.add i) (Nat.lt_of_lt_of_le (World.block_lt_of_cell? w _ hc) hB)]; exact hc⟩

set_option maxHeartbeats 1600000 in
theorem eqInt64S_same (ao bo : Option Addr) (n c c' : Nat) (zs : List Int) (w : World) (ha : IRow w ao n zs) (hb : IRow w bo n zs) (hm : n ≤ 9223372036854775807) :
    Calls Tryd.prog 19 #[.slice ao n c, .slice bo n c'] w fun e w' => e = .returned (.bool true) ∧ Quiet w w' := by
  go_enter Tryd.func19, Tryd.ntmps19
  go_wp2
  go_loopw [5] (fun i w' => ∃ k : Nat, k ≤ n ∧ i = .int .i64 k ∧ Quiet w w') (fun i _ => n - (intOf i).toNat)
  case atStart => exact ⟨0, Nat.zero_le _, rfl, Quiet.refl _⟩
  case round =>
    obtain ⟨k, hk, rfl, hq⟩ := hrel
    by_cases hlt : k < n
    · obtain ⟨a, rfl⟩ := ha.addr (by omega)
      obtain ⟨b, rfl⟩ := hb.addr (by omega)
      have hx := (ha.quiet hq).cell a rfl k hlt
      have hy := (hb.quiet hq).cell b rfl k hlt
      generalize zs.getD k 0 = x at hx hy
      clear ha hb
      rename_i wr
      have hxn : ∀ m, (wr.drewN m).cell? (a.add k) = some (.int .i64 x) := fun m => hx
      have hyn : ∀ m, (wr.drewN m).cell? (b.add k) = some (.int .i64 x) := fun m => hy
      go_wp2
      go_quiet (fail)
      go_wp2
      go_roundw
      case rel => exact ⟨k + 1, by omega, by go_num, hq.trans ⟨_, rfl⟩⟩
      case measure => simp [intOf]; omega
    · go_wp2
      go_ret
      exact ⟨rfl, hq⟩
theorem icells_len (zs : List Int) : (zs.map (Value.int .i64)).length = zs.length := by simp

/-- what has been copied after k rounds -/
def icop (zs : List Int) (n k : Nat) : List Value := (zs.take k).map (Value.int .i64) ++ List.replicate (n - k) (.int .i64 0)
theorem icop_zero (zs : List Int) (n : Nat) : icop zs n 0 = List.replicate n (.int .i64 0) := by simp [icop]
theorem icop_all (zs : List Int) (n : Nat) (h : zs.length = n) : icop zs n n = zs.map (Value.int .i64) := by
  simp [icop, ← h]
theorem icop_succ (zs : List Int) (n k : Nat) (h : zs.length = n) (hk : k < n) : (icop zs n k).set k (.int .i64 (zs.getD k 0)) = icop zs n (k + 1) := by
  unfold icop
  have h1 : ((zs.take k).map (Value.int .i64)).length = k := by simp; omega
  have h2 : n - k = (n - (k + 1)) + 1 := by omega
  rw [h2, List.replicate_succ, List.set_append_right _ _ (by omega), h1, Nat.sub_self, List.set_cons_zero]
  rw [List.take_succ_eq_append_getElem (by omega), List.map_append, List.append_assoc]
  congr 1
  simp [List.getD, List.getElem?_eq_getElem (show k < zs.length by omega)]

theorem made_i64 (n : Nat) : (madeCells (Value.int .i64 0).cells (n * 1)).toList = List.replicate n (.int .i64 0) := by
  rw [Nat.mul_one]
  simp only [madeCells, Value.cells]
  apply List.ext_getElem
  · simp
  · intro i h1 h2
    simp [Nat.mod_one]

theorem i64info : (Tryd.prog.info? 2).map (fun i => (i.zero, i.size, i.bytes)) = some (some (.int .i64 0), 1, 8) := by kernel_rfl

set_option maxHeartbeats 1600000 in
theorem toInt64S_any (ao : Option Addr) (n c : Nat) (zs : List Int) (w : World) (ha : IRow w ao n zs) (hm : n * 8 ≤ 140737488351232) :
    Calls Tryd.prog 17 #[.slice ao n c] w fun e w' => e = .returned (.slice (some ⟨w.heap.size, 0, none⟩) n n) ∧ IRow w' (some ⟨w.heap.size, 0, none⟩) n zs ∧ Below w.heap.size w w' ∧ w.heap.size < w'.heap.size := by
  obtain ⟨i0, hi, hz0, hz1, hz2⟩ := info_parts i64info
  have hn : zs.length = n := ha.len
  have hm' : n ≤ 9223372036854775807 := by omega
  have hs0 : w.heap.size ≤ w.heap.size := Nat.le_refl _
  go_enter Tryd.func17, Tryd.ntmps17
  go_wp2_with (at_make; go_loud (refine wpList_make_full _ rfl _ _ 30 rfl w.heap.size 2 i0 (.int .i64 0) 1 Tryd.underlying30 hi hz0 hz1 .i64 .i64 _ _ n rfl rfl rfl rfl (by rw [hz2]; omega) (by unfold maxLen; omega) (Nat.le_refl _) ?_); intro w1 hown hgrow)
  have hb1 : Below w.heap.size w w1 := (Below.refl _ _).grown hgrow (Nat.le_refl _) (by simp)
  have hsz1 : w.heap.size < w1.heap.size := by
    rcases hown.2 with ⟨h', _⟩ | ⟨g', cap', cur, h', _, hg, _⟩
    · simp at h'
    · simp only [Value.slice.injEq, Option.some.injEq, Addr.mk.injEq, and_true, true_and] at h'
      obtain ⟨rfl, rfl⟩ := h'
      exact (Array.getElem?_eq_some_iff.1 hg).1
  go_loopw [4] (fun i wr => ∃ k : Nat, k ≤ n ∧ i = .int .i64 k ∧ wr.ownsRow w.heap.size 2 1 (.slice (some ⟨w.heap.size, 0, none⟩) n n) n (icop zs n k) ∧ Below w.heap.size w wr ∧ w1.heap.size ≤ wr.heap.size) (fun i _ => n - (intOf i).toNat)
  case atStart => exact ⟨0, Nat.zero_le _, rfl, by rw [icop_zero, ← made_i64]; exact hown, hb1, Nat.le_refl _⟩
  case round =>
    obtain ⟨k, hk, rfl, hownk, hbk, hszk⟩ := hrel
    clear hown hgrow
    by_cases hlt' : k < n
    · obtain ⟨a, rfl⟩ := ha.addr (by omega)
      have hx := (ha.below hbk (Nat.le_refl _)).cell a rfl k hlt'
      have hst := hownk.stored k (.int .i64 (zs.getD k 0))
      rw [icop_succ zs n k hn hlt'] at hst
      have hfr := hownk.frozenAt k
      have hcl := hownk.cellAt k (by omega)
      rw [List.getElem?_eq_getElem (by rw [hownk.1]; omega)] at hcl
      generalize (icop zs n k)[k]'_ = old at hcl
      generalize zs.getD k 0 = x at hx hst
      obtain ⟨hst1, hst2⟩ := hst
      have hst1' := Lib.hid hst1
      have hst2' := Lib.hid hst2
      have hown' := Lib.hid hownk
      clear hst1 hst2 hownk ha
      have hbk' := Lib.hid (hbk.setCell (p := ⟨w.heap.size, k, none⟩) (Nat.le_refl _) (.int .i64 x))
      clear hbk
      go_wp2
      go_roundw
      case rel => exact ⟨k + 1, by omega, by go_num, hst1'.out, hbk'.out, by simpa using hszk⟩
      case measure => simp [intOf]; omega
    · obtain rfl : k = n := by omega
      go_wp2
      go_ret
      rw [icop_all zs k hn] at hownk
      refine ⟨rfl, ⟨hn, fun _ => ⟨_, rfl⟩, fun a ha' i hi' => ?_⟩, hbk, by omega⟩
      obtain rfl := Option.some.inj ha'
      have := hownk.cellAt i (by omega)
      rw [show (⟨w.heap.size, 0, none⟩ : Addr).add i = ⟨w.heap.size, i, none⟩ by unfold Addr.add; split <;> simp_all]
      rw [this, List.getElem?_map, List.getElem?_eq_getElem (by omega)]
      simp [List.getD, List.getElem?_eq_getElem (show i < zs.length by omega)]
theorem trod_i64 {H : Type} {enc : TypeId × Value → H} {P : Program} {w : World} {base : Nat} {spare : Nat → Bool} {held : Bool} {t : TypeId} {fuel : Nat} {cs : List Value} {x : DataW H × List MemPlace}
    (ht : P.underlying t = some (.int .i64)) (h : DataW.trod enc P w base spare held fuel t cs = some x) : ∃ b, cs = [.int .i64 b] ∧ (Lit.int .i64 b).wf = true := by
  cases fuel with
  | zero => simp [DataW.trod] at h
  | succ n =>
    unfold DataW.trod at h
    rw [ht] at h
    split at h <;> simp_all

theorem open_ints64 {H : Type} {enc : TypeId × Value → H} {P : Program} {W : World} {t e : TypeId} {ao : Option Addr} {n c : Nat} {d : DataW H} {ps : List MemPlace}
    (ht : P.underlying t = some (.slice e)) (he : P.underlying e = some (.int .i64)) (hc : P.cellsOf e = 1) (h : DataW.Trod enc P W 0 (fun _ => true) true t (.slice ao n c) d ps) :
    ∃ zs : List Int, IRow W ao n zs ∧ ∀ x ∈ zs, -9223372036854775808 ≤ x ∧ x ≤ 9223372036854775807 := by
  obtain ⟨fuel, hf⟩ := h
  rcases open_slice1 ht hc hf with ⟨hcs, _⟩ | ⟨a, len, cap, m, k, V, D, Pl, hcs, _, hl, _, hm, _, hx⟩
  · simp [Value.cells] at hcs
    obtain ⟨rfl, rfl, rfl⟩ := hcs
    exact ⟨[], ⟨rfl, fun h => by omega, fun a ha => by cases ha⟩, by simp⟩
  · simp [Value.cells] at hcs
    obtain ⟨rfl, rfl, rfl⟩ := hcs
    have hnm : n ≤ m := by rw [hm]; simp; exact hl
    obtain ⟨g, hg⟩ := choose_lt (n := n) (p := fun i b => V i = .int .i64 b ∧ (-9223372036854775808 ≤ b ∧ b ≤ 9223372036854775807)) (fun i hi => by
      obtain ⟨b, hb, hw⟩ := trod_i64 he (hx i (by omega)).2
      exact ⟨b, by simpa using hb, bounds_i64 hw⟩)
    refine ⟨(List.range n).map g, ⟨by simp, fun _ => ⟨a, rfl⟩, fun a' ha' i hi => ?_⟩, ?_⟩
    · obtain rfl := Option.some.inj ha'
      rw [(hx i (by omega)).1, (hg i hi).1]
      simp [List.getD, hi]
    · intro x hx'
      simp only [List.mem_map, List.mem_range] at hx'
      obtain ⟨i, hi, rfl⟩ := hx'
      exact (hg i hi).2
end Go.Proofs.YtnfmfiomemcfdacDoor
