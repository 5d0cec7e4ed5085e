/- Lists of strings: copied, compared by the law; such a list that came in, opened. -/
import Derived.Test.YtokllkngikcoiaaDoorList
import Derived.Deep.Slices
import Derived.ProofKit
import Derived.OpenShut
import Derived.SliceStrings
import Derived.Lib.Hide
namespace Go.Proofs.YtokllkngikcoiaaDoor
open Go.RowKit Go.ChangeShapes Go.WideShapes Go.Deep

/-- A slice value of n elements, whose cells hold the numbers zs. -/
structure SRow (w : World) (ao : Option Addr) (n : Nat) (zs : List ByteArray) : Prop where
  len : zs.length = n
  addr : 0 < n → ∃ a : Addr, ao = some a
  cell : ∀ a : Addr, ao = some a → ∀ i, i < n → w.cell? (a.add i) = some (.string (zs.getD i ⟨#[]⟩))

theorem SRow.quiet {w w' : World} {ao : Option Addr} {n : Nat} {zs : List ByteArray} (h : SRow w ao n zs) (hq : Quiet w w') : SRow w' ao n zs := by
  obtain ⟨m, rfl⟩ := hq
  exact ⟨h.len, h.addr, fun a ha i hi => h.cell a ha i hi⟩

theorem SRow.below {w w' : World} {ao : Option Addr} {n : Nat} {zs : List ByteArray} (h : SRow w ao n zs) {B : Nat} (hb : Below B w w') (hB : w.heap.size ≤ B) : SRow w' ao n zs :=
  ⟨h.len, h.addr, fun a ha i hi => by
    have hc := h.cell a ha i hi
    rw [hb.cell (p := a.add i) (Nat.lt_of_lt_of_le (World.block_lt_of_cell? w _ hc) hB)]; exact hc⟩

set_option maxHeartbeats 1600000 in
theorem eqStringS_same (ao bo : Option Addr) (n c c' : Nat) (zs : List ByteArray) (w : World) (ha : SRow w ao n zs) (hb : SRow w bo n zs) (hm : n ≤ 9223372036854775807) :
    Calls Tryd.prog 12 #[.slice ao n c, .slice bo n c'] w fun e w' => e = .returned (.bool true) ∧ Quiet w w' := by
  go_enter Tryd.func12, Tryd.ntmps12
  go_wp2
  go_loopw [5] (fun i w' => ∃ k : Nat, k ≤ n ∧ i = .int .i64 k ∧ Quiet w w') (fun i _ => n - (intOf i).toNat)
  case atStart => exact ⟨0, Nat.zero_le _, rfl, Quiet.refl _⟩
  case round =>
    obtain ⟨k, hk, rfl, hq⟩ := hrel
    by_cases hlt : k < n
    · obtain ⟨a, rfl⟩ := ha.addr (by omega)
      obtain ⟨b, rfl⟩ := hb.addr (by omega)
      have hx := (ha.quiet hq).cell a rfl k hlt
      have hy := (hb.quiet hq).cell b rfl k hlt
      generalize zs.getD k ⟨#[]⟩ = x at hx hy
      clear ha hb
      rename_i wr
      have hxn : ∀ m, (wr.drewN m).cell? (a.add k) = some (.string x) := fun m => hx
      have hyn : ∀ m, (wr.drewN m).cell? (b.add k) = some (.string x) := fun m => hy
      go_wp2
      go_quiet (fail)
      go_wp2
      go_roundw
      case rel => exact ⟨k + 1, by omega, by go_num, hq.trans ⟨_, rfl⟩⟩
      case measure => simp [intOf]; omega
    · go_wp2
      go_ret
      exact ⟨rfl, hq⟩
theorem scells_len (zs : List ByteArray) : (zs.map Value.string).length = zs.length := by simp

/-- what has been copied after k rounds -/
def scop (zs : List ByteArray) (n k : Nat) : List Value := (zs.take k).map Value.string ++ List.replicate (n - k) (.string ⟨#[]⟩)
theorem scop_zero (zs : List ByteArray) (n : Nat) : scop zs n 0 = List.replicate n (.string ⟨#[]⟩) := by simp [scop]
theorem scop_all (zs : List ByteArray) (n : Nat) (h : zs.length = n) : scop zs n n = zs.map Value.string := by
  simp [scop, ← h]
theorem scop_succ (zs : List ByteArray) (n k : Nat) (h : zs.length = n) (hk : k < n) : (scop zs n k).set k (.string (zs.getD k ⟨#[]⟩)) = scop zs n (k + 1) := by
  unfold scop
  have h1 : ((zs.take k).map Value.string).length = k := by simp; omega
  have h2 : n - k = (n - (k + 1)) + 1 := by omega
  rw [h2, List.replicate_succ, List.set_append_right _ _ (by omega), h1, Nat.sub_self, List.set_cons_zero]
  rw [List.take_succ_eq_append_getElem (by omega), List.map_append, List.append_assoc]
  congr 1
  simp [List.getD, List.getElem?_eq_getElem (show k < zs.length by omega)]

theorem made_strs (n : Nat) : (madeCells (Value.string ⟨#[]⟩).cells (n * 1)).toList = List.replicate n (.string ⟨#[]⟩) := by
  rw [Nat.mul_one]
  simp only [madeCells, Value.cells]
  apply List.ext_getElem
  · simp
  · intro i h1 h2
    simp [Nat.mod_one]

theorem strinfo : (Tryd.prog.info? 9).map (fun i => (i.zero, i.size, i.bytes)) = some (some (.string ⟨#[]⟩), 1, 16) := by kernel_rfl

set_option maxHeartbeats 1600000 in
theorem toStringS_any (ao : Option Addr) (n c : Nat) (zs : List ByteArray) (w : World) (ha : SRow w ao n zs) (hm : n * 16 ≤ 140737488351232) :
    Calls Tryd.prog 10 #[.slice ao n c] w fun e w' => e = .returned (.slice (some ⟨w.heap.size, 0, none⟩) n n) ∧ SRow w' (some ⟨w.heap.size, 0, none⟩) n zs ∧ Below w.heap.size w w' ∧ w.heap.size < w'.heap.size := by
  obtain ⟨i0, hi, hz0, hz1, hz2⟩ := info_parts strinfo
  have hn : zs.length = n := ha.len
  have hm' : n ≤ 9223372036854775807 := by omega
  have hs0 : w.heap.size ≤ w.heap.size := Nat.le_refl _
  go_enter Tryd.func10, Tryd.ntmps10
  go_wp2_with (at_make; go_loud (refine wpList_make_full _ rfl _ _ 25 rfl w.heap.size 9 i0 (.string ⟨#[]⟩) 1 Tryd.underlying25 hi hz0 hz1 .i64 .i64 _ _ n rfl rfl rfl rfl (by rw [hz2]; omega) (by unfold maxLen; omega) (Nat.le_refl _) ?_); intro w1 hown hgrow)
  have hb1 : Below w.heap.size w w1 := (Below.refl _ _).grown hgrow (Nat.le_refl _) (by simp)
  have hsz1 : w.heap.size < w1.heap.size := by
    rcases hown.2 with ⟨h', _⟩ | ⟨g', cap', cur, h', _, hg, _⟩
    · simp at h'
    · simp only [Value.slice.injEq, Option.some.injEq, Addr.mk.injEq, and_true, true_and] at h'
      obtain ⟨rfl, rfl⟩ := h'
      exact (Array.getElem?_eq_some_iff.1 hg).1
  go_loopw [4] (fun i wr => ∃ k : Nat, k ≤ n ∧ i = .int .i64 k ∧ wr.ownsRow w.heap.size 9 1 (.slice (some ⟨w.heap.size, 0, none⟩) n n) n (scop zs n k) ∧ Below w.heap.size w wr ∧ w1.heap.size ≤ wr.heap.size) (fun i _ => n - (intOf i).toNat)
  case atStart => exact ⟨0, Nat.zero_le _, rfl, by rw [scop_zero, ← made_strs]; exact hown, hb1, Nat.le_refl _⟩
  case round =>
    obtain ⟨k, hk, rfl, hownk, hbk, hszk⟩ := hrel
    clear hown hgrow
    by_cases hlt' : k < n
    · obtain ⟨a, rfl⟩ := ha.addr (by omega)
      have hx := (ha.below hbk (Nat.le_refl _)).cell a rfl k hlt'
      have hst := hownk.stored k (.string (zs.getD k ⟨#[]⟩))
      rw [scop_succ zs n k hn hlt'] at hst
      have hfr := hownk.frozenAt k
      have hcl := hownk.cellAt k (by omega)
      rw [List.getElem?_eq_getElem (by rw [hownk.1]; omega)] at hcl
      generalize (scop zs n k)[k]'_ = old at hcl
      generalize zs.getD k ⟨#[]⟩ = x at hx hst
      obtain ⟨hst1, hst2⟩ := hst
      have hst1' := Lib.hid hst1
      have hst2' := Lib.hid hst2
      have hown' := Lib.hid hownk
      clear hst1 hst2 hownk ha
      have hbk' := Lib.hid (hbk.setCell (p := ⟨w.heap.size, k, none⟩) (Nat.le_refl _) (.string x))
      clear hbk
      go_wp2
      go_roundw
      case rel => exact ⟨k + 1, by omega, by go_num, hst1'.out, hbk'.out, by simpa using hszk⟩
      case measure => simp [intOf]; omega
    · obtain rfl : k = n := by omega
      go_wp2
      go_ret
      rw [scop_all zs k hn] at hownk
      refine ⟨rfl, ⟨hn, fun _ => ⟨_, rfl⟩, fun a ha' i hi' => ?_⟩, hbk, by omega⟩
      obtain rfl := Option.some.inj ha'
      have := hownk.cellAt i (by omega)
      rw [show (⟨w.heap.size, 0, none⟩ : Addr).add i = ⟨w.heap.size, i, none⟩ by unfold Addr.add; split <;> simp_all]
      rw [this, List.getElem?_map, List.getElem?_eq_getElem (by omega)]
      simp [List.getD, List.getElem?_eq_getElem (show i < zs.length by omega)]

theorem open_srow {H : Type} {enc : TypeId × Value → H} {P : Program} {W : World} {t e : TypeId} {ao : Option Addr} {n c : Nat} {d : DataW H} {ps : List MemPlace}
    (ht : P.underlying t = some (.slice e)) (he : P.underlying e = some .string) (hc : P.cellsOf e = 1) (h : DataW.Trod enc P W 0 (fun _ => true) true t (.slice ao n c) d ps) :
    ∃ zs : List ByteArray, SRow W ao n zs ∧ n ≤ 9223372036854775807 ∧ ∀ x ∈ zs, x.size ≤ maxLen := by
  obtain ⟨fuel, hf⟩ := h
  rcases open_strings ht he hc hf with ⟨hcs, _⟩ | ⟨a, len, cap, ss, hcs, _, hl, hml, hss, _, hx, hz⟩
  · simp [Value.cells] at hcs
    obtain ⟨rfl, rfl, rfl⟩ := hcs
    exact ⟨[], ⟨rfl, fun h => by omega, fun a ha => by cases ha⟩, by omega, by simp⟩
  · simp [Value.cells] at hcs
    obtain ⟨rfl, rfl, rfl⟩ := hcs
    have hss : ss.length = c := by simpa using hss
    refine ⟨ss.take n, ⟨by simp; omega, fun _ => ⟨a, rfl⟩, fun a' ha' i hi => ?_⟩, (by unfold maxLen at hml; omega), fun x hx' => hz x (List.mem_of_mem_take hx')⟩
    obtain rfl := Option.some.inj ha'
    rw [hx i (by omega)]
    simp [List.getD, hi]
    rfl
end Go.Proofs.YtokllkngikcoiaaDoor
