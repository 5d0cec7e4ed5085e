/- Lists of integers: copied, compared by the law; such a list that came in, opened. -/
import Derived.Test.YtjcjijfemedojaaGreatDoorList
import Derived.Deep.Slices
import Derived.ProofKit
import Derived.OpenShut
namespace Go.Proofs.YtjcjijfemedojaaGreatDoor
open Go.RowKit Go.ChangeShapes Go.WideShapes Go.Deep

/-- A slice value of n elements, whose cells hold the numbers zs. -/
structure IRow (w : World) (ao : Option Addr) (n : Nat) (zs : List Int) : Prop where
  len : zs.length = n
  addr : 0 < n → ∃ a : Addr, ao = some a
  cell : ∀ a : Addr, ao = some a → ∀ i, i < n → w.cell? (a.add i) = some (.int .i64 (zs.getD i 0))

theorem IRow.quiet {w w' : World} {ao : Option Addr} {n : Nat} {zs : List Int} (h : IRow w ao n zs) (hq : Quiet w w') : IRow w' ao n zs := by
  obtain ⟨m, rfl⟩ := hq
  exact ⟨h.len, h.addr, fun a ha i hi => h.cell a ha i hi⟩

theorem IRow.below {w w' : World} {ao : Option Addr} {n : Nat} {zs : List Int} (h : IRow w ao n zs) {B : Nat} (hb : Below B w w') (hB : w.heap.size ≤ B) : IRow w' ao n zs :=
  ⟨h.len, h.addr, fun a ha i hi => by
    have hc := h.cell a ha i hi
    rw [hb.cell (p := a.add i) (Nat.lt_of_lt_of_le (World.block_lt_of_cell? w _ hc) hB)]; exact hc⟩

theorem trod_i64 {H : Type} {enc : TypeId × Value → H} {P : Program} {w : World} {base : Nat} {spare : Nat → Bool} {held : Bool} {t : TypeId} {fuel : Nat} {cs : List Value} {x : DataW H × List MemPlace}
    (ht : P.underlying t = some (.int .i64)) (h : DataW.trod enc P w base spare held fuel t cs = some x) : ∃ b, cs = [.int .i64 b] ∧ (Lit.int .i64 b).wf = true := by
  cases fuel with
  | zero => simp [DataW.trod] at h
  | succ n =>
    unfold DataW.trod at h
    rw [ht] at h
    split at h <;> simp_all

theorem open_ints64 {H : Type} {enc : TypeId × Value → H} {P : Program} {W : World} {t e : TypeId} {ao : Option Addr} {n c : Nat} {d : DataW H} {ps : List MemPlace}
    (ht : P.underlying t = some (.slice e)) (he : P.underlying e = some (.int .i64)) (hc : P.cellsOf e = 1) (h : DataW.Trod enc P W 0 (fun _ => true) true t (.slice ao n c) d ps) :
    ∃ zs : List Int, IRow W ao n zs ∧ ∀ x ∈ zs, -9223372036854775808 ≤ x ∧ x ≤ 9223372036854775807 := by
  obtain ⟨fuel, hf⟩ := h
  rcases open_slice1 ht hc hf with ⟨hcs, _⟩ | ⟨a, len, cap, m, k, V, D, Pl, hcs, _, hl, _, hm, _, hx⟩
  · simp [Value.cells] at hcs
    obtain ⟨rfl, rfl, rfl⟩ := hcs
    exact ⟨[], ⟨rfl, fun h => by omega, fun a ha => by cases ha⟩, by simp⟩
  · simp [Value.cells] at hcs
    obtain ⟨rfl, rfl, rfl⟩ := hcs
    have hnm : n ≤ m := by rw [hm]; simp; exact hl
    obtain ⟨g, hg⟩ := choose_lt (n := n) (p := fun i b => V i = .int .i64 b ∧ (-9223372036854775808 ≤ b ∧ b ≤ 9223372036854775807)) (fun i hi => by
      obtain ⟨b, hb, hw⟩ := trod_i64 he (hx i (by omega)).2
      exact ⟨b, by simpa using hb, bounds_i64 hw⟩)
    refine ⟨(List.range n).map g, ⟨by simp, fun _ => ⟨a, rfl⟩, fun a' ha' i hi => ?_⟩, ?_⟩
    · obtain rfl := Option.some.inj ha'
      rw [(hx i (by omega)).1, (hg i hi).1]
      simp [List.getD, hi]
    · intro x hx'
      simp only [List.mem_map, List.mem_range] at hx'
      obtain ⟨i, hi, rfl⟩ := hx'
      exact (hg i hi).2
end Go.Proofs.YtjcjijfemedojaaGreatDoor
