/- A list of 32-bit numbers that came in, opened: its cells hold numbers that fit. -/
import Derived.Test.YtkgijboahjiodaaList
import Derived.Deep.Slices
import Derived.ProofKit
namespace Go.Proofs.Ytkgijboahjiodaa
open Go.ChangeShapes Go.WideShapes Go.Deep

theorem trod_float {H : Type} {enc : TypeId × Value → H} {P : Program} {w : World} {base : Nat} {spare : Nat → Bool} {held : Bool} {t : TypeId} {k : FloatKind} {fuel : Nat} {cs : List Value} {x : DataW H × List MemPlace}
    (ht : P.underlying t = some (.float k)) (h : DataW.trod enc P w base spare held fuel t cs = some x) : ∃ b, cs = [.float k b] ∧ (Lit.float k b).wf = true := by
  cases fuel with
  | zero => simp [DataW.trod] at h
  | succ n =>
    unfold DataW.trod at h
    rw [ht] at h
    split at h <;> simp_all

theorem open_floats {H : Type} {enc : TypeId × Value → H} {P : Program} {W : World} {t e : TypeId} {ao : Option Addr} {n c : Nat} {d : DataW H} {ps : List MemPlace}
    (ht : P.underlying t = some (.slice e)) (he : P.underlying e = some (.float .f32)) (hc : P.cellsOf e = 1) (h : DataW.Trod enc P W 0 (fun _ => true) true t (.slice ao n c) d ps) :
    ∃ zs : List Nat, FRow W ao n zs ∧ ∀ x ∈ zs, x < 4294967296 := by
  obtain ⟨fuel, hf⟩ := h
  rcases open_slice1 ht hc hf with ⟨hcs, _⟩ | ⟨a, len, cap, m, k, V, D, Pl, hcs, _, hl, _, hm, _, hx⟩
  · simp [Value.cells] at hcs
    obtain ⟨rfl, rfl, rfl⟩ := hcs
    exact ⟨[], ⟨rfl, fun h => by omega, fun a ha => by cases ha⟩, by simp⟩
  · simp [Value.cells] at hcs
    obtain ⟨rfl, rfl, rfl⟩ := hcs
    have hnm : n ≤ m := by rw [hm]; simp; exact hl
    obtain ⟨g, hg⟩ := choose_lt (n := n) (p := fun i b => V i = .float .f32 b ∧ b < 4294967296) (fun i hi => by
      obtain ⟨b, hb, hw⟩ := trod_float he (hx i (by omega)).2
      exact ⟨b, by simpa using hb, by simpa [Lit.wf] using hw⟩)
    refine ⟨(List.range n).map g, ⟨by simp, fun _ => ⟨a, rfl⟩, fun a' ha' i hi => ?_⟩, ?_⟩
    · obtain rfl := Option.some.inj ha'
      rw [(hx i (by omega)).1, (hg i hi).1]
      simp [List.getD, hi]
    · intro x hx'
      simp only [List.mem_map, List.mem_range] at hx'
      obtain ⟨i, hi, rfl⟩ := hx'
      exact (hg i hi).2
end Go.Proofs.Ytkgijboahjiodaa
