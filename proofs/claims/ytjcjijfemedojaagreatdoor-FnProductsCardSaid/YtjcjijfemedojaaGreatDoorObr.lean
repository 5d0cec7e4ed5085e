/- A list of bytes that came in, opened. -/
import Derived.Test.YtjcjijfemedojaaGreatDoorBrow
import Derived.Deep.Slices
import Derived.ProofKit
import Derived.OpenShut
namespace Go.Proofs.YtjcjijfemedojaaGreatDoor
open Go.ChangeShapes Go.WideShapes Go.Deep Go.RowKit Go.ChangeAt

theorem trod_byte {H : Type} {enc : TypeId × Value → H} {P : Program} {w : World} {base : Nat} {spare : Nat → Bool} {held : Bool} {t : TypeId} {fuel : Nat} {v : Value} {x : DataW H × List MemPlace}
    (ht : P.underlying t = some (.int .u8)) (h : DataW.trod enc P w base spare held fuel t [v] = some x) : ∃ b : Nat, v = .int .u8 b ∧ b < 256 := by
  have key : ∃ b : Int, v = .int .u8 b ∧ (Lit.int .u8 b).wf = true := by
    cases fuel with
    | zero => simp [DataW.trod] at h
    | succ n =>
      unfold DataW.trod at h
      rw [ht] at h
      split at h <;> simp_all
  obtain ⟨b, hb, hw⟩ := key
  have hr := bounds_u8 hw
  obtain ⟨n, rfl⟩ := Int.eq_ofNat_of_zero_le hr.1
  exact ⟨n, hb, by omega⟩
theorem open_brow {H : Type} {enc : TypeId × Value → H} {P : Program} {W : World} {t e : TypeId} {ao : Option Addr} {n c : Nat} {d : DataW H} {ps : List MemPlace}
    (ht : P.underlying t = some (.slice e)) (he : P.underlying e = some (.int .u8)) (hc : P.cellsOf e = 1) (h : DataW.Trod enc P W 0 (fun _ => true) true t (.slice ao n c) d ps) : BRow W ao n := by
  obtain ⟨fuel, hf⟩ := h
  rcases open_slice1 ht hc hf with ⟨hcs, _⟩ | ⟨a, len, cap, m, k, V, D, Pl, hcs, _, hl, hcap, hm, _, hx⟩
  · simp [Value.cells] at hcs
    obtain ⟨rfl, rfl, rfl⟩ := hcs
    exact ⟨by omega, fun h => by omega, fun a ha => by cases ha⟩
  · simp [Value.cells] at hcs
    obtain ⟨rfl, rfl, rfl⟩ := hcs
    have hnm : n ≤ m := by rw [hm]; simp; exact hl
    refine ⟨by unfold maxLen at hcap; omega, fun _ => ⟨a, rfl⟩, fun a' ha' i hi => ?_⟩
    obtain rfl := Option.some.inj ha'
    obtain ⟨b, hb, hlt⟩ := trod_byte he (hx i (by omega)).2
    exact ⟨b, hlt, by rw [(hx i (by omega)).1, hb]⟩
end Go.Proofs.YtjcjijfemedojaaGreatDoor
