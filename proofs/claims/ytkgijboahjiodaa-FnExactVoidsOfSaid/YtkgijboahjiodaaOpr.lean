/- Rules that came in by value, opened: four 32-bit numbers. -/
import Derived.Test.YtkgijboahjiodaaRs
import Derived.Lib.SmallJoins
import Derived.ProofKit
import Derived.OpenShut
namespace Go.Proofs.Ytkgijboahjiodaa
open Go.ChangeShapes Go.WideShapes Go.Deep Go.Joins Go.ChangeAt Go.RowKit

theorem trod_fl {H : Type} {enc : TypeId × Value → H} {P : Program} {w : World} {base : Nat} {spare : Nat → Bool} {held : Bool} {t : TypeId} {k : FloatKind} {fuel : Nat} {cs : List Value} {x : DataW H × List MemPlace}
    (ht : P.underlying t = some (.float k)) (h : DataW.trod enc P w base spare held fuel t cs = some x) : ∃ b, cs = [.float k b] ∧ (Lit.float k b).wf = true := by
  cases fuel with
  | zero => simp [DataW.trod] at h
  | succ n =>
    unfold DataW.trod at h
    rw [ht] at h
    split at h <;> simp_all
theorem trod_f32 {H : Type} {enc : TypeId × Value → H} {P : Program} {w : World} {base : Nat} {spare : Nat → Bool} {held : Bool} {t : TypeId} {fuel : Nat} {v : Value} {x : DataW H × List MemPlace}
    (ht : P.underlying t = some (.float .f32)) (h : DataW.trod enc P w base spare held fuel t [v] = some x) : ∃ b : Nat, v = .float .f32 b ∧ b < 4294967296 := by
  obtain ⟨b, hb, hw⟩ := trod_fl ht h
  exact ⟨b, by simpa using hb, by simpa [Lit.wf] using hw⟩
end Go.Proofs.Ytkgijboahjiodaa
