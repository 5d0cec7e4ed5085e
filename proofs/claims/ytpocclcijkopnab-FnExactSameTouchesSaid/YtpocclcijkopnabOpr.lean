/- Rules that came in by value, opened: four 32-bit numbers. -/
import Derived.Test.YtpocclcijkopnabRs
import Derived.Lib.SmallJoins
import Derived.ProofKit
import Derived.OpenShut
namespace Go.Proofs.Ytpocclcijkopnab
open Go.ChangeShapes Go.WideShapes Go.Deep Go.Joins Go.ChangeAt Go.RowKit

theorem trod_fl {H : Type} {enc : TypeId × Value → H} {P : Program} {w : World} {base : Nat} {spare : Nat → Bool} {held : Bool} {t : TypeId} {k : FloatKind} {fuel : Nat} {cs : List Value} {x : DataW H × List MemPlace}
    (ht : P.underlying t = some (.float k)) (h : DataW.trod enc P w base spare held fuel t cs = some x) : ∃ b, cs = [.float k b] ∧ (Lit.float k b).wf = true := by
  cases fuel with
  | zero => simp [DataW.trod] at h
  | succ n =>
    unfold DataW.trod at h
    rw [ht] at h
    split at h <;> simp_all
theorem trod_f32 {H : Type} {enc : TypeId × Value → H} {P : Program} {w : World} {base : Nat} {spare : Nat → Bool} {held : Bool} {t : TypeId} {fuel : Nat} {v : Value} {x : DataW H × List MemPlace}
    (ht : P.underlying t = some (.float .f32)) (h : DataW.trod enc P w base spare held fuel t [v] = some x) : ∃ b : Nat, v = .float .f32 b ∧ b < 4294967296 := by
  obtain ⟨b, hb, hw⟩ := trod_fl ht h
  exact ⟨b, by simpa using hb, by simpa [Lit.wf] using hw⟩
theorem open_ru {H : Type} {enc : TypeId × Value → H} {W : World} {b0 : Nat} {v : Value} {d : DataW H} {p : List MemPlace}
    (hv : Value.okWide Try.prog W .any b0 24 v) (h : DataW.Trod enc Try.prog W 0 (fun _ => true) true 24 v d p) :
    ∃ a b c e : Nat, v = ruVal a b c e ∧ a < 4294967296 ∧ b < 4294967296 ∧ c < 4294967296 ∧ e < 4294967296 := by
  obtain ⟨c0, c1, c2, c3, y0, y1, y2, y3, m, rfl, -, -, t0, t1, t2, t3⟩ := open_agg4 Try.underlying24 (by kernel_rfl) (by kernel_rfl) hv h
  obtain ⟨a, rfl, ha⟩ := trod_f32 Try.underlying22 t0
  obtain ⟨b, rfl, hb⟩ := trod_f32 Try.underlying22 t1
  obtain ⟨c, rfl, hc⟩ := trod_f32 Try.underlying22 t2
  obtain ⟨e, rfl, he⟩ := trod_f32 Try.underlying22 t3
  exact ⟨a, b, c, e, rfl, ha, hb, hc, he⟩
end Go.Proofs.Ytpocclcijkopnab
