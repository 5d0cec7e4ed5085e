/- MomentumOf on the program's side. -/
import Derived.Test.YtmkpkkaedhekdaaFh
namespace Go.Proofs.Ytmkpkkaedhekdaa
open Go.RowKit Fl

/-- what is summed up: the parts' words, and the sums' -/
structure SumW (gs : List Gr) (n : Nat) (P Q S T : Nat → Nat) : Prop where
  s0 : S 0 = 0
  t0 : T 0 = 0
  p : ∀ k, k < n → floatBits .mul .f32 (gs.getD k default).sx (gs.getD k default).m = some (P k)
  q : ∀ k, k < n → floatBits .mul .f32 (gs.getD k default).sy (gs.getD k default).m = some (Q k)
  s : ∀ k, k < n → floatBits .add .f32 (S k) (P k) = some (S (k + 1))
  t : ∀ k, k < n → floatBits .add .f32 (T k) (Q k) = some (T (k + 1))
end Go.Proofs.Ytmkpkkaedhekdaa
