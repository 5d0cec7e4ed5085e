/- The power of a complex number as a word that can be worked out. -/
import Derived.Test.YtmkpkkaedhekdaaRoot
import Derived.Laws.ComplexArith
namespace Go.Proofs.Ytmkpkkaedhekdaa
open Go.RowKit Fl

def powF (p : Nat × Nat) : Option Nat :=
  (floatBits .mul .f64 (wide p.1) (wide p.1)).bind fun a => (floatBits .mul .f64 (wide p.2) (wide p.2)).bind fun b => (floatBits .add .f64 a b).bind fun s => floatToFloatBits .f64 s .f32
theorem run_csum {P : Program} (op : BinOp) (hop : op = .add ∨ op = .sub) (t : TypeId) (a b c d re im : Nat) (h1 : floatBits op .f32 a c = some re) (h2 : floatBits op .f32 b d = some im) (w : World) :
    (binOp op t (.complex .f32 a b) (.complex .f32 c d)).run P w = .ok (.complex .f32 re im) w :=
  run_complex_sum w op hop t .f32 a b c d re im (by simp [cSumBits, h1, h2])
end Go.Proofs.Ytmkpkkaedhekdaa
