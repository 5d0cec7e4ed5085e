/-
  No cell of these rows narrows 'for every input' (looked for: loops, veiled, ifaces, maps, wideKeys, modest, calm, conditions, laid).
  DERIVED. THE GIVEN ROWS OF THIS SEAT. 6 by the template 'for every input the law returns true; each argument reads behind the call as it read before'; 0 by the template 'total and deterministic' (their statements: YtbggklhnnjikjaaTotals.lean).
  GIVEN WITH THE SEED: the statements are not yours to turn. If you find one false, say at which input.
  Laid BY PROGRAM, IN A SANDBOX (cutbox-rows.mjs): the forced cells as the released guide's own fill.sh prints them over the translation 8b4f1ae01c4ee1e8… (all of the seat's roots in one cut). By AI agents, Wed Nov 11 2026. No macro, syntax, notation, axiom, sorry.
-/
import Derived.Test.YtbggklhnnjikjaaChecked
import GoSem.Claim
import GoSem.ClaimJoined
import GoSem.ClaimMapViews
import Derived.JoinedTies
import Derived.KernelRfl
namespace Go.Proofs.Ytbggklhnnjikjaa
/- THE CELL 'sum', in the pinned program and in every row, IS THE sha256 OF THE DUMP (.gsa) THAT YtbggklhnnjikjaaProg.lean LOADS. Nothing in Lean hashes anything: it is a label: what it is worth is what the hold of that sum in a sandbox is worth. -/
noncomputable def Try.pinned : Pinned := { name := "ytbggklhnnjikjaa", sum := "8b4f1ae01c4ee1e87f1dc280a7b023b15f5577dbb34f554e083cfd629fc38f2f", checked := Try.checked }
namespace Rows
def none {H : Type} : Left H := { results := [], args := [] }

/-- 'laws.FnHeaps': WHATEVER THE INPUT: true; the input reads as it did. -/
def fnHeapsSpec : ChangeSpec := { name := "fnHeaps", fn := fun _ => fun
  | [d1, d2] => { results := [.lit (.bool true)], args := [d1, d2] }
  | _ => none }
def fnHeapsRow : OpenClaim := { program := "ytbggklhnnjikjaa", sum := "8b4f1ae01c4ee1e87f1dc280a7b023b15f5577dbb34f554e083cfd629fc38f2f", func := "loop.example/g01268/laws.FnHeaps", spec := "fnHeaps", inPlace := ["math.Float64bits", "math.Float64frombits", "math.Float32bits", "math.sqrt"], unfollowed := true, recurses := true, apart := false }
def FnHeapsSaid : Prop := fnHeapsRow.holds Try.pinned (OpenSpec.ofChange fnHeapsSpec)

/-- ITS FALSE NEIGHBOUR: 'it returns false'. Refute it at one input. -/
def fnHeapsWrong : ChangeSpec := { name := "fnHeaps", fn := fun _ => fun
  | [d1, d2] => { results := [.lit (.bool false)], args := [d1, d2] }
  | _ => none }
def FnHeapsWrongFalsely : Prop := fnHeapsRow.holds Try.pinned (OpenSpec.ofChange fnHeapsWrong)

/-- 'laws.FnExactAxesOfStress': WHATEVER THE INPUT: true; the input reads as it did. -/
def fnExactAxesOfStressSpec : ChangeSpec := { name := "fnExactAxesOfStress", fn := fun _ => fun
  | [d] => { results := [.lit (.bool true)], args := [d] }
  | _ => none }
def fnExactAxesOfStressRow : OpenClaim := { program := "ytbggklhnnjikjaa", sum := "8b4f1ae01c4ee1e87f1dc280a7b023b15f5577dbb34f554e083cfd629fc38f2f", func := "loop.example/g01268/laws.FnExactAxesOfStress", spec := "fnExactAxesOfStress", inPlace := ["math.sqrt", "math.Float64frombits", "math.Float64bits"], apart := false }
def FnExactAxesOfStressSaid : Prop := fnExactAxesOfStressRow.holds Try.pinned (OpenSpec.ofChange fnExactAxesOfStressSpec)

/-- ITS FALSE NEIGHBOUR: 'it returns false'. Refute it at one input. -/
def fnExactAxesOfStressWrong : ChangeSpec := { name := "fnExactAxesOfStress", fn := fun _ => fun
  | [d] => { results := [.lit (.bool false)], args := [d] }
  | _ => none }
def FnExactAxesOfStressWrongFalsely : Prop := fnExactAxesOfStressRow.holds Try.pinned (OpenSpec.ofChange fnExactAxesOfStressWrong)

/-- 'laws.FnExactValidView': WHATEVER THE INPUT: true; the input reads as it did. -/
def fnExactValidViewSpec : ChangeSpec := { name := "fnExactValidView", fn := fun _ => fun
  | [d] => { results := [.lit (.bool true)], args := [d] }
  | _ => none }
def fnExactValidViewRow : OpenClaim := { program := "ytbggklhnnjikjaa", sum := "8b4f1ae01c4ee1e87f1dc280a7b023b15f5577dbb34f554e083cfd629fc38f2f", func := "loop.example/g01268/laws.FnExactValidView", spec := "fnExactValidView", inPlace := ["math.Float64bits", "math.Float64frombits"], apart := false }
def FnExactValidViewSaid : Prop := fnExactValidViewRow.holds Try.pinned (OpenSpec.ofChange fnExactValidViewSpec)

/-- ITS FALSE NEIGHBOUR: 'it returns false'. Refute it at one input. -/
def fnExactValidViewWrong : ChangeSpec := { name := "fnExactValidView", fn := fun _ => fun
  | [d] => { results := [.lit (.bool false)], args := [d] }
  | _ => none }
def FnExactValidViewWrongFalsely : Prop := fnExactValidViewRow.holds Try.pinned (OpenSpec.ofChange fnExactValidViewWrong)

/-- 'laws.FnExactSameView': WHATEVER THE INPUT: true; the input reads as it did. -/
def fnExactSameViewSpec : ChangeSpec := { name := "fnExactSameView", fn := fun _ => fun
  | [d1, d2] => { results := [.lit (.bool true)], args := [d1, d2] }
  | _ => none }
def fnExactSameViewRow : OpenClaim := { program := "ytbggklhnnjikjaa", sum := "8b4f1ae01c4ee1e87f1dc280a7b023b15f5577dbb34f554e083cfd629fc38f2f", func := "loop.example/g01268/laws.FnExactSameView", spec := "fnExactSameView", inPlace := ["math.Float32bits"], unfollowed := true, recurses := true, apart := false }
def FnExactSameViewSaid : Prop := fnExactSameViewRow.holds Try.pinned (OpenSpec.ofChange fnExactSameViewSpec)

/-- ITS FALSE NEIGHBOUR: 'it returns false'. Refute it at one input. -/
def fnExactSameViewWrong : ChangeSpec := { name := "fnExactSameView", fn := fun _ => fun
  | [d1, d2] => { results := [.lit (.bool false)], args := [d1, d2] }
  | _ => none }
def FnExactSameViewWrongFalsely : Prop := fnExactSameViewRow.holds Try.pinned (OpenSpec.ofChange fnExactSameViewWrong)

/-- 'laws.FnExactMeanOfView': WHATEVER THE INPUT: true; the input reads as it did. -/
def fnExactMeanOfViewSpec : ChangeSpec := { name := "fnExactMeanOfView", fn := fun _ => fun
  | [d] => { results := [.lit (.bool true)], args := [d] }
  | _ => none }
def fnExactMeanOfViewRow : OpenClaim := { program := "ytbggklhnnjikjaa", sum := "8b4f1ae01c4ee1e87f1dc280a7b023b15f5577dbb34f554e083cfd629fc38f2f", func := "loop.example/g01268/laws.FnExactMeanOfView", spec := "fnExactMeanOfView", inPlace := ["math.Float64bits", "math.Float64frombits"], apart := false }
def FnExactMeanOfViewSaid : Prop := fnExactMeanOfViewRow.holds Try.pinned (OpenSpec.ofChange fnExactMeanOfViewSpec)

/-- ITS FALSE NEIGHBOUR: 'it returns false'. Refute it at one input. -/
def fnExactMeanOfViewWrong : ChangeSpec := { name := "fnExactMeanOfView", fn := fun _ => fun
  | [d] => { results := [.lit (.bool false)], args := [d] }
  | _ => none }
def FnExactMeanOfViewWrongFalsely : Prop := fnExactMeanOfViewRow.holds Try.pinned (OpenSpec.ofChange fnExactMeanOfViewWrong)

/-- 'laws.FnExactVoidsOf': WHATEVER THE INPUT: true; the input reads as it did. -/
def fnExactVoidsOfSpec : ChangeSpec := { name := "fnExactVoidsOf", fn := fun _ => fun
  | [d1, d2] => { results := [.lit (.bool true)], args := [d1, d2] }
  | _ => none }
def fnExactVoidsOfRow : OpenClaim := { program := "ytbggklhnnjikjaa", sum := "8b4f1ae01c4ee1e87f1dc280a7b023b15f5577dbb34f554e083cfd629fc38f2f", func := "loop.example/g01268/laws.FnExactVoidsOf", spec := "fnExactVoidsOf", inPlace := ["math.Float64bits", "math.Float64frombits"], unfollowed := true, recurses := true, apart := false }
def FnExactVoidsOfSaid : Prop := fnExactVoidsOfRow.holds Try.pinned (OpenSpec.ofChange fnExactVoidsOfSpec)

/-- ITS FALSE NEIGHBOUR: 'it returns false'. Refute it at one input. -/
def fnExactVoidsOfWrong : ChangeSpec := { name := "fnExactVoidsOf", fn := fun _ => fun
  | [d1, d2] => { results := [.lit (.bool false)], args := [d1, d2] }
  | _ => none }
def FnExactVoidsOfWrongFalsely : Prop := fnExactVoidsOfRow.holds Try.pinned (OpenSpec.ofChange fnExactVoidsOfWrong)

/- THE SECOND FORM. 'bulk': how many values and letters a reading holds, each counted each time it is reached (what is shared counts as often as it is met; a slice's spare places count too). A statement '..UptoSaid' is the law's where the arguments, and the package variables that the reading takes, are together of bulk at most 1048576: NARROWER than '..Said'. Prove '..Said' where nothing that the law and all that it calls make is longer than what came in: it says more and counts as full. Else prove '..UptoSaid'. A law counts once. -/
mutual
def uptoBulk {H : Type} : DataW H → Nat
  | .lit (.string bytes) => bytes.length + 1
  | .lit _ => 1
  | .nil => 1
  | .ptr d => uptoBulk d + 1
  | .slice elems spare => uptoBulkAll elems + uptoBulkAll spare + 1
  | .agg parts => uptoBulkAll parts + 1
  | .iface _ d => uptoBulk d + 1
  | .map entries => uptoBulkEntries entries + 1
  | .held _ => 1
def uptoBulkAll {H : Type} : List (DataW H) → Nat
  | [] => 0
  | d :: r => uptoBulk d + uptoBulkAll r
def uptoBulkEntries {H : Type} : List (Lit × DataW H) → Nat
  | [] => 0
  | x :: r => uptoBulkEntry x + uptoBulkEntries r
def uptoBulkEntry {H : Type} : Lit × DataW H → Nat
  | (.string bytes, d) => bytes.length + uptoBulk d + 1
  | (_, d) => uptoBulk d + 1
 end
def uptoSmall : (H : Type) → List (DataW H) → Bool := fun _ ds => decide (uptoBulkAll ds ≤ 1048576)
def OpenSpec.upto (s : _root_.Go.ChangeSpec) : _root_.Go.OpenSpec := { _root_.Go.OpenSpec.ofChange s with cond := some uptoSmall }

/-- 'laws.FnHeaps', WHERE WHAT IT READS IS OF BULK AT MOST 1048576: true; the input reads as it did. -/
def fnHeapsUptoRow : OpenClaim := { program := "ytbggklhnnjikjaa", sum := "8b4f1ae01c4ee1e87f1dc280a7b023b15f5577dbb34f554e083cfd629fc38f2f", func := "loop.example/g01268/laws.FnHeaps", spec := "fnHeaps", inPlace := ["math.Float64bits", "math.Float64frombits", "math.Float32bits", "math.sqrt"], unfollowed := true, recurses := true, apart := false, narrowed := true }
def FnHeapsUptoSaid : Prop := fnHeapsUptoRow.holds Try.pinned (OpenSpec.upto fnHeapsSpec)

/-- 'laws.FnExactAxesOfStress', WHERE WHAT IT READS IS OF BULK AT MOST 1048576: true; the input reads as it did. -/
def fnExactAxesOfStressUptoRow : OpenClaim := { program := "ytbggklhnnjikjaa", sum := "8b4f1ae01c4ee1e87f1dc280a7b023b15f5577dbb34f554e083cfd629fc38f2f", func := "loop.example/g01268/laws.FnExactAxesOfStress", spec := "fnExactAxesOfStress", inPlace := ["math.sqrt", "math.Float64frombits", "math.Float64bits"], apart := false, narrowed := true }
def FnExactAxesOfStressUptoSaid : Prop := fnExactAxesOfStressUptoRow.holds Try.pinned (OpenSpec.upto fnExactAxesOfStressSpec)

/-- 'laws.FnExactValidView', WHERE WHAT IT READS IS OF BULK AT MOST 1048576: true; the input reads as it did. -/
def fnExactValidViewUptoRow : OpenClaim := { program := "ytbggklhnnjikjaa", sum := "8b4f1ae01c4ee1e87f1dc280a7b023b15f5577dbb34f554e083cfd629fc38f2f", func := "loop.example/g01268/laws.FnExactValidView", spec := "fnExactValidView", inPlace := ["math.Float64bits", "math.Float64frombits"], apart := false, narrowed := true }
def FnExactValidViewUptoSaid : Prop := fnExactValidViewUptoRow.holds Try.pinned (OpenSpec.upto fnExactValidViewSpec)

/-- 'laws.FnExactSameView', WHERE WHAT IT READS IS OF BULK AT MOST 1048576: true; the input reads as it did. -/
def fnExactSameViewUptoRow : OpenClaim := { program := "ytbggklhnnjikjaa", sum := "8b4f1ae01c4ee1e87f1dc280a7b023b15f5577dbb34f554e083cfd629fc38f2f", func := "loop.example/g01268/laws.FnExactSameView", spec := "fnExactSameView", inPlace := ["math.Float32bits"], unfollowed := true, recurses := true, apart := false, narrowed := true }
def FnExactSameViewUptoSaid : Prop := fnExactSameViewUptoRow.holds Try.pinned (OpenSpec.upto fnExactSameViewSpec)

/-- 'laws.FnExactMeanOfView', WHERE WHAT IT READS IS OF BULK AT MOST 1048576: true; the input reads as it did. -/
def fnExactMeanOfViewUptoRow : OpenClaim := { program := "ytbggklhnnjikjaa", sum := "8b4f1ae01c4ee1e87f1dc280a7b023b15f5577dbb34f554e083cfd629fc38f2f", func := "loop.example/g01268/laws.FnExactMeanOfView", spec := "fnExactMeanOfView", inPlace := ["math.Float64bits", "math.Float64frombits"], apart := false, narrowed := true }
def FnExactMeanOfViewUptoSaid : Prop := fnExactMeanOfViewUptoRow.holds Try.pinned (OpenSpec.upto fnExactMeanOfViewSpec)

/-- 'laws.FnExactVoidsOf', WHERE WHAT IT READS IS OF BULK AT MOST 1048576: true; the input reads as it did. -/
def fnExactVoidsOfUptoRow : OpenClaim := { program := "ytbggklhnnjikjaa", sum := "8b4f1ae01c4ee1e87f1dc280a7b023b15f5577dbb34f554e083cfd629fc38f2f", func := "loop.example/g01268/laws.FnExactVoidsOf", spec := "fnExactVoidsOf", inPlace := ["math.Float64bits", "math.Float64frombits"], unfollowed := true, recurses := true, apart := false, narrowed := true }
def FnExactVoidsOfUptoSaid : Prop := fnExactVoidsOfUptoRow.holds Try.pinned (OpenSpec.upto fnExactVoidsOfSpec)

end Rows
end Go.Proofs.Ytbggklhnnjikjaa
