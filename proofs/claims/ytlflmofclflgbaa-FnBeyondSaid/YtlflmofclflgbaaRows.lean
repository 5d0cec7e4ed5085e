/-
  No cell of these rows narrows 'for every input' (looked for: loops, veiled, ifaces, maps, wideKeys, modest, calm, conditions, laid).
  DERIVED. THE GIVEN ROWS OF THIS SEAT. 9 by the template 'for every input the law returns true; each argument reads behind the call as it read before'; 0 by the template 'total and deterministic' (their statements: YtlflmofclflgbaaTotals.lean).
  GIVEN WITH THE SEED: the statements are not yours to turn. If you find one false, say at which input.
  Laid BY PROGRAM, IN A SANDBOX (cutbox-rows.mjs): the forced cells as the released guide's own fill.sh prints them over the translation e24eaf8a94f2000f… (all of the seat's roots in one cut). By AI agents, Wed Nov 11 2026. No macro, syntax, notation, axiom, sorry.
-/
import Derived.Test.YtlflmofclflgbaaChecked
import GoSem.Claim
import GoSem.ClaimJoined
import GoSem.ClaimMapViews
import Derived.JoinedTies
import Derived.KernelRfl
namespace Go.Proofs.Ytlflmofclflgbaa
/- THE CELL 'sum', in the pinned program and in every row, IS THE sha256 OF THE DUMP (.gsa) THAT YtlflmofclflgbaaProg.lean LOADS. Nothing in Lean hashes anything: it is a label: what it is worth is what the hold of that sum in a sandbox is worth. -/
noncomputable def Try.pinned : Pinned := { name := "ytlflmofclflgbaa", sum := "e24eaf8a94f2000f4993be797bdea34563384041cb835b51d48f9503691d27d7", checked := Try.checked }
namespace Rows
def none {H : Type} : Left H := { results := [], args := [] }

/-- 'laws.FnHeaps': WHATEVER THE INPUT: true; the input reads as it did. -/
def fnHeapsSpec : ChangeSpec := { name := "fnHeaps", fn := fun _ => fun
  | [d1, d2] => { results := [.lit (.bool true)], args := [d1, d2] }
  | _ => none }
def fnHeapsRow : OpenClaim := { program := "ytlflmofclflgbaa", sum := "e24eaf8a94f2000f4993be797bdea34563384041cb835b51d48f9503691d27d7", func := "loop.example/g01268/laws.FnHeaps", spec := "fnHeaps", inPlace := ["math.Float64bits", "math.Float64frombits", "math.Float32bits", "math.sqrt"], unfollowed := true, recurses := true, plainKeys := false, apart := false }
def FnHeapsSaid : Prop := fnHeapsRow.holds Try.pinned (OpenSpec.ofChange fnHeapsSpec)

/-- ITS FALSE NEIGHBOUR: 'it returns false'. Refute it at one input. -/
def fnHeapsWrong : ChangeSpec := { name := "fnHeaps", fn := fun _ => fun
  | [d1, d2] => { results := [.lit (.bool false)], args := [d1, d2] }
  | _ => none }
def FnHeapsWrongFalsely : Prop := fnHeapsRow.holds Try.pinned (OpenSpec.ofChange fnHeapsWrong)

/-- 'laws.FnFlown': WHATEVER THE INPUT: true; the input reads as it did. -/
def fnFlownSpec : ChangeSpec := { name := "fnFlown", fn := fun _ => fun
  | [d1, d2] => { results := [.lit (.bool true)], args := [d1, d2] }
  | _ => none }
def fnFlownRow : OpenClaim := { program := "ytlflmofclflgbaa", sum := "e24eaf8a94f2000f4993be797bdea34563384041cb835b51d48f9503691d27d7", func := "loop.example/g01268/laws.FnFlown", spec := "fnFlown", inPlace := ["math.Float64bits", "math.Float64frombits", "math.sqrt"], unfollowed := true, recurses := true, plainKeys := false, apart := false }
def FnFlownSaid : Prop := fnFlownRow.holds Try.pinned (OpenSpec.ofChange fnFlownSpec)

/-- ITS FALSE NEIGHBOUR: 'it returns false'. Refute it at one input. -/
def fnFlownWrong : ChangeSpec := { name := "fnFlown", fn := fun _ => fun
  | [d1, d2] => { results := [.lit (.bool false)], args := [d1, d2] }
  | _ => none }
def FnFlownWrongFalsely : Prop := fnFlownRow.holds Try.pinned (OpenSpec.ofChange fnFlownWrong)

/-- 'laws.FnPairs': WHATEVER THE INPUT: true; the input reads as it did. -/
def fnPairsSpec : ChangeSpec := { name := "fnPairs", fn := fun _ => fun
  | [d1, d2] => { results := [.lit (.bool true)], args := [d1, d2] }
  | _ => none }
def fnPairsRow : OpenClaim := { program := "ytlflmofclflgbaa", sum := "e24eaf8a94f2000f4993be797bdea34563384041cb835b51d48f9503691d27d7", func := "loop.example/g01268/laws.FnPairs", spec := "fnPairs", inPlace := ["math.Float64bits", "math.Float64frombits", "math.sqrt", "math.archFloor", "math.archTrunc"], unfollowed := true, recurses := true, plainKeys := false, apart := false }
def FnPairsSaid : Prop := fnPairsRow.holds Try.pinned (OpenSpec.ofChange fnPairsSpec)

/-- ITS FALSE NEIGHBOUR: 'it returns false'. Refute it at one input. -/
def fnPairsWrong : ChangeSpec := { name := "fnPairs", fn := fun _ => fun
  | [d1, d2] => { results := [.lit (.bool false)], args := [d1, d2] }
  | _ => none }
def FnPairsWrongFalsely : Prop := fnPairsRow.holds Try.pinned (OpenSpec.ofChange fnPairsWrong)

/-- 'laws.FnWalls': WHATEVER THE INPUT: true; the input reads as it did. -/
def fnWallsSpec : ChangeSpec := { name := "fnWalls", fn := fun _ => fun
  | [d1, d2] => { results := [.lit (.bool true)], args := [d1, d2] }
  | _ => none }
def fnWallsRow : OpenClaim := { program := "ytlflmofclflgbaa", sum := "e24eaf8a94f2000f4993be797bdea34563384041cb835b51d48f9503691d27d7", func := "loop.example/g01268/laws.FnWalls", spec := "fnWalls", inPlace := ["math.Float64bits", "math.Float64frombits", "math.sqrt", "math.Float32bits"], unfollowed := true, recurses := true, plainKeys := false, apart := false }
def FnWallsSaid : Prop := fnWallsRow.holds Try.pinned (OpenSpec.ofChange fnWallsSpec)

/-- ITS FALSE NEIGHBOUR: 'it returns false'. Refute it at one input. -/
def fnWallsWrong : ChangeSpec := { name := "fnWalls", fn := fun _ => fun
  | [d1, d2] => { results := [.lit (.bool false)], args := [d1, d2] }
  | _ => none }
def FnWallsWrongFalsely : Prop := fnWallsRow.holds Try.pinned (OpenSpec.ofChange fnWallsWrong)

/-- 'laws.FnWallPushes': WHATEVER THE INPUT: true; the input reads as it did. -/
def fnWallPushesSpec : ChangeSpec := { name := "fnWallPushes", fn := fun _ => fun
  | [d1, d2] => { results := [.lit (.bool true)], args := [d1, d2] }
  | _ => none }
def fnWallPushesRow : OpenClaim := { program := "ytlflmofclflgbaa", sum := "e24eaf8a94f2000f4993be797bdea34563384041cb835b51d48f9503691d27d7", func := "loop.example/g01268/laws.FnWallPushes", spec := "fnWallPushes", inPlace := ["math.Float64bits", "math.Float64frombits", "math.sqrt"], unfollowed := true, recurses := true, plainKeys := false, apart := false }
def FnWallPushesSaid : Prop := fnWallPushesRow.holds Try.pinned (OpenSpec.ofChange fnWallPushesSpec)

/-- ITS FALSE NEIGHBOUR: 'it returns false'. Refute it at one input. -/
def fnWallPushesWrong : ChangeSpec := { name := "fnWallPushes", fn := fun _ => fun
  | [d1, d2] => { results := [.lit (.bool false)], args := [d1, d2] }
  | _ => none }
def FnWallPushesWrongFalsely : Prop := fnWallPushesRow.holds Try.pinned (OpenSpec.ofChange fnWallPushesWrong)

/-- 'laws.FnBeyond': WHATEVER THE INPUT: true; the input reads as it did. -/
def fnBeyondSpec : ChangeSpec := { name := "fnBeyond", fn := fun _ => fun
  | [d1, d2] => { results := [.lit (.bool true)], args := [d1, d2] }
  | _ => none }
def fnBeyondRow : OpenClaim := { program := "ytlflmofclflgbaa", sum := "e24eaf8a94f2000f4993be797bdea34563384041cb835b51d48f9503691d27d7", func := "loop.example/g01268/laws.FnBeyond", spec := "fnBeyond", inPlace := ["math.Float64bits", "math.Float64frombits"], plainKeys := false, apart := false }
def FnBeyondSaid : Prop := fnBeyondRow.holds Try.pinned (OpenSpec.ofChange fnBeyondSpec)

/-- ITS FALSE NEIGHBOUR: 'it returns false'. Refute it at one input. -/
def fnBeyondWrong : ChangeSpec := { name := "fnBeyond", fn := fun _ => fun
  | [d1, d2] => { results := [.lit (.bool false)], args := [d1, d2] }
  | _ => none }
def FnBeyondWrongFalsely : Prop := fnBeyondRow.holds Try.pinned (OpenSpec.ofChange fnBeyondWrong)

/-- 'laws.FnPushes': WHATEVER THE INPUT: true; the input reads as it did. -/
def fnPushesSpec : ChangeSpec := { name := "fnPushes", fn := fun _ => fun
  | [d1, d2] => { results := [.lit (.bool true)], args := [d1, d2] }
  | _ => none }
def fnPushesRow : OpenClaim := { program := "ytlflmofclflgbaa", sum := "e24eaf8a94f2000f4993be797bdea34563384041cb835b51d48f9503691d27d7", func := "loop.example/g01268/laws.FnPushes", spec := "fnPushes", inPlace := ["math.sqrt", "math.Float64bits", "math.Float64frombits", "math.Float32bits"], plainKeys := false, apart := false }
def FnPushesSaid : Prop := fnPushesRow.holds Try.pinned (OpenSpec.ofChange fnPushesSpec)

/-- ITS FALSE NEIGHBOUR: 'it returns false'. Refute it at one input. -/
def fnPushesWrong : ChangeSpec := { name := "fnPushes", fn := fun _ => fun
  | [d1, d2] => { results := [.lit (.bool false)], args := [d1, d2] }
  | _ => none }
def FnPushesWrongFalsely : Prop := fnPushesRow.holds Try.pinned (OpenSpec.ofChange fnPushesWrong)

/-- 'laws.FnTouches': WHATEVER THE INPUT: true; the input reads as it did. -/
def fnTouchesSpec : ChangeSpec := { name := "fnTouches", fn := fun _ => fun
  | [d1, d2] => { results := [.lit (.bool true)], args := [d1, d2] }
  | _ => none }
def fnTouchesRow : OpenClaim := { program := "ytlflmofclflgbaa", sum := "e24eaf8a94f2000f4993be797bdea34563384041cb835b51d48f9503691d27d7", func := "loop.example/g01268/laws.FnTouches", spec := "fnTouches", inPlace := ["math.Float64bits", "math.Float64frombits", "math.sqrt"], unfollowed := true, recurses := true, plainKeys := false, apart := false }
def FnTouchesSaid : Prop := fnTouchesRow.holds Try.pinned (OpenSpec.ofChange fnTouchesSpec)

/-- ITS FALSE NEIGHBOUR: 'it returns false'. Refute it at one input. -/
def fnTouchesWrong : ChangeSpec := { name := "fnTouches", fn := fun _ => fun
  | [d1, d2] => { results := [.lit (.bool false)], args := [d1, d2] }
  | _ => none }
def FnTouchesWrongFalsely : Prop := fnTouchesRow.holds Try.pinned (OpenSpec.ofChange fnTouchesWrong)

/-- 'laws.FnExactHopperWalls': WHATEVER THE INPUT: true; the input reads as it did. -/
def fnExactHopperWallsSpec : ChangeSpec := { name := "fnExactHopperWalls", fn := fun _ => fun
  | [d1, d2, d3] => { results := [.lit (.bool true)], args := [d1, d2, d3] }
  | _ => none }
def fnExactHopperWallsRow : OpenClaim := { program := "ytlflmofclflgbaa", sum := "e24eaf8a94f2000f4993be797bdea34563384041cb835b51d48f9503691d27d7", func := "loop.example/g01268/laws.FnExactHopperWalls", spec := "fnExactHopperWalls", inPlace := ["math.Float64bits", "math.Float64frombits"], plainKeys := false, apart := false }
def FnExactHopperWallsSaid : Prop := fnExactHopperWallsRow.holds Try.pinned (OpenSpec.ofChange fnExactHopperWallsSpec)

/-- ITS FALSE NEIGHBOUR: 'it returns false'. Refute it at one input. -/
def fnExactHopperWallsWrong : ChangeSpec := { name := "fnExactHopperWalls", fn := fun _ => fun
  | [d1, d2, d3] => { results := [.lit (.bool false)], args := [d1, d2, d3] }
  | _ => none }
def FnExactHopperWallsWrongFalsely : Prop := fnExactHopperWallsRow.holds Try.pinned (OpenSpec.ofChange fnExactHopperWallsWrong)

/- THE SECOND FORM. 'bulk': how many values and letters a reading holds, each counted each time it is reached (what is shared counts as often as it is met; a slice's spare places count too). A statement '..UptoSaid' is the law's where the arguments, and the package variables that the reading takes, are together of bulk at most 1048576: NARROWER than '..Said'. Prove '..Said' where nothing that the law and all that it calls make is longer than what came in: it says more and counts as full. Else prove '..UptoSaid'. A law counts once. -/
mutual
def uptoBulk {H : Type} : DataW H → Nat
  | .lit (.string bytes) => bytes.length + 1
  | .lit _ => 1
  | .nil => 1
  | .ptr d => uptoBulk d + 1
  | .slice elems spare => uptoBulkAll elems + uptoBulkAll spare + 1
  | .agg parts => uptoBulkAll parts + 1
  | .iface _ d => uptoBulk d + 1
  | .map entries => uptoBulkEntries entries + 1
  | .held _ => 1
def uptoBulkAll {H : Type} : List (DataW H) → Nat
  | [] => 0
  | d :: r => uptoBulk d + uptoBulkAll r
def uptoBulkEntries {H : Type} : List (Lit × DataW H) → Nat
  | [] => 0
  | x :: r => uptoBulkEntry x + uptoBulkEntries r
def uptoBulkEntry {H : Type} : Lit × DataW H → Nat
  | (.string bytes, d) => bytes.length + uptoBulk d + 1
  | (_, d) => uptoBulk d + 1
 end
def uptoSmall : (H : Type) → List (DataW H) → Bool := fun _ ds => decide (uptoBulkAll ds ≤ 1048576)
def OpenSpec.upto (s : _root_.Go.ChangeSpec) : _root_.Go.OpenSpec := { _root_.Go.OpenSpec.ofChange s with cond := some uptoSmall }

/-- 'laws.FnHeaps', WHERE WHAT IT READS IS OF BULK AT MOST 1048576: true; the input reads as it did. -/
def fnHeapsUptoRow : OpenClaim := { program := "ytlflmofclflgbaa", sum := "e24eaf8a94f2000f4993be797bdea34563384041cb835b51d48f9503691d27d7", func := "loop.example/g01268/laws.FnHeaps", spec := "fnHeaps", inPlace := ["math.Float64bits", "math.Float64frombits", "math.Float32bits", "math.sqrt"], unfollowed := true, recurses := true, plainKeys := false, apart := false, narrowed := true }
def FnHeapsUptoSaid : Prop := fnHeapsUptoRow.holds Try.pinned (OpenSpec.upto fnHeapsSpec)

/-- 'laws.FnFlown', WHERE WHAT IT READS IS OF BULK AT MOST 1048576: true; the input reads as it did. -/
def fnFlownUptoRow : OpenClaim := { program := "ytlflmofclflgbaa", sum := "e24eaf8a94f2000f4993be797bdea34563384041cb835b51d48f9503691d27d7", func := "loop.example/g01268/laws.FnFlown", spec := "fnFlown", inPlace := ["math.Float64bits", "math.Float64frombits", "math.sqrt"], unfollowed := true, recurses := true, plainKeys := false, apart := false, narrowed := true }
def FnFlownUptoSaid : Prop := fnFlownUptoRow.holds Try.pinned (OpenSpec.upto fnFlownSpec)

/-- 'laws.FnPairs', WHERE WHAT IT READS IS OF BULK AT MOST 1048576: true; the input reads as it did. -/
def fnPairsUptoRow : OpenClaim := { program := "ytlflmofclflgbaa", sum := "e24eaf8a94f2000f4993be797bdea34563384041cb835b51d48f9503691d27d7", func := "loop.example/g01268/laws.FnPairs", spec := "fnPairs", inPlace := ["math.Float64bits", "math.Float64frombits", "math.sqrt", "math.archFloor", "math.archTrunc"], unfollowed := true, recurses := true, plainKeys := false, apart := false, narrowed := true }
def FnPairsUptoSaid : Prop := fnPairsUptoRow.holds Try.pinned (OpenSpec.upto fnPairsSpec)

/-- 'laws.FnWalls', WHERE WHAT IT READS IS OF BULK AT MOST 1048576: true; the input reads as it did. -/
def fnWallsUptoRow : OpenClaim := { program := "ytlflmofclflgbaa", sum := "e24eaf8a94f2000f4993be797bdea34563384041cb835b51d48f9503691d27d7", func := "loop.example/g01268/laws.FnWalls", spec := "fnWalls", inPlace := ["math.Float64bits", "math.Float64frombits", "math.sqrt", "math.Float32bits"], unfollowed := true, recurses := true, plainKeys := false, apart := false, narrowed := true }
def FnWallsUptoSaid : Prop := fnWallsUptoRow.holds Try.pinned (OpenSpec.upto fnWallsSpec)

/-- 'laws.FnWallPushes', WHERE WHAT IT READS IS OF BULK AT MOST 1048576: true; the input reads as it did. -/
def fnWallPushesUptoRow : OpenClaim := { program := "ytlflmofclflgbaa", sum := "e24eaf8a94f2000f4993be797bdea34563384041cb835b51d48f9503691d27d7", func := "loop.example/g01268/laws.FnWallPushes", spec := "fnWallPushes", inPlace := ["math.Float64bits", "math.Float64frombits", "math.sqrt"], unfollowed := true, recurses := true, plainKeys := false, apart := false, narrowed := true }
def FnWallPushesUptoSaid : Prop := fnWallPushesUptoRow.holds Try.pinned (OpenSpec.upto fnWallPushesSpec)

/-- 'laws.FnBeyond', WHERE WHAT IT READS IS OF BULK AT MOST 1048576: true; the input reads as it did. -/
def fnBeyondUptoRow : OpenClaim := { program := "ytlflmofclflgbaa", sum := "e24eaf8a94f2000f4993be797bdea34563384041cb835b51d48f9503691d27d7", func := "loop.example/g01268/laws.FnBeyond", spec := "fnBeyond", inPlace := ["math.Float64bits", "math.Float64frombits"], plainKeys := false, apart := false, narrowed := true }
def FnBeyondUptoSaid : Prop := fnBeyondUptoRow.holds Try.pinned (OpenSpec.upto fnBeyondSpec)

/-- 'laws.FnPushes', WHERE WHAT IT READS IS OF BULK AT MOST 1048576: true; the input reads as it did. -/
def fnPushesUptoRow : OpenClaim := { program := "ytlflmofclflgbaa", sum := "e24eaf8a94f2000f4993be797bdea34563384041cb835b51d48f9503691d27d7", func := "loop.example/g01268/laws.FnPushes", spec := "fnPushes", inPlace := ["math.sqrt", "math.Float64bits", "math.Float64frombits", "math.Float32bits"], plainKeys := false, apart := false, narrowed := true }
def FnPushesUptoSaid : Prop := fnPushesUptoRow.holds Try.pinned (OpenSpec.upto fnPushesSpec)

/-- 'laws.FnTouches', WHERE WHAT IT READS IS OF BULK AT MOST 1048576: true; the input reads as it did. -/
def fnTouchesUptoRow : OpenClaim := { program := "ytlflmofclflgbaa", sum := "e24eaf8a94f2000f4993be797bdea34563384041cb835b51d48f9503691d27d7", func := "loop.example/g01268/laws.FnTouches", spec := "fnTouches", inPlace := ["math.Float64bits", "math.Float64frombits", "math.sqrt"], unfollowed := true, recurses := true, plainKeys := false, apart := false, narrowed := true }
def FnTouchesUptoSaid : Prop := fnTouchesUptoRow.holds Try.pinned (OpenSpec.upto fnTouchesSpec)

/-- 'laws.FnExactHopperWalls', WHERE WHAT IT READS IS OF BULK AT MOST 1048576: true; the input reads as it did. -/
def fnExactHopperWallsUptoRow : OpenClaim := { program := "ytlflmofclflgbaa", sum := "e24eaf8a94f2000f4993be797bdea34563384041cb835b51d48f9503691d27d7", func := "loop.example/g01268/laws.FnExactHopperWalls", spec := "fnExactHopperWalls", inPlace := ["math.Float64bits", "math.Float64frombits"], plainKeys := false, apart := false, narrowed := true }
def FnExactHopperWallsUptoSaid : Prop := fnExactHopperWallsUptoRow.holds Try.pinned (OpenSpec.upto fnExactHopperWallsSpec)

end Rows
end Go.Proofs.Ytlflmofclflgbaa
